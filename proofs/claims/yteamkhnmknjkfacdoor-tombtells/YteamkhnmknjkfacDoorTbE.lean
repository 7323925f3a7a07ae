/-
  Package tomb by its contracts: Safe.
-/
import Derived.Test.YteamkhnmknjkfacDoorTbK
import Derived.Test.YteamkhnmknjkfacDoorTbC
import Derived.Test.YteamkhnmknjkfacDoorTbI
namespace Go.Proofs.YteamkhnmknjkfacDoor
set_option linter.unusedVariables false
set_option linter.unusedSimpArgs false
open Go.RowKit Go.Shelf

theorem nolack_c (v : Value) (ls : List (List En)) (eb : Nat) (x0 x1 x2 : Int) (x3 : Bool) (x4 : ByteArray) (B : Bool) (hB : (!allG ls x0 x1) = B) (w : World) (hr : RowsIs w v ls) (he : BoxAt w eb x0 x1 x2 x3 x4) :
    Calls Tryd.prog 34 #[v, .func (.func 32) #[] #[.pointer (some ⟨eb, 0, none⟩)]] w fun e w' => e = .returned (.bool B) ∧ Below w.heap.size w w' := by
  refine containsR_c 32 #[.pointer (some ⟨eb, 0, none⟩)] v ls (fun j => !knowsG (ls.getD j []) x0 x1) B w hr (enters_of Tryd.func32 (by kernel_rfl) rfl) ?_ ?_
  · intro j hj u W' hW' hru
    rw [getD_at _ _ _ hj]
    exact lacks_c u _ eb x0 x1 x2 x3 x4 _ rfl W' hru (he.below hW' he.lt)
  · rw [any_range ls [] (fun l => !knowsG l x0 x1), ← hB, allG, List.not_all_eq_any_not]

/-- numbers and an error come back -/
def IntsRet (w : World) (xs : List Int) (n : Int) (e : Ending) (w' : World) : Prop := ∃ v', e = .returned (.tuple #[v', eV n]) ∧ IntsIs w' v' xs ∧ Below w.heap.size w w'

set_option maxHeartbeats 4000000 in
theorem tsafe_c (v : Value) (ls : List (List En)) (w : World) (hr : RowsIs w v ls) :
    Calls Tryd.prog 17 #[v] w (IntsRet w (tombSafe ls).1 (tombSafe ls).2) := by
  have HR : Hid (RowsIs w v ls) := hr
  by_cases hn : badLs ls = 0
  · have HN0 : Hid (badLs ls = 0) := hn
    have hgs := badLs_good hn
    obtain ⟨l, HL⟩ : ∃ l, Hid (ls.headD [] = l) := ⟨_, rfl⟩
    have HC : Hid (tombSafe ls = (safeFrom ls (l.take l.length), 0)) := by
      show tombSafe ls = _
      rw [tombSafe, if_neg (by simpa using hn), List.take_length, HL.out]
    rw [HC.out]
    have hl0 : ls[0]'hgs.pos = l := by
      rw [← HL.out]
      cases ls with
      | nil => have := hgs.pos; simp at this
      | cons a b => rfl
    have HG : Hid (GoodL l) := by
      refine badL_good ?_
      rw [← hl0]
      exact hgs.all _ (List.getElem_mem _)
    obtain ⟨hlen, p, cap, rfl, hrow⟩ := hr
    obtain ⟨b, o, rfl, hbw, hat⟩ := hrow (fun h => by have := hgs.pos; simp [h] at this)
    obtain ⟨u, hu, hru⟩ := hat 0 hgs.pos
    rw [hl0] at hru
    rw [Nat.add_zero] at hu
    clear hat hl0 hrow
    have hpos : 0 < ls.length := hgs.pos
    clear hgs hn HC
    obtain ⟨N, HN⟩ : ∃ N, Hid (ls.length = N) := ⟨_, rfl⟩
    rw [HN.out] at hlen HR hpos ⊢
    have hposi : (0 : Int) < (N : Int) := by omega
    obtain ⟨hlen0, q, cap0, rfl, hrow⟩ := hru
    have HRow : Hid (l ≠ [] → ∃ b o, q = some ⟨b, o, none⟩ ∧ b < w.heap.size ∧ ∀ j (h : j < l.length), EnAt w b (o + j * 5) l[j]) := hrow
    clear hrow
    obtain ⟨n, HNl⟩ : ∃ n, Hid (l.length = n) := ⟨_, rfl⟩
    rw [HNl.out] at hlen0 hu ⊢
    have hn63 : n ≤ 9223372036854775807 := hlen0
    go_enter Tryd.func17, Tryd.ntmps17
    go_wp2_with fail
    refine (tcheck_ok HR.out HN0.out).mono ?_
    rintro e w1 ⟨rfl, hb⟩
    have B1 : Hid (Below w.heap.size w w1) := hb
    have c0 : w1.cell? ⟨b, o, none⟩ = some (.slice q n cap0) := (World.cell?_of_block (a := ⟨b, o, none⟩) (hb.block b hbw)).trans hu
    clear hb hu
    go_wp2_with fail
    go_loopw [5, 18] (fun s5 s18 wr => ∃ (j : Nat) (v5 : Value), s5 = v5 ∧ j ≤ n ∧ s18 = .int .i64 j ∧ Hid (wr.ownsRow w.heap.size 3 1 v5 (safeFrom ls (l.take j)).length (intC (safeFrom ls (l.take j)))) ∧ Hid (Below w.heap.size w wr)) (fun _ i _ => n - (intOf i).toNat)
    case atStart => exact ⟨0, .slice none 0 0, rfl, Nat.zero_le _, rfl, World.ownsRow_nil _ _ _ _, B1⟩
    case round =>
      obtain ⟨j, v5, hs5, hj, rfl, HO, HB⟩ := hrel
      have hs5' := hs5.symm
      clear hs5
      subst hs5'
      clear c0
      by_cases hlt : j < n
      · have hjl : j < l.length := by rw [HNl.out]; exact hlt
        obtain ⟨b', o', rfl, hbw', hat⟩ := HRow.out (fun h => by simp [h] at hjl)
        have HAt : Hid (EnAt wr b' (o' + j * 5) l[j]) := (hat j hjl).of_block (HB.out.block b' hbw')
        clear hat
        have hlti : (j : Int) < (n : Int) := by omega
        have hws := HB.out.size
        have HY : Hid (allG ls l[j].k l[j].v = true → safeFrom ls (l.take (j + 1)) = safeFrom ls (l.take j) ++ [l[j].k]) := fun ha => safe_yes hjl ha
        have HNo : Hid (allG ls l[j].k l[j].v = false → safeFrom ls (l.take (j + 1)) = safeFrom ls (l.take j)) := fun ha => safe_no hjl ha
        have HLn : Hid ((safeFrom ls (l.take j)).length ≤ 8) := Nat.le_trans (safeFrom_len _ _) (Nat.le_trans (List.length_take_le _ _) (Nat.le_trans hj (by rw [← HNl.out]; exact HG.out.len)))
        obtain ⟨x, HX⟩ : ∃ x, Hid (l[j] = x) := ⟨l[j], show l[j] = l[j] from rfl⟩
        rw [HX.out] at HAt HY HNo
        obtain ⟨x0, x1, x2, x3, x4⟩ := x
        obtain ⟨c0, c1, c2, c3, c4⟩ := HAt.out
        dsimp only at c0 c1 c2 c3 c4 HY HNo
        obtain ⟨xs, HXs⟩ : ∃ xs, Hid (safeFrom ls (l.take j) = xs) := ⟨_, rfl⟩
        rw [HXs.out] at HO HY HNo HLn
        have HBx : Hid (BoxAt (wr.alloc (.cells #[.int .i64 x0, .int .i64 x1, .int .i64 x2, .bool x3, .string x4] 40)) wr.heap.size x0 x1 x2 x3 x4) := box_new wr x0 x1 x2 x3 x4 wr.heap.size rfl
        have HBa : Hid (Below w.heap.size w (wr.alloc (.cells #[.int .i64 x0, .int .i64 x1, .int .i64 x2, .bool x3, .string x4] 40))) := HB.out.alloc hws _
        have HOa : Hid ((wr.alloc (.cells #[.int .i64 x0, .int .i64 x1, .int .i64 x2, .bool x3, .string x4] 40)).ownsRow w.heap.size 3 1 v5 xs.length (intC xs)) := HO.out.alloc _
        cases hA : allG ls x0 x1
        · have HE : Hid (safeFrom ls (l.take (j + 1)) = xs) := HNo.out hA
          have HA : Hid ((!allG ls x0 x1) = true) := by show _ = _; rw [hA]; rfl
          clear HY HNo hA
          go_wp2_with fail
          refine (nolack_c _ ls _ x0 x1 x2 x3 x4 true HA.out _ (HR.out.below HBa.out) HBx.out).mono ?_
          rintro e w2 ⟨rfl, hb⟩
          have HB2 : Hid (Below w.heap.size w w2) := HBa.out.trans (hb.mono HBa.out.size)
          have HO2 : Hid (w2.ownsRow w.heap.size 3 1 v5 xs.length (intC xs)) := ownsRow_belowF HOa.out hb
          clear hb c0 c1 c2 c3 c4
          go_wp2_with fail
          go_roundw
          case rel =>
            refine ⟨j + 1, v5, rfl, by omega, by go_num, ?_, HB2⟩
            show World.ownsRow _ _ _ _ _ _ _
            rw [HE.out]
            exact HO2.out
          case measure => simp [intOf]; omega
        · have HE : Hid (safeFrom ls (l.take (j + 1)) = xs ++ [x0]) := HY.out hA
          have HA : Hid ((!allG ls x0 x1) = false) := by show _ = _; rw [hA]; rfl
          clear HY HNo hA
          go_wp2_with fail
          refine (nolack_c _ ls _ x0 x1 x2 x3 x4 false HA.out _ (HR.out.below HBa.out) HBx.out).mono ?_
          rintro e w2 ⟨rfl, hb⟩
          have HB2 : Hid (Below w.heap.size w w2) := HBa.out.trans (hb.mono HBa.out.size)
          have HO2 : Hid (w2.ownsRow w.heap.size 3 1 v5 xs.length (intC xs)) := ownsRow_belowF HOa.out hb
          have HBx2 : Hid (BoxAt w2 wr.heap.size x0 x1 x2 x3 x4) := HBx.out.below hb HBx.out.lt
          have hws2 := HB2.out.size
          clear hb c0 c1 c2 c3 c4
          obtain ⟨c0, c1, c2, c3, c4, cf⟩ := HBx2.out
          have HOb : Hid ((w2.alloc (.cells #[.int .i64 x0] 3)).ownsRow w.heap.size 3 1 v5 xs.length (intC xs)) := HO2.out.alloc _
          have HVa : Hid ((w2.alloc (.cells #[.int .i64 x0] 3)).heap[w2.heap.size]? = some (.cells #[.int .i64 x0] 3 (0, 0))) := alloc_at _ _ _ rfl
          have HSa : Hid (w.heap.size ≤ (w2.alloc (.cells #[.int .i64 x0] 3)).heap.size) := show _ ≤ _ from (by simp; omega)
          have HLa : Hid (xs.length ≤ 100) := Nat.le_trans HLn.out (by omega)
          have HBb : Hid (Below w.heap.size w (w2.alloc (.cells #[.int .i64 x0] 3))) := HB2.out.alloc hws2 _
          go_wp2_with (at_builtin; refine wp_appI _ rfl _ _ rfl w.heap.size _ xs x0 rfl HOb.out _ rfl HVa.out HLa.out HSa.out ?_)
          intro va wa hown hgrow
          have HOp : Hid (wa.ownsRow w.heap.size 3 1 va (xs ++ [x0]).length (intC (xs ++ [x0]))) := hown
          have HBp : Hid (Below w.heap.size w wa) := below_grownF (HBb.out) (Nat.le_refl _) hgrow.out (fun c hc => ownsRow_fromF HO.out c hc)
          clear hown hgrow HOb HVa HLa HSa
          clear c0 c1 c2 c3 c4 cf
          go_wp2_with fail
          go_roundw
          case rel =>
            refine ⟨j + 1, va, rfl, by omega, by go_num, ?_, HBp⟩
            show World.ownsRow _ _ _ _ _ _ _
            rw [HE.out]
            exact HOp.out
          case measure => simp [intOf]; omega
      · obtain rfl : j = n := by omega
        go_wp2_with fail
        go_ret2
        exact ⟨v5, rfl, IntsIs.own HO.out, HB.out⟩
  · obtain ⟨n, HN⟩ : ∃ n, Hid (badLs ls = n) := ⟨_, rfl⟩
    have HC : Hid (tombSafe ls = ([], n)) := by
      show tombSafe ls = _
      rw [tombSafe, if_pos hn, HN.out]
    rw [HN.out] at hn
    rw [HC.out]
    clear hr
    go_enter Tryd.func17, Tryd.ntmps17
    go_wp2_with fail
    refine (tcheck_err HR.out HN.out hn).mono ?_
    rintro e w1 ⟨rfl, hb⟩
    have B1 : Hid (Below w.heap.size w w1) := hb
    clear hb
    go_wp2_with fail
    go_ret2
    exact ⟨.slice none 0 0, by simp [eV, hn], IntsIs.nil _, B1.out⟩
end Go.Proofs.YteamkhnmknjkfacDoor
