/-
  Package tomb by its contracts: Sweep.
-/
import Derived.Test.YteamkhnmknjkfacDoorTbP
import Derived.Test.YteamkhnmknjkfacDoorTbI
namespace Go.Proofs.YteamkhnmknjkfacDoor
set_option linter.unusedVariables false
set_option linter.unusedSimpArgs false
open Go.RowKit

/-- a row of one type stays when a row of another one grows -/
theorem ownsRow_other {w w' : World} {B : Nat} {e1 e2 : TypeId} {s1 s2 : Nat} {v1 v2 : Value} {n1 n2 : Nat} {xs1 xs2 : List Value} (h1 : w.ownsRow B e1 s1 v1 n1 xs1) (h2 : w.ownsRow B e2 s2 v2 n2 xs2) (hne : e1 ≠ e2) (hg : w.grownBy w' v2.ownBlock) : w'.ownsRow B e1 s1 v1 n1 xs1 := by
  refine ⟨h1.1, ?_⟩
  rcases h1.2 with hn | ⟨g, cap, cur, rfl, hB, hg1, rest⟩
  · exact .inl hn
  · refine .inr ⟨g, cap, cur, rfl, hB, (hg.block g (Array.getElem?_eq_some_iff.1 hg1).1 ?_).trans hg1, rest⟩
    intro hc
    rcases h2.2 with ⟨rfl, _⟩ | ⟨g', cap', cur', rfl, _, hg2, _⟩
    · cases hc
    · have e : g = g' := Option.some.inj hc
      subst e
      rw [hg1] at hg2
      simp at hg2
      exact hne hg2.2

/-- what is left, the keys and an error come back -/
def SweepRet (w : World) (L : List En) (K : List Int) (n : Int) (e : Ending) (w' : World) : Prop := ∃ v1 v2, e = .returned (.tuple #[v1, v2, eV n]) ∧ RowIs w' v1 L ∧ IntsIs w' v2 K ∧ Below w.heap.size w w'

theorem sweptB_yes {mark x1 : Int} {x0 x2 : Int} {x4 : ByteArray} (h : x1 ≤ mark) : sweptB mark ⟨x0, x1, x2, true, x4⟩ = true := by simp [sweptB, h]
theorem sweptB_no {mark x1 : Int} {x0 x2 : Int} {x3 : Bool} {x4 : ByteArray} (h : ¬ x1 ≤ mark) : sweptB mark ⟨x0, x1, x2, x3, x4⟩ = false := by simp [sweptB, h]
theorem sweptB_not {mark x1 : Int} {x0 x2 : Int} {x4 : ByteArray} : sweptB mark ⟨x0, x1, x2, false, x4⟩ = false := by simp [sweptB]

set_option maxHeartbeats 8000000 in
theorem tsweep_c (v : Value) (l : List En) (mark : Int) (w : World) (hr : RowIs w v l) :
    Calls Tryd.prog 20 #[v, .int .i64 mark] w (SweepRet w (tombSweep l mark).1 (tombSweep l mark).2.1 (tombSweep l mark).2.2) := by
  have HR : Hid (RowIs w v l) := hr
  by_cases hn : badL l = 0
  · have HN0 : Hid (badL l = 0) := hn
    have HG : Hid (GoodL l) := badL_good hn
    cases hk : markB mark
    · have HC : Hid (tombSweep l mark = ([], [], 1)) := by
        show tombSweep l mark = _
        rw [tombSweep, if_neg (by simpa using hn), if_pos hk]
      rw [HC.out]
      clear hr hn
      by_cases h0 : mark < 0
      · have hd0 : decide (mark < 0) = true := by simpa using h0
        clear hk
        go_enter Tryd.func20, Tryd.ntmps20
        go_wp2_with fail
        refine (cacheCheck_ok HR.out HN0.out).mono ?_
        rintro e w1 ⟨rfl, hb⟩
        have B1 : Hid (Below w.heap.size w w1) := hb
        clear hb
        go_wp2_with fail
        go_ret3
        exact ⟨.slice none 0 0, .slice none 0 0, rfl, RowIs.nil _, IntsIs.nil _, B1.out⟩
      · have h1 : 1000 < mark := by simp [markB] at hk; omega
        have hd0 : decide (mark < 0) = false := by simpa using h0
        have hd1 : decide (1000 < mark) = true := by simpa using h1
        clear hk
        go_enter Tryd.func20, Tryd.ntmps20
        go_wp2_with fail
        refine (cacheCheck_ok HR.out HN0.out).mono ?_
        rintro e w1 ⟨rfl, hb⟩
        have B1 : Hid (Below w.heap.size w w1) := hb
        clear hb
        go_wp2_with fail
        go_ret3
        exact ⟨.slice none 0 0, .slice none 0 0, rfl, RowIs.nil _, IntsIs.nil _, B1.out⟩
    · have h0 : ¬ mark < 0 := by simp [markB] at hk; omega
      have h1 : ¬ 1000 < mark := by simp [markB] at hk; omega
      have HC : Hid (tombSweep l mark = (keptL mark (l.take l.length), sweptL mark (l.take l.length), 0)) := by
        show tombSweep l mark = _
        rw [tombSweep, if_neg (by simpa using hn), if_neg (by rw [hk]; simp), List.take_length]
      rw [HC.out]
      have hd0 : decide (mark < 0) = false := by simpa using h0
      have hd1 : decide (1000 < mark) = false := by simpa using h1
      clear hk hn h0 h1 HC
      obtain ⟨hlen, p, cap, rfl, hrow⟩ := hr
      have HRow : Hid (l ≠ [] → ∃ b o, p = some ⟨b, o, none⟩ ∧ b < w.heap.size ∧ ∀ j (h : j < l.length), EnAt w b (o + j * 5) l[j]) := hrow
      clear hrow
      obtain ⟨n, HN⟩ : ∃ n, Hid (l.length = n) := ⟨_, rfl⟩
      rw [HN.out] at hlen HR ⊢
      have hn63 : n ≤ 9223372036854775807 := hlen
      go_enter Tryd.func20, Tryd.ntmps20
      go_wp2_with fail
      refine (cacheCheck_ok HR.out HN0.out).mono ?_
      rintro e w1 ⟨rfl, hb⟩
      have B1 : Hid (Below w.heap.size w w1) := hb
      clear hb
      go_wp2_with fail
      go_loopw [8, 9, 26] (fun s8 s9 s26 wr => ∃ (j : Nat) (v8 v9 : Value), s8 = v8 ∧ s9 = v9 ∧ j ≤ n ∧ s26 = .int .i64 j ∧ Hid (wr.ownsRow w.heap.size 40 5 v8 (keptL mark (l.take j)).length (rowC (keptL mark (l.take j)))) ∧ Hid (wr.ownsRow w.heap.size 3 1 v9 (sweptL mark (l.take j)).length (intC (sweptL mark (l.take j)))) ∧ Hid (Below w.heap.size w wr)) (fun _ _ i _ => n - (intOf i).toNat)
      case atStart => exact ⟨0, .slice none 0 0, .slice none 0 0, rfl, rfl, Nat.zero_le _, rfl, World.ownsRow_nil _ _ _ _, World.ownsRow_nil _ _ _ _, B1⟩
      case round =>
        obtain ⟨j, v8, v9, hs8, hs9, hj, rfl, HO8, HO9, HB⟩ := hrel
        have hs8' := hs8.symm
        have hs9' := hs9.symm
        clear hs8 hs9
        subst hs8'
        subst hs9'
        by_cases hlt : j < n
        · have hjl : j < l.length := by rw [HN.out]; exact hlt
          obtain ⟨b, o, rfl, hbw, hat⟩ := HRow.out (fun h => by simp [h] at hjl)
          have HAt : Hid (EnAt wr b (o + j * 5) l[j]) := (hat j hjl).of_block (HB.out.block b hbw)
          clear hat
          have hlti : (j : Int) < (n : Int) := by omega
          have hws := HB.out.size
          have HY : Hid (sweptB mark l[j] = true → sweptL mark (l.take (j + 1)) = sweptL mark (l.take j) ++ [l[j].k] ∧ keptL mark (l.take (j + 1)) = keptL mark (l.take j)) := fun ha => swept_yes hjl ha
          have HNo : Hid (sweptB mark l[j] = false → sweptL mark (l.take (j + 1)) = sweptL mark (l.take j) ∧ keptL mark (l.take (j + 1)) = keptL mark (l.take j) ++ [l[j]]) := fun ha => swept_no hjl ha
          have HL8 : Hid ((keptL mark (l.take j)).length ≤ 100) := Nat.le_trans (keptL_len _ _) (Nat.le_trans (List.length_take_le _ _) (Nat.le_trans hj (Nat.le_trans (by rw [← HN.out]; exact HG.out.len) (by omega))))
          have HL9 : Hid ((sweptL mark (l.take j)).length ≤ 100) := Nat.le_trans (sweptL_len _ _) (Nat.le_trans (List.length_take_le _ _) (Nat.le_trans hj (Nat.le_trans (by rw [← HN.out]; exact HG.out.len) (by omega))))
          obtain ⟨x, HX⟩ : ∃ x, Hid (l[j] = x) := ⟨l[j], show l[j] = l[j] from rfl⟩
          rw [HX.out] at HAt HY HNo
          obtain ⟨x0, x1, x2, x3, x4⟩ := x
          obtain ⟨c0, c1, c2, c3, c4⟩ := HAt.out
          dsimp only at c0 c1 c2 c3 c4
          obtain ⟨ks, HKs⟩ : ∃ ks, Hid (sweptL mark (l.take j) = ks) := ⟨_, rfl⟩
          obtain ⟨xs, HXs⟩ : ∃ xs, Hid (keptL mark (l.take j) = xs) := ⟨_, rfl⟩
          rw [HXs.out] at HO8 HY HNo HL8
          rw [HKs.out] at HO9 HY HNo HL9
          clear HXs HKs HX
          have HBa : Hid (Below w.heap.size w ((wr.alloc (.cells #[.int .i64 x0, .int .i64 x1, .int .i64 x2, .bool x3, .string x4] 40)).alloc (.cells #[.int .i64 x0, .int .i64 x1, .int .i64 x2, .bool x3, .string x4] 40))) := (HB.out.alloc hws _).alloc (by simp; omega) _
          have HO8a : Hid (((wr.alloc (.cells #[.int .i64 x0, .int .i64 x1, .int .i64 x2, .bool x3, .string x4] 40)).alloc (.cells #[.int .i64 x0, .int .i64 x1, .int .i64 x2, .bool x3, .string x4] 40)).ownsRow w.heap.size 40 5 v8 xs.length (rowC xs)) := (HO8.out.alloc _).alloc _
          have HO9a : Hid (((wr.alloc (.cells #[.int .i64 x0, .int .i64 x1, .int .i64 x2, .bool x3, .string x4] 40)).alloc (.cells #[.int .i64 x0, .int .i64 x1, .int .i64 x2, .bool x3, .string x4] 40)).ownsRow w.heap.size 3 1 v9 ks.length (intC ks)) := (HO9.out.alloc _).alloc _
          have HVa : Hid (((wr.alloc (.cells #[.int .i64 x0, .int .i64 x1, .int .i64 x2, .bool x3, .string x4] 40)).alloc (.cells #[.int .i64 x0, .int .i64 x1, .int .i64 x2, .bool x3, .string x4] 40)).heap[wr.heap.size + 1]? = some (.cells (En.cells (En.mk x0 x1 x2 x3 x4)).toArray 40 (0, 0))) := alloc_at _ _ _ (by simp)
          have HSa : Hid (w.heap.size ≤ ((wr.alloc (.cells #[.int .i64 x0, .int .i64 x1, .int .i64 x2, .bool x3, .string x4] 40)).alloc (.cells #[.int .i64 x0, .int .i64 x1, .int .i64 x2, .bool x3, .string x4] 40)).heap.size) := show _ ≤ _ from (by simp; omega)
          cases x3
          · have HE : Hid (sweptL mark (l.take (j + 1)) = ks ∧ keptL mark (l.take (j + 1)) = xs ++ [En.mk x0 x1 x2 false x4]) := HNo.out sweptB_not
            clear HY HNo
            go_wp2_with (at_builtin; refine wp_app _ rfl _ _ rfl w.heap.size _ xs (En.mk x0 x1 x2 false x4) rfl HO8a.out _ rfl HVa.out HL8.out HSa.out ?_)
            intro va wa hown hgrow
            have HOp : Hid (wa.ownsRow w.heap.size 40 5 va (xs ++ [En.mk x0 x1 x2 false x4]).length (rowC (xs ++ [En.mk x0 x1 x2 false x4]))) := hown
            have HO9p : Hid (wa.ownsRow w.heap.size 3 1 v9 ks.length (intC ks)) := ownsRow_other HO9a.out HO8a.out (by decide) hgrow.out
            have HBp : Hid (Below w.heap.size w wa) := below_grownF (HBa.out) (Nat.le_refl _) hgrow.out (fun c hc => ownsRow_fromF HO8.out c hc)
            clear hown hgrow HO8a HO9a HVa HL8 HL9 HSa
            clear c0 c1 c2 c3 c4
            go_wp2_with fail
            go_roundw
            case rel =>
              refine ⟨j + 1, va, v9, rfl, rfl, by omega, by go_num, ?_, ?_, HBp⟩
              · show World.ownsRow _ _ _ _ _ _ _
                rw [HE.out.2]
                exact HOp.out
              · show World.ownsRow _ _ _ _ _ _ _
                rw [HE.out.1]
                exact HO9p.out
            case measure => simp [intOf]; omega
          · by_cases hx : x1 ≤ mark
            · have hxd : decide (x1 ≤ mark) = true := by simpa using hx
              have HE : Hid (sweptL mark (l.take (j + 1)) = ks ++ [x0] ∧ keptL mark (l.take (j + 1)) = xs) := HY.out (sweptB_yes hx)
              clear HY HNo HO8a HO9a HVa HSa HBa hx
              have HBb : Hid (Below w.heap.size w ((wr.alloc (.cells #[.int .i64 x0, .int .i64 x1, .int .i64 x2, .bool true, .string x4] 40)).alloc (.cells #[.int .i64 x0] 3))) := (HB.out.alloc hws _).alloc (by simp; omega) _
              have HO8b : Hid (((wr.alloc (.cells #[.int .i64 x0, .int .i64 x1, .int .i64 x2, .bool true, .string x4] 40)).alloc (.cells #[.int .i64 x0] 3)).ownsRow w.heap.size 40 5 v8 xs.length (rowC xs)) := (HO8.out.alloc _).alloc _
              have HO9b : Hid (((wr.alloc (.cells #[.int .i64 x0, .int .i64 x1, .int .i64 x2, .bool true, .string x4] 40)).alloc (.cells #[.int .i64 x0] 3)).ownsRow w.heap.size 3 1 v9 ks.length (intC ks)) := (HO9.out.alloc _).alloc _
              have HVb : Hid (((wr.alloc (.cells #[.int .i64 x0, .int .i64 x1, .int .i64 x2, .bool true, .string x4] 40)).alloc (.cells #[.int .i64 x0] 3)).heap[wr.heap.size + 1]? = some (.cells #[.int .i64 x0] 3 (0, 0))) := alloc_at _ _ _ (by simp)
              have HSb : Hid (w.heap.size ≤ ((wr.alloc (.cells #[.int .i64 x0, .int .i64 x1, .int .i64 x2, .bool true, .string x4] 40)).alloc (.cells #[.int .i64 x0] 3)).heap.size) := show _ ≤ _ from (by simp; omega)
              go_wp2_with (at_builtin; refine wp_appI _ rfl _ _ rfl w.heap.size _ ks x0 rfl HO9b.out _ rfl HVb.out HL9.out HSb.out ?_)
              intro va wa hown hgrow
              have HOp : Hid (wa.ownsRow w.heap.size 3 1 va (ks ++ [x0]).length (intC (ks ++ [x0]))) := hown
              have HO8p : Hid (wa.ownsRow w.heap.size 40 5 v8 xs.length (rowC xs)) := ownsRow_other HO8b.out HO9b.out (by decide) hgrow.out
              have HBp : Hid (Below w.heap.size w wa) := below_grownF (HBb.out) (Nat.le_refl _) hgrow.out (fun c hc => ownsRow_fromF HO9.out c hc)
              clear hown hgrow HO8b HO9b HVb HL8 HL9 HSb
              clear c0 c1 c2 c3 c4
              go_wp2_with fail
              go_roundw
              case rel =>
                refine ⟨j + 1, v8, va, rfl, rfl, by omega, by go_num, ?_, ?_, HBp⟩
                · show World.ownsRow _ _ _ _ _ _ _
                  rw [HE.out.2]
                  exact HO8p.out
                · show World.ownsRow _ _ _ _ _ _ _
                  rw [HE.out.1]
                  exact HOp.out
              case measure => simp [intOf]; omega
            · have hxd : decide (x1 ≤ mark) = false := by simpa using hx
              have HE : Hid (sweptL mark (l.take (j + 1)) = ks ∧ keptL mark (l.take (j + 1)) = xs ++ [En.mk x0 x1 x2 true x4]) := HNo.out (sweptB_no hx)
              clear HY HNo hx
              go_wp2_with (at_builtin; refine wp_app _ rfl _ _ rfl w.heap.size _ xs (En.mk x0 x1 x2 true x4) rfl HO8a.out _ rfl HVa.out HL8.out HSa.out ?_)
              intro va wa hown hgrow
              have HOp : Hid (wa.ownsRow w.heap.size 40 5 va (xs ++ [En.mk x0 x1 x2 true x4]).length (rowC (xs ++ [En.mk x0 x1 x2 true x4]))) := hown
              have HO9p : Hid (wa.ownsRow w.heap.size 3 1 v9 ks.length (intC ks)) := ownsRow_other HO9a.out HO8a.out (by decide) hgrow.out
              have HBp : Hid (Below w.heap.size w wa) := below_grownF (HBa.out) (Nat.le_refl _) hgrow.out (fun c hc => ownsRow_fromF HO8.out c hc)
              clear hown hgrow HO8a HO9a HVa HL8 HL9 HSa
              clear c0 c1 c2 c3 c4
              go_wp2_with fail
              go_roundw
              case rel =>
                refine ⟨j + 1, va, v9, rfl, rfl, by omega, by go_num, ?_, ?_, HBp⟩
                · show World.ownsRow _ _ _ _ _ _ _
                  rw [HE.out.2]
                  exact HOp.out
                · show World.ownsRow _ _ _ _ _ _ _
                  rw [HE.out.1]
                  exact HO9p.out
              case measure => simp [intOf]; omega
        · obtain rfl : j = n := by omega
          go_wp2_with fail
          go_ret3
          exact ⟨v8, v9, rfl, RowIs.own HO8.out, IntsIs.own HO9.out, HB.out⟩
  · obtain ⟨n, HN⟩ : ∃ n, Hid (badL l = n) := ⟨_, rfl⟩
    have HC : Hid (tombSweep l mark = ([], [], n)) := by
      show tombSweep l mark = _
      rw [tombSweep, if_pos hn, HN.out]
    rw [HN.out] at hn
    rw [HC.out]
    clear hr
    go_enter Tryd.func20, Tryd.ntmps20
    go_wp2_with fail
    refine (cacheCheck_err HR.out HN.out hn).mono ?_
    rintro e w1 ⟨rfl, hb⟩
    have B1 : Hid (Below w.heap.size w w1) := hb
    clear hb
    go_wp2_with fail
    go_ret3
    exact ⟨.slice none 0 0, .slice none 0 0, by simp [eV, hn], RowIs.nil _, IntsIs.nil _, B1.out⟩
end Go.Proofs.YteamkhnmknjkfacDoor
