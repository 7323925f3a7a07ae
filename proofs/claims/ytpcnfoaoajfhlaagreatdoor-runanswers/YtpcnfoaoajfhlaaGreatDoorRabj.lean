/-
  The document's Add to a cache that has the key (mereref1.Add) by its contract.
  The document's Add and All (mereref1) by their contracts: they build what package cache builds.
-/
import Derived.Test.YtpcnfoaoajfhlaaGreatDoorRabi
namespace Go.Proofs.YtpcnfoaoajfhlaaGreatDoor
set_option linter.unusedVariables false
set_option linter.unusedSimpArgs false
set_option linter.unusedVariables false
set_option linter.unusedSimpArgs false
open Go.RowKit

theorem rJoin_o {ka va aa : Int} {ga : Bool} {ta : ByteArray} {kb vb ab : Int} {gb : Bool} {tb : ByteArray} {k v a : Int} {g : Bool} {t : ByteArray} {n : Int} (h : joinE ⟨ka, va, aa, ga, ta⟩ ⟨kb, vb, ab, gb, tb⟩ = (⟨k, v, a, g, t⟩, n)) (hb : bad2 (bad ka va aa ga ta) (bad kb vb ab gb tb) = 0) (hk : ka = kb) (w : World) :
    Calls Tryz.prog 139 #[.agg #[.int .i64 ka, .int .i64 va, .int .i64 aa, .bool ga, .string ta], .agg #[.int .i64 kb, .int .i64 vb, .int .i64 ab, .bool gb, .string tb]] w fun e w' => e = .returned (.tuple #[.agg #[.int .i64 k, .int .i64 v, .int .i64 a, .bool g, .string t], .int .i64 n]) ∧ Below w.heap.size w w' := by
  have c := rJoin_c ka va aa ga ta kb vb ab gb tb w hb hk
  rw [h] at c
  exact c

set_option maxHeartbeats 8000000 in
theorem rAdd_some (v : Value) (l : List En) (k vv a : Int) (g : Bool) (t : ByteArray) (x0 x1 x2 : Int) (x3 : Bool) (x4 : ByteArray) (J0 J1 J2 : Int) (J3 : Bool) (J4 : ByteArray) (n1 : Int) (w : World) (hr : RowIs w v l) (hg : GoodL l) (he : bad k vv a g t = 0) (hk : getE l k = some ⟨x0, x1, x2, x3, x4⟩) (hj : joinE ⟨x0, x1, x2, x3, x4⟩ ⟨k, vv, a, g, t⟩ = (⟨J0, J1, J2, J3, J4⟩, n1)) :
    Calls Tryz.prog 92 #[v, .agg #[.int .i64 k, .int .i64 vv, .int .i64 a, .bool g, .string t]] w (RAddIs w (if n1 ≠ 0 then [] else l.take (placeE l k) ++ ⟨J0, J1, J2, J3, J4⟩ :: l.drop (placeE l k + 1)) n1) := by
  have HR : Hid (RowIs w v l) := hr
  have H8 : Hid (l.length ≤ 8) := hg.len
  have HKn : Hid (getE l k = some ⟨x0, x1, x2, x3, x4⟩) := hk
  have HJ : Hid (joinE ⟨x0, x1, x2, x3, x4⟩ ⟨k, vv, a, g, t⟩ = (⟨J0, J1, J2, J3, J4⟩, n1)) := hj
  obtain ⟨hm, hmx, hmk⟩ := getE_some hg.rise hk
  have HX0 : Hid (x0 = k) := hmk
  have HBd : Hid (bad2 (bad x0 x1 x2 x3 x4) (bad k vv a g t) = 0) := by
    have h1 : En.bad ⟨x0, x1, x2, x3, x4⟩ = 0 := hg.all _ ((getE_iff hg.rise).1 hk).1
    exact bad2_zero.2 ⟨h1, he⟩
  have HJk : Hid (n1 = 0 → J0 = k) := fun h => by
    have hj' := HJ.out
    rw [h] at hj'
    obtain ⟨_, _, h3, h4⟩ := joinE_ok hj'
    rcases h4 with h4 | h4
    · rw [show J0 = x0 from congrArg En.k h4]; exact hmk
    · exact congrArg En.k h4
  have HL0 : Hid (∀ j (h : j < l.length), j < placeE l k → l[j].k < k) := fun j h hj => placeE_less l k j h hj
  have HG0 : Hid (∀ j (h : j < l.length), placeE l k < j → l[j].k > k) := fun j h hj => by
    have h1 := List.pairwise_iff_getElem.1 hg.rise _ _ hm h hj
    rw [hmx] at h1
    dsimp only at h1 hmk
    omega
  have HE0 : Hid (∀ h : placeE l k < l.length, l[placeE l k].k = k) := fun h => by rw [hmx]; exact hmk
  obtain ⟨m, HMm⟩ : ∃ m, Hid (placeE l k = m) := ⟨_, rfl⟩
  rw [HMm.out] at hm ⊢
  clear hmx hmk hg hk he hj
  obtain ⟨hlen, p, cap, rfl, hrow⟩ := hr
  have HRow : Hid (l ≠ [] → ∃ b o, p = some ⟨b, o, none⟩ ∧ b < w.heap.size ∧ ∀ j (h : j < l.length), EnAt w b (o + j * 5) l[j]) := hrow
  clear hrow
  obtain ⟨n, HN⟩ : ∃ n, Hid (l.length = n) := ⟨_, rfl⟩
  rw [HN.out] at hlen HR hm ⊢
  have HMn : Hid (m < n) := hm
  have hn63 : n ≤ 9223372036854775807 := hlen
  have HB0 : Hid (Below w.heap.size w (w.alloc (.cells #[.int .i64 k, .int .i64 vv, .int .i64 a, .bool g, .string t] 46))) := by show Below _ _ _; go_grown
  obtain ⟨R, HRs⟩ : ∃ R, Hid ((if n1 ≠ 0 then [] else l.take m ++ ⟨J0, J1, J2, J3, J4⟩ :: l.drop (m + 1)) = R) := ⟨_, rfl⟩
  rw [HRs.out]
  go_enter Tryz.func92, Tryz.ntmps92
  go_wp2_with fail
  refine (rGet_some HKn.out _ _ (HR.out.below HB0.out)).mono ?_
  rintro e w1 ⟨rfl, hb⟩
  have B1 : Hid (Below w.heap.size w w1) := HB0.out.trans (hb.mono (by simp))
  have E1 : Hid (BoxAt w1 w.heap.size k vv a g t) := (box_new w k vv a g t w.heap.size rfl).below hb (by simp)
  obtain ⟨a0, a1, a2, a3, a4, af⟩ := E1.out
  have q1 : ¬ w.heap.size = w1.heap.size := by have := E1.out.lt; omega
  have q2 : w.heap.size < w1.heap.size := E1.out.lt
  clear hb
  go_wp2_with fail
  refine (rJoin_o HJ.out HBd.out HX0.out _).mono ?_
  rintro e w2 ⟨rfl, hb⟩
  have B1a : Hid (Below w.heap.size w (w1.alloc (.cells #[.int .i64 x0, .int .i64 x1, .int .i64 x2, .bool x3, .string x4] 46))) := B1.out.alloc B1.out.size _
  have B2 : Hid (Below w.heap.size w w2) := B1a.out.trans (hb.mono B1a.out.size)
  have E2 : Hid (BoxAt w2 w.heap.size k vv a g t) := (E1.out.alloc _).below hb (E1.out.alloc _).lt
  clear hb a0 a1 a2 a3 a4 af
  obtain ⟨a0, a1, a2, a3, a4, af⟩ := E2.out
  by_cases hn1 : n1 = 0
  · subst hn1
    have HRe : Hid (R = l.take m ++ ⟨J0, J1, J2, J3, J4⟩ :: l.drop (m + 1)) := HRs.out.symm.trans (if_neg (by simp))
    have hJk := HJk.out rfl
    have HL : Hid (∀ j (h : j < l.length), j < m → l[j].k < J0) := by
      show _
      rw [← HMm.out, hJk]
      exact HL0.out
    have HG : Hid (∀ j (h : j < l.length), m < j → l[j].k > J0) := by
      show _
      rw [← HMm.out, hJk]
      exact HG0.out
    have HE : Hid (∀ h : m < l.length, l[m].k = J0) := by
      have h := HMm.out
      subst h
      rw [hJk]
      exact HE0
    clear hJk HL0 HG0 HE0
    obtain ⟨w3, HW3⟩ : ∃ w3, Hid (w3 = ((((w2.setCell ⟨w.heap.size, 0, none⟩ (.int .i64 J0)).setCell ⟨w.heap.size, 1, none⟩ (.int .i64 J1)).setCell ⟨w.heap.size, 2, none⟩ (.int .i64 J2)).setCell ⟨w.heap.size, 3, none⟩ (.bool J3)).setCell ⟨w.heap.size, 4, none⟩ (.string J4)) := ⟨_, rfl⟩
    have B3 : Hid (Below w.heap.size w w3) := by
      show _
      rw [HW3.out]
      exact ((((B2.out.setCell (Nat.le_refl _) _).setCell (Nat.le_refl _) _).setCell (Nat.le_refl _) _).setCell (Nat.le_refl _) _).setCell (Nat.le_refl _) _
    have E3 : Hid (BoxAt w3 w.heap.size J0 J1 J2 J3 J4) := by
      show _
      rw [HW3.out]
      exact E2.out.set J0 J1 J2 J3 J4
    go_upto_region 7 with fail
    rw [← HW3.out]
    clear a0 a1 a2 a3 a4 af
    go_wp2_with fail
    go_loopw [9, 10, 11] (fun s9 s10 s11 wr => ∃ (j : Nat) (v9 : Value) (pt : Bool), s9 = v9 ∧ s10 = .bool pt ∧ j ≤ n ∧ s11 = .int .i64 j ∧ Hid (pt = decide (m < j)) ∧ Hid (wr.ownsRow w3.heap.size 46 5 v9 (outE l m 1 (En.mk J0 J1 J2 J3 J4) j).length (rowC (outE l m 1 (En.mk J0 J1 J2 J3 J4) j))) ∧ Hid (Below w3.heap.size w3 wr)) (fun _ _ i _ => n - (intOf i).toNat)
    case atStart => exact ⟨0, .slice none 0 0, false, rfl, rfl, Nat.zero_le _, rfl, (decide_eq_false (Nat.not_lt_zero _)).symm, (by rw [outE_zero]; exact World.ownsRow_nil _ _ _ _), Below.refl _ _⟩
    case round =>
      obtain ⟨j, v9, pt, hs9, hs10, hj, rfl, HP, HO, HBr⟩ := hrel
      have hs9' := hs9.symm
      clear hs9
      subst hs9'
      subst hs10
      have HBw : Hid (Below w.heap.size w wr) := B3.out.trans (HBr.out.mono B3.out.size)
      have HBx : Hid (BoxAt wr w.heap.size J0 J1 J2 J3 J4) := E3.out.below HBr.out E3.out.lt
      by_cases hlt : j < n
      · have hjl : j < l.length := by rw [HN.out]; exact hlt
        obtain ⟨b, o, rfl, hbw, hat⟩ := HRow.out (fun h => by simp [h] at hjl)
        have HAt : Hid (EnAt wr b (o + j * 5) l[j]) := (hat j hjl).of_block (HBw.out.block b hbw)
        have hat' := hat
        clear hat
        have hbr : b < wr.heap.size := by have := HBw.out.size; omega
        have hlti : (j : Int) < (n : Int) := by omega
        obtain ⟨y, HY⟩ : ∃ y, Hid (l[j] = y) := ⟨l[j], show l[j] = l[j] from rfl⟩
        rw [HY.out] at HAt
        have HYo : Hid (∀ W, Below w.heap.size w W → EnAt W b (o + j * 5) y) := fun W hW => by have := hat' j hjl; rw [HY.out] at this; exact this.of_block (hW.block b hbw)
        clear hat'
        rcases Nat.lt_trichotomy j m with hjm | hjm | hjm
        · have HK : Hid (y.k < J0) := by
            show _
            rw [← HY.out]
            exact HL.out j hjl (by omega)
          obtain rfl : pt = false := HP.out.trans (decide_eq_false (by omega))
          have HEq : Hid (outE l m 1 (En.mk J0 J1 J2 J3 J4) (j + 1) = outE l m 1 (En.mk J0 J1 J2 J3 J4) j ++ [y]) := by
            show _
            rw [← HY.out]
            exact outE_less (by omega) hjl
          obtain ⟨y0, y1, y2, y3, y4⟩ := y
          have HBq : True := trivial
          obtain ⟨e0, e1, e2, e3, e4, ef⟩ := HBx.out
          obtain ⟨c0, c1, c2, c3, c4⟩ := HAt.out
          dsimp only at c0 c1 c2 c3 c4
          have hk1 := HK.out
          dsimp only at hk1
          have hk2 : ¬ J0 ≤ y0 := by omega
          have hk3 : ¬ y0 = J0 := by omega
          have hk4 : (y0 == J0) = false := by simp [hk3]
          go_upto_region 12 with fail
          go_quiet (fail)
          obtain ⟨wq1, hq1⟩ : ∃ x, x = wr.drewN nq := ⟨_, rfl⟩
          rw [← hq1]
          have HB1 : Hid (Below wr.heap.size wr wq1) := by rw [hq1]; exact below_drewN _ _ _
          clear hq1
          clear e0 e1 e2 e3 e4 ef c0 c1 c2 c3 c4
          have HOq1 : Hid (wq1.ownsRow w3.heap.size 46 5 v9 (outE l m 1 (En.mk J0 J1 J2 J3 J4) j).length (rowC (outE l m 1 (En.mk J0 J1 J2 J3 J4) j))) := ownsRow_below HO.out HB1.out
          have HWq1 : Hid (Below w3.heap.size w3 wq1) := HBr.out.trans (HB1.out.mono HBr.out.size)
          have HXq1 : Hid (BoxAt wq1 w.heap.size J0 J1 J2 J3 J4) := HBx.out.below HB1.out HBx.out.lt
          have HYq1 : Hid (EnAt wq1 b (o + j * 5) ⟨y0, y1, y2, y3, y4⟩) := HAt.out.of_block (HB1.out.block b (by exact hbr))
          obtain ⟨e0, e1, e2, e3, e4, ef⟩ := HXq1.out
          obtain ⟨c0, c1, c2, c3, c4⟩ := HYq1.out
          dsimp only at c0 c1 c2 c3 c4
          go_upto_region 15 with fail
          go_quiet (fail)
          obtain ⟨wq2, hq2⟩ : ∃ x, x = wq1.drewN nq := ⟨_, rfl⟩
          rw [← hq2]
          have HB2 : Hid (Below wq1.heap.size wq1 wq2) := by rw [hq2]; exact below_drewN _ _ _
          clear hq2
          clear e0 e1 e2 e3 e4 ef c0 c1 c2 c3 c4
          have HOq2 : Hid (wq2.ownsRow w3.heap.size 46 5 v9 (outE l m 1 (En.mk J0 J1 J2 J3 J4) j).length (rowC (outE l m 1 (En.mk J0 J1 J2 J3 J4) j))) := ownsRow_below HOq1.out HB2.out
          have HWq2 : Hid (Below w3.heap.size w3 wq2) := HWq1.out.trans (HB2.out.mono HWq1.out.size)
          have HXq2 : Hid (BoxAt wq2 w.heap.size J0 J1 J2 J3 J4) := HXq1.out.below HB2.out HXq1.out.lt
          have HYq2 : Hid (EnAt wq2 b (o + j * 5) ⟨y0, y1, y2, y3, y4⟩) := HYq1.out.of_block (HB2.out.block b (by have := HB1.out.size; omega))
          obtain ⟨e0, e1, e2, e3, e4, ef⟩ := HXq2.out
          obtain ⟨c0, c1, c2, c3, c4⟩ := HYq2.out
          dsimp only at c0 c1 c2 c3 c4
          have HOa1 : Hid ((wq2.alloc (.cells #[.int .i64 y0, .int .i64 y1, .int .i64 y2, .bool y3, .string y4] 46)).ownsRow w3.heap.size 46 5 v9 (outE l m 1 (En.mk J0 J1 J2 J3 J4) j).length (rowC (outE l m 1 (En.mk J0 J1 J2 J3 J4) j))) := ownsRow_below HOq2.out ((Below.refl _ wq2).alloc (Nat.le_refl _) _)
          have HVa1 : Hid ((wq2.alloc (.cells #[.int .i64 y0, .int .i64 y1, .int .i64 y2, .bool y3, .string y4] 46)).heap[wq2.heap.size]? = some (.cells (En.cells (En.mk y0 y1 y2 y3 y4)).toArray 46 (0, 0))) := alloc_at _ _ _ rfl
          have HLa1 : Hid ((outE l m 1 (En.mk J0 J1 J2 J3 J4) j).length ≤ 100) := Nat.le_trans (outE_len H8.out) (by omega)
          have HSa1 : Hid (w3.heap.size ≤ (wq2.alloc (.cells #[.int .i64 y0, .int .i64 y1, .int .i64 y2, .bool y3, .string y4] 46)).heap.size) := show _ ≤ _ from (by have := HWq2.out.size; simp; omega)
          go_wp2_with (at_builtin; refine wp_app _ rfl _ _ rfl w3.heap.size _ (outE l m 1 (En.mk J0 J1 J2 J3 J4) j) (En.mk y0 y1 y2 y3 y4) rfl HOa1.out _ rfl HVa1.out HLa1.out HSa1.out ?_)
          intro va1 wa1 hown hgrow
          have HOp1 : Hid (wa1.ownsRow w3.heap.size 46 5 va1 ((outE l m 1 (En.mk J0 J1 J2 J3 J4) j) ++ [(En.mk y0 y1 y2 y3 y4)]).length (rowC ((outE l m 1 (En.mk J0 J1 J2 J3 J4) j) ++ [(En.mk y0 y1 y2 y3 y4)]))) := hown
          have HBp1 : Hid (Below w3.heap.size w3 wa1) := below_grown (HWq2.out.alloc HWq2.out.size _) (Nat.le_refl _) hgrow.out (fun c hc => ownsRow_from HOq2.out c hc)
          clear hown hgrow HOa1 HVa1 HLa1 HSa1
          clear e0 e1 e2 e3 e4 ef c0 c1 c2 c3 c4
          go_wp2_with fail
          go_roundw
          case rel =>
            refine ⟨j + 1, va1, false, rfl, rfl, by omega, by go_num, ?_, ?_, HBp1⟩
            · exact (decide_eq_false (by omega)).symm
            · show World.ownsRow _ _ _ _ _ _ _
              rw [HEq.out]
              exact HOp1.out
          case measure => simp [intOf]; omega
        · obtain rfl : j = m := by omega
          have HK : Hid (y.k = J0) := by
            show _
            rw [← HY.out]
            exact HE.out hjl
          obtain rfl : pt = false := HP.out.trans (decide_eq_false (by omega))
          have HEq : Hid (outE l j 1 (En.mk J0 J1 J2 J3 J4) (j + 1) = outE l j 1 (En.mk J0 J1 J2 J3 J4) j ++ [(En.mk J0 J1 J2 J3 J4)]) := outE_at1 hjl
          obtain ⟨y0, y1, y2, y3, y4⟩ := y
          have HBq : True := trivial
          obtain ⟨e0, e1, e2, e3, e4, ef⟩ := HBx.out
          obtain ⟨c0, c1, c2, c3, c4⟩ := HAt.out
          dsimp only at c0 c1 c2 c3 c4
          have hk1 := HK.out
          dsimp only at hk1
          have hk2 : J0 ≤ y0 := by omega
          have hk4 : (y0 == J0) = true := by simp [hk1]
          clear hk1
          go_upto_region 12 with fail
          go_quiet (fail)
          obtain ⟨wq1, hq1⟩ : ∃ x, x = wr.drewN nq := ⟨_, rfl⟩
          rw [← hq1]
          have HB1 : Hid (Below wr.heap.size wr wq1) := by rw [hq1]; exact below_drewN _ _ _
          clear hq1
          clear e0 e1 e2 e3 e4 ef c0 c1 c2 c3 c4
          have HOq1 : Hid (wq1.ownsRow w3.heap.size 46 5 v9 (outE l j 1 (En.mk J0 J1 J2 J3 J4) j).length (rowC (outE l j 1 (En.mk J0 J1 J2 J3 J4) j))) := ownsRow_below HO.out HB1.out
          have HWq1 : Hid (Below w3.heap.size w3 wq1) := HBr.out.trans (HB1.out.mono HBr.out.size)
          have HXq1 : Hid (BoxAt wq1 w.heap.size J0 J1 J2 J3 J4) := HBx.out.below HB1.out HBx.out.lt
          have HYq1 : Hid (EnAt wq1 b (o + j * 5) ⟨y0, y1, y2, y3, y4⟩) := HAt.out.of_block (HB1.out.block b (by exact hbr))
          obtain ⟨e0, e1, e2, e3, e4, ef⟩ := HXq1.out
          obtain ⟨c0, c1, c2, c3, c4⟩ := HYq1.out
          dsimp only at c0 c1 c2 c3 c4
          have HOa1 : Hid ((wq1.alloc (.cells #[.int .i64 J0, .int .i64 J1, .int .i64 J2, .bool J3, .string J4] 46)).ownsRow w3.heap.size 46 5 v9 (outE l j 1 (En.mk J0 J1 J2 J3 J4) j).length (rowC (outE l j 1 (En.mk J0 J1 J2 J3 J4) j))) := ownsRow_below HOq1.out ((Below.refl _ wq1).alloc (Nat.le_refl _) _)
          have HVa1 : Hid ((wq1.alloc (.cells #[.int .i64 J0, .int .i64 J1, .int .i64 J2, .bool J3, .string J4] 46)).heap[wq1.heap.size]? = some (.cells (En.cells (En.mk J0 J1 J2 J3 J4)).toArray 46 (0, 0))) := alloc_at _ _ _ rfl
          have HLa1 : Hid ((outE l j 1 (En.mk J0 J1 J2 J3 J4) j).length ≤ 100) := Nat.le_trans (outE_len H8.out) (by omega)
          have HSa1 : Hid (w3.heap.size ≤ (wq1.alloc (.cells #[.int .i64 J0, .int .i64 J1, .int .i64 J2, .bool J3, .string J4] 46)).heap.size) := show _ ≤ _ from (by have := HWq1.out.size; simp; omega)
          go_wp2_with (at_builtin; refine wp_app _ rfl _ _ rfl w3.heap.size _ (outE l j 1 (En.mk J0 J1 J2 J3 J4) j) (En.mk J0 J1 J2 J3 J4) rfl HOa1.out _ rfl HVa1.out HLa1.out HSa1.out ?_)
          intro va1 wa1 hown hgrow
          have HOp1 : Hid (wa1.ownsRow w3.heap.size 46 5 va1 ((outE l j 1 (En.mk J0 J1 J2 J3 J4) j) ++ [(En.mk J0 J1 J2 J3 J4)]).length (rowC ((outE l j 1 (En.mk J0 J1 J2 J3 J4) j) ++ [(En.mk J0 J1 J2 J3 J4)]))) := hown
          have HBp1 : Hid (Below w3.heap.size w3 wa1) := below_grown (HWq1.out.alloc HWq1.out.size _) (Nat.le_refl _) hgrow.out (fun c hc => ownsRow_from HOq1.out c hc)
          clear hown hgrow HOa1 HVa1 HLa1 HSa1
          clear e0 e1 e2 e3 e4 ef c0 c1 c2 c3 c4
          have HXp : Hid (BoxAt wa1 w.heap.size J0 J1 J2 J3 J4) := E3.out.below HBp1.out E3.out.lt
          have HYp : Hid (EnAt wa1 b (o + j * 5) ⟨y0, y1, y2, y3, y4⟩) := HYo.out wa1 (B3.out.trans (HBp1.out.mono B3.out.size))
          have hbp : b < wa1.heap.size := by have := HBp1.out.size; have := B3.out.size; omega
          obtain ⟨e0, e1, e2, e3, e4, ef⟩ := HXp.out
          obtain ⟨c0, c1, c2, c3, c4⟩ := HYp.out
          dsimp only at c0 c1 c2 c3 c4
          go_upto_region 15 with fail
          go_quiet (fail)
          obtain ⟨wq2, hq2⟩ : ∃ x, x = wa1.drewN nq := ⟨_, rfl⟩
          rw [← hq2]
          have HB2 : Hid (Below wa1.heap.size wa1 wq2) := by rw [hq2]; exact below_drewN _ _ _
          clear hq2
          clear e0 e1 e2 e3 e4 ef c0 c1 c2 c3 c4
          have HOq2 : Hid (wq2.ownsRow w3.heap.size 46 5 va1 ((outE l j 1 (En.mk J0 J1 J2 J3 J4) j) ++ [(En.mk J0 J1 J2 J3 J4)]).length (rowC ((outE l j 1 (En.mk J0 J1 J2 J3 J4) j) ++ [(En.mk J0 J1 J2 J3 J4)]))) := ownsRow_below HOp1.out HB2.out
          have HWq2 : Hid (Below w3.heap.size w3 wq2) := HBp1.out.trans (HB2.out.mono HBp1.out.size)
          have HXq2 : Hid (BoxAt wq2 w.heap.size J0 J1 J2 J3 J4) := HXp.out.below HB2.out HXp.out.lt
          have HYq2 : Hid (EnAt wq2 b (o + j * 5) ⟨y0, y1, y2, y3, y4⟩) := HYp.out.of_block (HB2.out.block b (by exact hbp))
          go_wp2_with fail
          go_roundw
          case rel =>
            refine ⟨j + 1, va1, true, rfl, rfl, by omega, by go_num, ?_, ?_, HWq2⟩
            · exact (decide_eq_true (by omega)).symm
            · show World.ownsRow _ _ _ _ _ _ _
              rw [HEq.out]
              exact HOq2.out
          case measure => simp [intOf]; omega
        · have HK : Hid (y.k > J0) := by
            show _
            rw [← HY.out]
            exact HG.out j hjl (by omega)
          obtain rfl : pt = true := HP.out.trans (decide_eq_true (by omega))
          have HEq : Hid (outE l m 1 (En.mk J0 J1 J2 J3 J4) (j + 1) = outE l m 1 (En.mk J0 J1 J2 J3 J4) j ++ [y]) := by
            show _
            rw [← HY.out]
            exact outE_more (by omega) (by omega) hjl
          obtain ⟨y0, y1, y2, y3, y4⟩ := y
          have HBq : True := trivial
          obtain ⟨e0, e1, e2, e3, e4, ef⟩ := HBx.out
          obtain ⟨c0, c1, c2, c3, c4⟩ := HAt.out
          dsimp only at c0 c1 c2 c3 c4
          have hk1 := HK.out
          dsimp only at hk1
          have hk2 : J0 < y0 := by omega
          have hk3 : ¬ y0 = J0 := by omega
          have hk4 : (y0 == J0) = false := by simp [hk3]
          go_upto_region 12 with fail
          go_quiet (fail)
          obtain ⟨wq1, hq1⟩ : ∃ x, x = wr.drewN nq := ⟨_, rfl⟩
          rw [← hq1]
          have HB1 : Hid (Below wr.heap.size wr wq1) := by rw [hq1]; exact below_drewN _ _ _
          clear hq1
          clear e0 e1 e2 e3 e4 ef c0 c1 c2 c3 c4
          have HOq1 : Hid (wq1.ownsRow w3.heap.size 46 5 v9 (outE l m 1 (En.mk J0 J1 J2 J3 J4) j).length (rowC (outE l m 1 (En.mk J0 J1 J2 J3 J4) j))) := ownsRow_below HO.out HB1.out
          have HWq1 : Hid (Below w3.heap.size w3 wq1) := HBr.out.trans (HB1.out.mono HBr.out.size)
          have HXq1 : Hid (BoxAt wq1 w.heap.size J0 J1 J2 J3 J4) := HBx.out.below HB1.out HBx.out.lt
          have HYq1 : Hid (EnAt wq1 b (o + j * 5) ⟨y0, y1, y2, y3, y4⟩) := HAt.out.of_block (HB1.out.block b (by exact hbr))
          obtain ⟨e0, e1, e2, e3, e4, ef⟩ := HXq1.out
          obtain ⟨c0, c1, c2, c3, c4⟩ := HYq1.out
          dsimp only at c0 c1 c2 c3 c4
          go_upto_region 15 with fail
          go_quiet (fail)
          obtain ⟨wq2, hq2⟩ : ∃ x, x = wq1.drewN nq := ⟨_, rfl⟩
          rw [← hq2]
          have HB2 : Hid (Below wq1.heap.size wq1 wq2) := by rw [hq2]; exact below_drewN _ _ _
          clear hq2
          clear e0 e1 e2 e3 e4 ef c0 c1 c2 c3 c4
          have HOq2 : Hid (wq2.ownsRow w3.heap.size 46 5 v9 (outE l m 1 (En.mk J0 J1 J2 J3 J4) j).length (rowC (outE l m 1 (En.mk J0 J1 J2 J3 J4) j))) := ownsRow_below HOq1.out HB2.out
          have HWq2 : Hid (Below w3.heap.size w3 wq2) := HWq1.out.trans (HB2.out.mono HWq1.out.size)
          have HXq2 : Hid (BoxAt wq2 w.heap.size J0 J1 J2 J3 J4) := HXq1.out.below HB2.out HXq1.out.lt
          have HYq2 : Hid (EnAt wq2 b (o + j * 5) ⟨y0, y1, y2, y3, y4⟩) := HYq1.out.of_block (HB2.out.block b (by have := HB1.out.size; omega))
          obtain ⟨e0, e1, e2, e3, e4, ef⟩ := HXq2.out
          obtain ⟨c0, c1, c2, c3, c4⟩ := HYq2.out
          dsimp only at c0 c1 c2 c3 c4
          have HOa1 : Hid ((wq2.alloc (.cells #[.int .i64 y0, .int .i64 y1, .int .i64 y2, .bool y3, .string y4] 46)).ownsRow w3.heap.size 46 5 v9 (outE l m 1 (En.mk J0 J1 J2 J3 J4) j).length (rowC (outE l m 1 (En.mk J0 J1 J2 J3 J4) j))) := ownsRow_below HOq2.out ((Below.refl _ wq2).alloc (Nat.le_refl _) _)
          have HVa1 : Hid ((wq2.alloc (.cells #[.int .i64 y0, .int .i64 y1, .int .i64 y2, .bool y3, .string y4] 46)).heap[wq2.heap.size]? = some (.cells (En.cells (En.mk y0 y1 y2 y3 y4)).toArray 46 (0, 0))) := alloc_at _ _ _ rfl
          have HLa1 : Hid ((outE l m 1 (En.mk J0 J1 J2 J3 J4) j).length ≤ 100) := Nat.le_trans (outE_len H8.out) (by omega)
          have HSa1 : Hid (w3.heap.size ≤ (wq2.alloc (.cells #[.int .i64 y0, .int .i64 y1, .int .i64 y2, .bool y3, .string y4] 46)).heap.size) := show _ ≤ _ from (by have := HWq2.out.size; simp; omega)
          go_wp2_with (at_builtin; refine wp_app _ rfl _ _ rfl w3.heap.size _ (outE l m 1 (En.mk J0 J1 J2 J3 J4) j) (En.mk y0 y1 y2 y3 y4) rfl HOa1.out _ rfl HVa1.out HLa1.out HSa1.out ?_)
          intro va1 wa1 hown hgrow
          have HOp1 : Hid (wa1.ownsRow w3.heap.size 46 5 va1 ((outE l m 1 (En.mk J0 J1 J2 J3 J4) j) ++ [(En.mk y0 y1 y2 y3 y4)]).length (rowC ((outE l m 1 (En.mk J0 J1 J2 J3 J4) j) ++ [(En.mk y0 y1 y2 y3 y4)]))) := hown
          have HBp1 : Hid (Below w3.heap.size w3 wa1) := below_grown (HWq2.out.alloc HWq2.out.size _) (Nat.le_refl _) hgrow.out (fun c hc => ownsRow_from HOq2.out c hc)
          clear hown hgrow HOa1 HVa1 HLa1 HSa1
          clear e0 e1 e2 e3 e4 ef c0 c1 c2 c3 c4
          go_wp2_with fail
          go_roundw
          case rel =>
            refine ⟨j + 1, va1, true, rfl, rfl, by omega, by go_num, ?_, ?_, HBp1⟩
            · exact (decide_eq_true (by omega)).symm
            · show World.ownsRow _ _ _ _ _ _ _
              rw [HEq.out]
              exact HOp1.out
          case measure => simp [intOf]; omega
      · obtain rfl : j = n := by omega
        obtain rfl : pt = true := HP.out.trans (decide_eq_true (by have := HMn.out; omega))
        have HEq : Hid (outE l m 1 (En.mk J0 J1 J2 J3 J4) j = l.take m ++ (En.mk J0 J1 J2 J3 J4) :: l.drop (m + 1)) := by
          show _
          rw [← HN.out]
          exact outE_end (d := 1) (by rw [HN.out]; exact HMn.out)
        go_wp2_with fail
        go_ret2
        refine ⟨v9, rfl, ?_, HBw.out⟩
        have := RowIs.own HO.out
        rw [HEq.out] at this
        rw [HRe.out]
        exact ⟨this, fun g hg => Nat.le_trans B3.out.size (ownsRow_from HO.out g hg)⟩
  · have HRe : Hid (R = []) := HRs.out.symm.trans (if_pos hn1)
    go_wp2_with fail
    go_ret2
    refine ⟨.slice none 0 0, rfl, ⟨by rw [HRe.out]; exact RowIs.nil _, fun g hg => by simp [Value.ownBlock] at hg⟩, ?_⟩
    exact ((((B2.out.setCell (Nat.le_refl _) _).setCell (Nat.le_refl _) _).setCell (Nat.le_refl _) _).setCell (Nat.le_refl _) _).setCell (Nat.le_refl _) _
end Go.Proofs.YtpcnfoaoajfhlaaGreatDoor

namespace Go.Proofs.YtpcnfoaoajfhlaaGreatDoor
set_option linter.unusedVariables false
set_option linter.unusedSimpArgs false
open Go.RowKit

theorem rAdd_c (v : Value) (l : List En) (k vv a : Int) (g : Bool) (t : ByteArray) (w : World) (hr : RowIs w v l) (hg : GoodL l) (he : bad k vv a g t = 0) :
    Calls Tryz.prog 92 #[v, .agg #[.int .i64 k, .int .i64 vv, .int .i64 a, .bool g, .string t]] w (RAddIs w (putE l ⟨k, vv, a, g, t⟩).1 (putE l ⟨k, vv, a, g, t⟩).2.2) := by
  cases hk : getE l k with
  | none =>
    have hp : putE l ⟨k, vv, a, g, t⟩ = (l.take (placeE l k) ++ ⟨k, vv, a, g, t⟩ :: l.drop (placeE l k), true, 0) := by unfold putE; simp only [hk]
    rw [hp]
    exact rAdd_none v l k vv a g t w hr hg hk
  | some x =>
    have hp : putE l ⟨k, vv, a, g, t⟩ = (if (joinE x ⟨k, vv, a, g, t⟩).2 ≠ 0 then ([], false, (joinE x ⟨k, vv, a, g, t⟩).2) else (l.set (placeE l k) (joinE x ⟨k, vv, a, g, t⟩).1, !((joinE x ⟨k, vv, a, g, t⟩).1.same x), 0)) := by unfold putE; simp only [hk]
    rw [hp]
    obtain ⟨hm, hmx, _⟩ := getE_some hg.rise hk
    obtain ⟨⟨⟨J0, J1, J2, J3, J4⟩, n1⟩, hj⟩ : ∃ J, joinE x ⟨k, vv, a, g, t⟩ = J := ⟨_, rfl⟩
    rw [hj]
    obtain ⟨x0, x1, x2, x3, x4⟩ := x
    have c := rAdd_some v l k vv a g t x0 x1 x2 x3 x4 J0 J1 J2 J3 J4 n1 w hr hg he hk hj
    by_cases hn : n1 = 0
    · subst hn
      rw [if_neg (by simp)] at c ⊢
      rw [show l.set (placeE l k) ⟨J0, J1, J2, J3, J4⟩ = l.take (placeE l k) ++ ⟨J0, J1, J2, J3, J4⟩ :: l.drop (placeE l k + 1) from List.set_eq_take_append_cons_drop.trans (if_pos hm)]
      exact c
    · rw [if_pos hn] at c ⊢
      exact c
theorem rAdd_o {l : List En} {k vv a : Int} {g : Bool} {t : ByteArray} {R1 : List En} {R2 : Bool} {R3 : Int} (h : putE l ⟨k, vv, a, g, t⟩ = (R1, R2, R3)) (v : Value) (w : World) (hr : RowIs w v l) (hg : GoodL l) (he : bad k vv a g t = 0) :
    Calls Tryz.prog 92 #[v, .agg #[.int .i64 k, .int .i64 vv, .int .i64 a, .bool g, .string t]] w fun e w' => ∃ v', e = .returned (.tuple #[v', .int .i64 R3]) ∧ (RowIs w' v' R1 ∧ ∀ g, v'.ownBlock = some g → w.heap.size ≤ g) ∧ Below w.heap.size w w' := by
  have c := rAdd_c v l k vv a g t w hr hg he
  rw [h] at c
  exact c

set_option maxHeartbeats 4000000 in
theorem rAll_c (va vb : Value) (a b : List En) (R1 : List En) (R2 : Int) (w : World) (hra : RowIs w va a) (hrb : RowIs w vb b) (hga : GoodL a) (hgb : GoodL b) (h : allE a b = (R1, R2)) :
    Calls Tryz.prog 99 #[va, vb] w fun e w' => ∃ v', e = .returned (.tuple #[v', .int .i64 R2]) ∧ (RowIs w' v' R1 ∧ (v' = va ∨ ∀ g, v'.ownBlock = some g → w.heap.size ≤ g)) ∧ Below w.heap.size w w' := by
  have HA : Hid (RowIs w va a) := hra
  have HGa : Hid (GoodL a) := hga
  have HGb : Hid (GoodL b) := hgb
  have HR : Hid ((R1, R2) = allE a (b.drop 0)) := by rw [List.drop_zero]; exact h.symm
  clear hra hga hgb h
  obtain ⟨hlen, p, cap, rfl, hrow⟩ := hrb
  have HRow : Hid (b ≠ [] → ∃ bb o, p = some ⟨bb, o, none⟩ ∧ bb < w.heap.size ∧ ∀ j (h : j < b.length), EnAt w bb (o + j * 5) b[j]) := hrow
  clear hrow
  obtain ⟨nb, HNb⟩ : ∃ nb, Hid (b.length = nb) := ⟨_, rfl⟩
  rw [HNb.out] at hlen ⊢
  have hn63 : nb ≤ 9223372036854775807 := hlen
  go_enter Tryz.func99, Tryz.ntmps99
  go_wp2_with fail
  go_loopw [0, 6, 7] (fun s0 s6 s7 wr => ∃ (j : Nat) (cur : List En) (f : Int) (v0 : Value), s0 = v0 ∧ s6 = .int .i64 f ∧ j ≤ nb ∧ s7 = .int .i64 j ∧ Hid (RowIs wr v0 cur ∧ (v0 = va ∨ ∀ g, v0.ownBlock = some g → w.heap.size ≤ g)) ∧ Hid ((f = 0 ∧ GoodL cur ∧ (R1, R2) = allE cur (b.drop j)) ∨ (f ≠ 0 ∧ (R1, R2) = (cur, f))) ∧ Hid (Below w.heap.size w wr)) (fun _ _ i _ => nb - (intOf i).toNat)
  case atStart => exact ⟨0, a, 0, va, rfl, rfl, Nat.zero_le _, rfl, ⟨HA.out, .inl rfl⟩, .inl ⟨rfl, HGa.out, HR.out⟩, Below.refl _ _⟩
  case round =>
    obtain ⟨j, cur, f, v0, hs0, hs6, hj, rfl, HO, HD, HB⟩ := hrel
    have hs0' := hs0.symm
    clear hs0
    subst hs0'
    subst hs6
    by_cases hf : f = 0
    · subst hf
      obtain ⟨HGc, HE⟩ : Hid (GoodL cur) ∧ Hid ((R1, R2) = allE cur (b.drop j)) := by
        rcases HD.out with h | h
        · exact ⟨h.2.1, h.2.2⟩
        · exact absurd rfl h.1
      clear HD
      by_cases hlt : j < nb
      · have hjl : j < b.length := by rw [HNb.out]; exact hlt
        obtain ⟨bb, o, rfl, hbw, hat⟩ := HRow.out (fun h => by simp [h] at hjl)
        have HAt : Hid (EnAt wr bb (o + j * 5) b[j]) := (hat j hjl).of_block (HB.out.block bb hbw)
        clear hat
        have HBad : Hid (b[j].bad = 0) := HGb.out.all _ (List.getElem_mem _)
        have HStep : Hid ((R1, R2) = if (putE cur b[j]).2.2 ≠ 0 then ([], (putE cur b[j]).2.2) else allE (putE cur b[j]).1 (b.drop (j + 1))) := HE.out.trans (allE_step hjl)
        obtain ⟨x, HX⟩ : ∃ x, Hid (b[j] = x) := ⟨b[j], show b[j] = b[j] from rfl⟩
        rw [HX.out] at HAt HBad HStep
        obtain ⟨⟨P1, P2, P3⟩, HPt⟩ : ∃ P, Hid (putE cur x = P) := ⟨_, rfl⟩
        rw [HPt.out] at HStep
        dsimp only at HStep
        obtain ⟨k, vv, aa, g, t⟩ := x
        obtain ⟨c0, c1, c2, c3, c4⟩ := HAt.out
        dsimp only at c0 c1 c2 c3 c4
        have hlti : (j : Int) < (nb : Int) := by omega
        go_wp2_with fail
        refine (rAdd_o HPt.out v0 _ HO.out.1 HGc.out HBad.out).mono ?_
        rintro e w5 ⟨v5, rfl, ho5, hb⟩
        have HO5 : Hid (RowIs w5 v5 P1 ∧ (v5 = va ∨ ∀ g, v5.ownBlock = some g → w.heap.size ≤ g)) := ⟨ho5.1, .inr fun g hg => Nat.le_trans HB.out.size (ho5.2 g hg)⟩
        have B5 : Hid (Below w.heap.size w w5) := HB.out.trans (hb.mono HB.out.size)
        clear ho5 hb c0 c1 c2 c3 c4
        have HD5 : Hid ((P3 = 0 ∧ GoodL P1 ∧ (R1, R2) = allE P1 (b.drop (j + 1))) ∨ (P3 ≠ 0 ∧ (R1, R2) = (P1, P3))) := by
          by_cases h3 : P3 = 0
          · refine .inl ⟨h3, ?_, ?_⟩
            · have := putE_good (e := ⟨k, vv, aa, g, t⟩) HGc.out HBad.out (by rw [HPt.out]; exact h3)
              rw [HPt.out] at this
              exact this
            · have hs := HStep.out
              rw [if_neg (by simpa using h3)] at hs
              exact hs
          · refine .inr ⟨h3, ?_⟩
            have hs := HStep.out
            rw [if_pos h3] at hs
            have hP1 : P1 = [] := by
              have hp := HPt.out
              unfold putE at hp
              cases hk : getE cur k with
              | none => simp only [hk] at hp; simp at hp; exact absurd hp.2.2.symm h3
              | some y =>
                simp only [hk] at hp
                split at hp
                · simp at hp; exact hp.1
                · simp at hp; exact absurd hp.2.2.symm h3
            rw [hP1]
            exact hs
        go_wp2_with fail
        go_roundw
        case rel => exact ⟨j + 1, P1, P3, v5, rfl, rfl, by omega, by go_num, HO5, HD5, B5⟩
        case measure => simp [intOf]; omega
      · obtain rfl : j = nb := by omega
        have HR0 : Hid ((R1, R2) = (cur, 0)) := by
          refine HE.out.trans ?_
          rw [List.drop_eq_nil_of_le (by rw [HNb.out]; exact Nat.le_refl _)]
          rfl
        have hd : decide ((j : Int) < (j : Int)) = false := by simp
        go_wp2_with fail
        go_ret2
        have h0 := HR0.out
        simp only [Prod.mk.injEq] at h0
        obtain ⟨rfl, rfl⟩ := h0
        exact ⟨v0, rfl, HO.out, HB.out⟩
    · obtain HR0 : Hid ((R1, R2) = (cur, f)) := by
        rcases HD.out with h | h
        · exact absurd h.1 hf
        · exact h.2
      have hfb : (f == 0) = false := by simp [hf]
      by_cases hlt : j < nb
      · have hlti : (j : Int) < (nb : Int) := by omega
        go_wp2_with fail
        go_ret2
        have h0 := HR0.out
        simp only [Prod.mk.injEq] at h0
        obtain ⟨rfl, rfl⟩ := h0
        exact ⟨v0, rfl, HO.out, HB.out⟩
      · have hlti : ¬ (j : Int) < (nb : Int) := by omega
        have hd : decide ((j : Int) < (nb : Int)) = false := decide_eq_false hlti
        go_wp2_with fail
        go_ret2
        have h0 := HR0.out
        simp only [Prod.mk.injEq] at h0
        obtain ⟨rfl, rfl⟩ := h0
        exact ⟨v0, rfl, HO.out, HB.out⟩
end Go.Proofs.YtpcnfoaoajfhlaaGreatDoor
