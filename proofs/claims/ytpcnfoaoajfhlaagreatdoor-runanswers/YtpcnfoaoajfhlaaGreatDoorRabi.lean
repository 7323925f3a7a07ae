/-
  The document's Add to a cache (mereref1.Add) by its contract.
-/
import Derived.Test.YtpcnfoaoajfhlaaGreatDoorRaau
import Derived.BigQuiet
namespace Go.Proofs.YtpcnfoaoajfhlaaGreatDoor
set_option linter.unusedVariables false
set_option linter.unusedSimpArgs false
set_option linter.unusedVariables false
set_option linter.unusedSimpArgs false
open Go.RowKit

/-- what the document's Add leaves -/
def RAddIs (w : World) (x : List En) (n : Int) (e : Ending) (w' : World) : Prop := ∃ v', e = .returned (.tuple #[v', .int .i64 n]) ∧ (RowIs w' v' x ∧ ∀ g, v'.ownBlock = some g → w.heap.size ≤ g) ∧ Below w.heap.size w w'

set_option maxHeartbeats 8000000 in
theorem rAdd_none (v : Value) (l : List En) (k vv a : Int) (g : Bool) (t : ByteArray) (w : World) (hr : RowIs w v l) (hg : GoodL l) (hk : getE l k = none) :
    Calls Tryz.prog 92 #[v, .agg #[.int .i64 k, .int .i64 vv, .int .i64 a, .bool g, .string t]] w (RAddIs w (l.take (placeE l k) ++ ⟨k, vv, a, g, t⟩ :: l.drop (placeE l k)) 0) := by
  have HR : Hid (RowIs w v l) := hr
  have H8 : Hid (l.length ≤ 8) := hg.len
  have HKn : Hid (getE l k = none) := hk
  have HL0 : Hid (∀ j (h : j < l.length), j < placeE l k → l[j].k < k) := fun j h hj => placeE_less l k j h hj
  have HG0 : Hid (∀ j (h : j < l.length), placeE l k < j → l[j].k > k) := fun j h hj => by
    have h1 := placeE_more l k hg.rise j h (by omega)
    have h2 := getE_none hk l[j] (List.getElem_mem _)
    omega
  have HE0 : Hid (∀ h : placeE l k < l.length, k < l[placeE l k].k) := fun h => by
    have h1 := placeE_more l k hg.rise _ h (Nat.le_refl _)
    have h2 := getE_none hk l[placeE l k] (List.getElem_mem _)
    omega
  have HM0 : Hid (placeE l k ≤ l.length) := placeE_le l k
  obtain ⟨m, HMm⟩ : ∃ m, Hid (placeE l k = m) := ⟨_, rfl⟩
  rw [HMm.out] at HM0 ⊢
  have HL : Hid (∀ j (h : j < l.length), j < m → l[j].k < k) := by
    show _
    rw [← HMm.out]
    exact HL0.out
  have HG : Hid (∀ j (h : j < l.length), m < j → l[j].k > k) := by
    show _
    rw [← HMm.out]
    exact HG0.out
  have HE : Hid (∀ h : m < l.length, k < l[m].k) := by
    have h := HMm.out
    subst h
    exact HE0
  clear hg hk HL0 HG0 HE0
  obtain ⟨hlen, p, cap, rfl, hrow⟩ := hr
  have HRow : Hid (l ≠ [] → ∃ b o, p = some ⟨b, o, none⟩ ∧ b < w.heap.size ∧ ∀ j (h : j < l.length), EnAt w b (o + j * 5) l[j]) := hrow
  clear hrow
  obtain ⟨n, HN⟩ : ∃ n, Hid (l.length = n) := ⟨_, rfl⟩
  rw [HN.out] at hlen HR ⊢
  have HMn : Hid (m ≤ n) := by
    show _
    rw [← HN.out]
    exact HM0.out
  have hn63 : n ≤ 9223372036854775807 := hlen
  have HB0 : Hid (Below w.heap.size w (w.alloc (.cells #[.int .i64 k, .int .i64 vv, .int .i64 a, .bool g, .string t] 46))) := by show Below _ _ _; go_grown
  go_enter Tryz.func92, Tryz.ntmps92
  go_wp2_with fail
  refine (rGet_none HKn.out _ _ (HR.out.below HB0.out)).mono ?_
  rintro e w1 ⟨rfl, hb⟩
  have B1 : Hid (Below w.heap.size w w1) := HB0.out.trans (hb.mono (by simp))
  have E1 : Hid (BoxAt w1 w.heap.size k vv a g t) := (box_new w k vv a g t w.heap.size rfl).below hb (by simp)
  clear hb
  obtain ⟨w3, HW3⟩ : ∃ w3, Hid (w3 = w1.alloc (.cells #[.int .i64 0, .int .i64 0, .int .i64 0, .bool false, .string ⟨#[]⟩] 46)) := ⟨_, rfl⟩
  have B3 : Hid (Below w.heap.size w w3) := by
    show _
    rw [HW3.out]
    exact B1.out.alloc B1.out.size _
  have E3 : Hid (BoxAt w3 w.heap.size k vv a g t) := by
    show _
    rw [HW3.out]
    exact E1.out.alloc _
  go_upto_region 7 with fail
  rw [← HW3.out]
  go_wp2_with fail
  go_loopw [9, 10, 11] (fun s9 s10 s11 wr => ∃ (j : Nat) (v9 : Value) (pt : Bool), s9 = v9 ∧ s10 = .bool pt ∧ j ≤ n ∧ s11 = .int .i64 j ∧ Hid (pt = decide (m < j)) ∧ Hid (wr.ownsRow w3.heap.size 46 5 v9 (outE l m 0 (En.mk k vv a g t) j).length (rowC (outE l m 0 (En.mk k vv a g t) j))) ∧ Hid (Below w3.heap.size w3 wr)) (fun _ _ i _ => n - (intOf i).toNat)
  case atStart => exact ⟨0, .slice none 0 0, false, rfl, rfl, Nat.zero_le _, rfl, (decide_eq_false (Nat.not_lt_zero _)).symm, (by rw [outE_zero]; exact World.ownsRow_nil _ _ _ _), Below.refl _ _⟩
  case round =>
    obtain ⟨j, v9, pt, hs9, hs10, hj, rfl, HP, HO, HBr⟩ := hrel
    have hs9' := hs9.symm
    clear hs9
    subst hs9'
    subst hs10
    have HBw : Hid (Below w.heap.size w wr) := B3.out.trans (HBr.out.mono B3.out.size)
    have HBx : Hid (BoxAt wr w.heap.size k vv a g t) := E3.out.below HBr.out E3.out.lt
    by_cases hlt : j < n
    · have hjl : j < l.length := by rw [HN.out]; exact hlt
      obtain ⟨b, o, rfl, hbw, hat⟩ := HRow.out (fun h => by simp [h] at hjl)
      have HAt : Hid (EnAt wr b (o + j * 5) l[j]) := (hat j hjl).of_block (HBw.out.block b hbw)
      have hat' := hat
      clear hat
      have hbr : b < wr.heap.size := by have := HBw.out.size; omega
      have hlti : (j : Int) < (n : Int) := by omega
      obtain ⟨y, HY⟩ : ∃ y, Hid (l[j] = y) := ⟨l[j], show l[j] = l[j] from rfl⟩
      rw [HY.out] at HAt
      have HYo : Hid (∀ W, Below w.heap.size w W → EnAt W b (o + j * 5) y) := fun W hW => by have := hat' j hjl; rw [HY.out] at this; exact this.of_block (hW.block b hbw)
      clear hat'
      rcases Nat.lt_trichotomy j m with hjm | hjm | hjm
      · have HK : Hid (y.k < k) := by
          show _
          rw [← HY.out]
          exact HL.out j hjl (by omega)
        obtain rfl : pt = false := HP.out.trans (decide_eq_false (by omega))
        have HEq : Hid (outE l m 0 (En.mk k vv a g t) (j + 1) = outE l m 0 (En.mk k vv a g t) j ++ [y]) := by
          show _
          rw [← HY.out]
          exact outE_less (by omega) hjl
        obtain ⟨y0, y1, y2, y3, y4⟩ := y
        have HBq : True := trivial
        obtain ⟨e0, e1, e2, e3, e4, ef⟩ := HBx.out
        obtain ⟨c0, c1, c2, c3, c4⟩ := HAt.out
        dsimp only at c0 c1 c2 c3 c4
        have hk1 := HK.out
        dsimp only at hk1
        have hk2 : ¬ k ≤ y0 := by omega
        have hk3 : ¬ y0 = k := by omega
        have hk4 : (y0 == k) = false := by simp [hk3]
        go_upto_region 12 with fail
        go_quiet (fail)
        obtain ⟨wq1, hq1⟩ : ∃ x, x = wr.drewN nq := ⟨_, rfl⟩
        rw [← hq1]
        have HB1 : Hid (Below wr.heap.size wr wq1) := by rw [hq1]; exact below_drewN _ _ _
        clear hq1
        clear e0 e1 e2 e3 e4 ef c0 c1 c2 c3 c4
        have HOq1 : Hid (wq1.ownsRow w3.heap.size 46 5 v9 (outE l m 0 (En.mk k vv a g t) j).length (rowC (outE l m 0 (En.mk k vv a g t) j))) := ownsRow_below HO.out HB1.out
        have HWq1 : Hid (Below w3.heap.size w3 wq1) := HBr.out.trans (HB1.out.mono HBr.out.size)
        have HXq1 : Hid (BoxAt wq1 w.heap.size k vv a g t) := HBx.out.below HB1.out HBx.out.lt
        have HYq1 : Hid (EnAt wq1 b (o + j * 5) ⟨y0, y1, y2, y3, y4⟩) := HAt.out.of_block (HB1.out.block b (by exact hbr))
        obtain ⟨e0, e1, e2, e3, e4, ef⟩ := HXq1.out
        obtain ⟨c0, c1, c2, c3, c4⟩ := HYq1.out
        dsimp only at c0 c1 c2 c3 c4
        go_upto_region 15 with fail
        go_quiet (fail)
        obtain ⟨wq2, hq2⟩ : ∃ x, x = wq1.drewN nq := ⟨_, rfl⟩
        rw [← hq2]
        have HB2 : Hid (Below wq1.heap.size wq1 wq2) := by rw [hq2]; exact below_drewN _ _ _
        clear hq2
        clear e0 e1 e2 e3 e4 ef c0 c1 c2 c3 c4
        have HOq2 : Hid (wq2.ownsRow w3.heap.size 46 5 v9 (outE l m 0 (En.mk k vv a g t) j).length (rowC (outE l m 0 (En.mk k vv a g t) j))) := ownsRow_below HOq1.out HB2.out
        have HWq2 : Hid (Below w3.heap.size w3 wq2) := HWq1.out.trans (HB2.out.mono HWq1.out.size)
        have HXq2 : Hid (BoxAt wq2 w.heap.size k vv a g t) := HXq1.out.below HB2.out HXq1.out.lt
        have HYq2 : Hid (EnAt wq2 b (o + j * 5) ⟨y0, y1, y2, y3, y4⟩) := HYq1.out.of_block (HB2.out.block b (by have := HB1.out.size; omega))
        obtain ⟨e0, e1, e2, e3, e4, ef⟩ := HXq2.out
        obtain ⟨c0, c1, c2, c3, c4⟩ := HYq2.out
        dsimp only at c0 c1 c2 c3 c4
        have HOa1 : Hid ((wq2.alloc (.cells #[.int .i64 y0, .int .i64 y1, .int .i64 y2, .bool y3, .string y4] 46)).ownsRow w3.heap.size 46 5 v9 (outE l m 0 (En.mk k vv a g t) j).length (rowC (outE l m 0 (En.mk k vv a g t) j))) := ownsRow_below HOq2.out ((Below.refl _ wq2).alloc (Nat.le_refl _) _)
        have HVa1 : Hid ((wq2.alloc (.cells #[.int .i64 y0, .int .i64 y1, .int .i64 y2, .bool y3, .string y4] 46)).heap[wq2.heap.size]? = some (.cells (En.cells (En.mk y0 y1 y2 y3 y4)).toArray 46 (0, 0))) := alloc_at _ _ _ rfl
        have HLa1 : Hid ((outE l m 0 (En.mk k vv a g t) j).length ≤ 100) := Nat.le_trans (outE_len H8.out) (by omega)
        have HSa1 : Hid (w3.heap.size ≤ (wq2.alloc (.cells #[.int .i64 y0, .int .i64 y1, .int .i64 y2, .bool y3, .string y4] 46)).heap.size) := show _ ≤ _ from (by have := HWq2.out.size; simp; omega)
        go_wp2_with (at_builtin; refine wp_app _ rfl _ _ rfl w3.heap.size _ (outE l m 0 (En.mk k vv a g t) j) (En.mk y0 y1 y2 y3 y4) rfl HOa1.out _ rfl HVa1.out HLa1.out HSa1.out ?_)
        intro va1 wa1 hown hgrow
        have HOp1 : Hid (wa1.ownsRow w3.heap.size 46 5 va1 ((outE l m 0 (En.mk k vv a g t) j) ++ [(En.mk y0 y1 y2 y3 y4)]).length (rowC ((outE l m 0 (En.mk k vv a g t) j) ++ [(En.mk y0 y1 y2 y3 y4)]))) := hown
        have HBp1 : Hid (Below w3.heap.size w3 wa1) := below_grown (HWq2.out.alloc HWq2.out.size _) (Nat.le_refl _) hgrow.out (fun c hc => ownsRow_from HOq2.out c hc)
        clear hown hgrow HOa1 HVa1 HLa1 HSa1
        clear e0 e1 e2 e3 e4 ef c0 c1 c2 c3 c4
        go_wp2_with fail
        go_roundw
        case rel =>
          refine ⟨j + 1, va1, false, rfl, rfl, by omega, by go_num, ?_, ?_, HBp1⟩
          · exact (decide_eq_false (by omega)).symm
          · show World.ownsRow _ _ _ _ _ _ _
            rw [HEq.out]
            exact HOp1.out
        case measure => simp [intOf]; omega
      · obtain rfl : j = m := by omega
        have HK : Hid (k < y.k) := by
          show _
          rw [← HY.out]
          exact HE.out hjl
        obtain rfl : pt = false := HP.out.trans (decide_eq_false (by omega))
        have HEq : Hid (outE l j 0 (En.mk k vv a g t) (j + 1) = (outE l j 0 (En.mk k vv a g t) j ++ [(En.mk k vv a g t)]) ++ [y]) := by
          show _
          rw [← HY.out]
          exact outE_at0 hjl
        obtain ⟨y0, y1, y2, y3, y4⟩ := y
        have HBq : True := trivial
        obtain ⟨e0, e1, e2, e3, e4, ef⟩ := HBx.out
        obtain ⟨c0, c1, c2, c3, c4⟩ := HAt.out
        dsimp only at c0 c1 c2 c3 c4
        have hk1 := HK.out
        dsimp only at hk1
        have hk2 : k ≤ y0 := by omega
        have hk3 : ¬ y0 = k := by omega
        have hk4 : (y0 == k) = false := by simp [hk3]
        go_upto_region 12 with fail
        go_quiet (fail)
        obtain ⟨wq1, hq1⟩ : ∃ x, x = wr.drewN nq := ⟨_, rfl⟩
        rw [← hq1]
        have HB1 : Hid (Below wr.heap.size wr wq1) := by rw [hq1]; exact below_drewN _ _ _
        clear hq1
        clear e0 e1 e2 e3 e4 ef c0 c1 c2 c3 c4
        have HOq1 : Hid (wq1.ownsRow w3.heap.size 46 5 v9 (outE l j 0 (En.mk k vv a g t) j).length (rowC (outE l j 0 (En.mk k vv a g t) j))) := ownsRow_below HO.out HB1.out
        have HWq1 : Hid (Below w3.heap.size w3 wq1) := HBr.out.trans (HB1.out.mono HBr.out.size)
        have HXq1 : Hid (BoxAt wq1 w.heap.size k vv a g t) := HBx.out.below HB1.out HBx.out.lt
        have HYq1 : Hid (EnAt wq1 b (o + j * 5) ⟨y0, y1, y2, y3, y4⟩) := HAt.out.of_block (HB1.out.block b (by exact hbr))
        obtain ⟨e0, e1, e2, e3, e4, ef⟩ := HXq1.out
        obtain ⟨c0, c1, c2, c3, c4⟩ := HYq1.out
        dsimp only at c0 c1 c2 c3 c4
        have HOa1 : Hid ((wq1.alloc (.cells #[.int .i64 k, .int .i64 vv, .int .i64 a, .bool g, .string t] 46)).ownsRow w3.heap.size 46 5 v9 (outE l j 0 (En.mk k vv a g t) j).length (rowC (outE l j 0 (En.mk k vv a g t) j))) := ownsRow_below HOq1.out ((Below.refl _ wq1).alloc (Nat.le_refl _) _)
        have HVa1 : Hid ((wq1.alloc (.cells #[.int .i64 k, .int .i64 vv, .int .i64 a, .bool g, .string t] 46)).heap[wq1.heap.size]? = some (.cells (En.cells (En.mk k vv a g t)).toArray 46 (0, 0))) := alloc_at _ _ _ rfl
        have HLa1 : Hid ((outE l j 0 (En.mk k vv a g t) j).length ≤ 100) := Nat.le_trans (outE_len H8.out) (by omega)
        have HSa1 : Hid (w3.heap.size ≤ (wq1.alloc (.cells #[.int .i64 k, .int .i64 vv, .int .i64 a, .bool g, .string t] 46)).heap.size) := show _ ≤ _ from (by have := HWq1.out.size; simp; omega)
        go_wp2_with (at_builtin; refine wp_app _ rfl _ _ rfl w3.heap.size _ (outE l j 0 (En.mk k vv a g t) j) (En.mk k vv a g t) rfl HOa1.out _ rfl HVa1.out HLa1.out HSa1.out ?_)
        intro va1 wa1 hown hgrow
        have HOp1 : Hid (wa1.ownsRow w3.heap.size 46 5 va1 ((outE l j 0 (En.mk k vv a g t) j) ++ [(En.mk k vv a g t)]).length (rowC ((outE l j 0 (En.mk k vv a g t) j) ++ [(En.mk k vv a g t)]))) := hown
        have HBp1 : Hid (Below w3.heap.size w3 wa1) := below_grown (HWq1.out.alloc HWq1.out.size _) (Nat.le_refl _) hgrow.out (fun c hc => ownsRow_from HOq1.out c hc)
        clear hown hgrow HOa1 HVa1 HLa1 HSa1
        clear e0 e1 e2 e3 e4 ef c0 c1 c2 c3 c4
        have HXp : Hid (BoxAt wa1 w.heap.size k vv a g t) := E3.out.below HBp1.out E3.out.lt
        have HYp : Hid (EnAt wa1 b (o + j * 5) ⟨y0, y1, y2, y3, y4⟩) := HYo.out wa1 (B3.out.trans (HBp1.out.mono B3.out.size))
        have hbp : b < wa1.heap.size := by have := HBp1.out.size; have := B3.out.size; omega
        obtain ⟨e0, e1, e2, e3, e4, ef⟩ := HXp.out
        obtain ⟨c0, c1, c2, c3, c4⟩ := HYp.out
        dsimp only at c0 c1 c2 c3 c4
        go_upto_region 15 with fail
        go_quiet (fail)
        obtain ⟨wq2, hq2⟩ : ∃ x, x = wa1.drewN nq := ⟨_, rfl⟩
        rw [← hq2]
        have HB2 : Hid (Below wa1.heap.size wa1 wq2) := by rw [hq2]; exact below_drewN _ _ _
        clear hq2
        clear e0 e1 e2 e3 e4 ef c0 c1 c2 c3 c4
        have HOq2 : Hid (wq2.ownsRow w3.heap.size 46 5 va1 ((outE l j 0 (En.mk k vv a g t) j) ++ [(En.mk k vv a g t)]).length (rowC ((outE l j 0 (En.mk k vv a g t) j) ++ [(En.mk k vv a g t)]))) := ownsRow_below HOp1.out HB2.out
        have HWq2 : Hid (Below w3.heap.size w3 wq2) := HBp1.out.trans (HB2.out.mono HBp1.out.size)
        have HXq2 : Hid (BoxAt wq2 w.heap.size k vv a g t) := HXp.out.below HB2.out HXp.out.lt
        have HYq2 : Hid (EnAt wq2 b (o + j * 5) ⟨y0, y1, y2, y3, y4⟩) := HYp.out.of_block (HB2.out.block b (by exact hbp))
        obtain ⟨e0, e1, e2, e3, e4, ef⟩ := HXq2.out
        obtain ⟨c0, c1, c2, c3, c4⟩ := HYq2.out
        dsimp only at c0 c1 c2 c3 c4
        have HOa2 : Hid ((wq2.alloc (.cells #[.int .i64 y0, .int .i64 y1, .int .i64 y2, .bool y3, .string y4] 46)).ownsRow w3.heap.size 46 5 va1 ((outE l j 0 (En.mk k vv a g t) j) ++ [(En.mk k vv a g t)]).length (rowC ((outE l j 0 (En.mk k vv a g t) j) ++ [(En.mk k vv a g t)]))) := ownsRow_below HOq2.out ((Below.refl _ wq2).alloc (Nat.le_refl _) _)
        have HVa2 : Hid ((wq2.alloc (.cells #[.int .i64 y0, .int .i64 y1, .int .i64 y2, .bool y3, .string y4] 46)).heap[wq2.heap.size]? = some (.cells (En.cells (En.mk y0 y1 y2 y3 y4)).toArray 46 (0, 0))) := alloc_at _ _ _ rfl
        have HLa2 : Hid (((outE l j 0 (En.mk k vv a g t) j) ++ [(En.mk k vv a g t)]).length ≤ 100) := show _ ≤ _ from (by have := outE_len (l := l) (m := j) (d := 0) (j := j) (e := (En.mk k vv a g t)) H8.out; simp; omega)
        have HSa2 : Hid (w3.heap.size ≤ (wq2.alloc (.cells #[.int .i64 y0, .int .i64 y1, .int .i64 y2, .bool y3, .string y4] 46)).heap.size) := show _ ≤ _ from (by have := HWq2.out.size; simp; omega)
        go_wp2_with (at_builtin; refine wp_app _ rfl _ _ rfl w3.heap.size _ ((outE l j 0 (En.mk k vv a g t) j) ++ [(En.mk k vv a g t)]) (En.mk y0 y1 y2 y3 y4) rfl HOa2.out _ rfl HVa2.out HLa2.out HSa2.out ?_)
        intro va2 wa2 hown hgrow
        have HOp2 : Hid (wa2.ownsRow w3.heap.size 46 5 va2 (((outE l j 0 (En.mk k vv a g t) j) ++ [(En.mk k vv a g t)]) ++ [(En.mk y0 y1 y2 y3 y4)]).length (rowC (((outE l j 0 (En.mk k vv a g t) j) ++ [(En.mk k vv a g t)]) ++ [(En.mk y0 y1 y2 y3 y4)]))) := hown
        have HBp2 : Hid (Below w3.heap.size w3 wa2) := below_grown (HWq2.out.alloc HWq2.out.size _) (Nat.le_refl _) hgrow.out (fun c hc => ownsRow_from HOq2.out c hc)
        clear hown hgrow HOa2 HVa2 HLa2 HSa2
        clear e0 e1 e2 e3 e4 ef c0 c1 c2 c3 c4
        go_wp2_with fail
        go_roundw
        case rel =>
          refine ⟨j + 1, va2, true, rfl, rfl, by omega, by go_num, ?_, ?_, HBp2⟩
          · exact (decide_eq_true (by omega)).symm
          · show World.ownsRow _ _ _ _ _ _ _
            rw [HEq.out]
            exact HOp2.out
        case measure => simp [intOf]; omega
      · have HK : Hid (y.k > k) := by
          show _
          rw [← HY.out]
          exact HG.out j hjl (by omega)
        obtain rfl : pt = true := HP.out.trans (decide_eq_true (by omega))
        have HEq : Hid (outE l m 0 (En.mk k vv a g t) (j + 1) = outE l m 0 (En.mk k vv a g t) j ++ [y]) := by
          show _
          rw [← HY.out]
          exact outE_more (by omega) (by omega) hjl
        obtain ⟨y0, y1, y2, y3, y4⟩ := y
        have HBq : True := trivial
        obtain ⟨e0, e1, e2, e3, e4, ef⟩ := HBx.out
        obtain ⟨c0, c1, c2, c3, c4⟩ := HAt.out
        dsimp only at c0 c1 c2 c3 c4
        have hk1 := HK.out
        dsimp only at hk1
        have hk2 : k < y0 := by omega
        have hk3 : ¬ y0 = k := by omega
        have hk4 : (y0 == k) = false := by simp [hk3]
        go_upto_region 12 with fail
        go_quiet (fail)
        obtain ⟨wq1, hq1⟩ : ∃ x, x = wr.drewN nq := ⟨_, rfl⟩
        rw [← hq1]
        have HB1 : Hid (Below wr.heap.size wr wq1) := by rw [hq1]; exact below_drewN _ _ _
        clear hq1
        clear e0 e1 e2 e3 e4 ef c0 c1 c2 c3 c4
        have HOq1 : Hid (wq1.ownsRow w3.heap.size 46 5 v9 (outE l m 0 (En.mk k vv a g t) j).length (rowC (outE l m 0 (En.mk k vv a g t) j))) := ownsRow_below HO.out HB1.out
        have HWq1 : Hid (Below w3.heap.size w3 wq1) := HBr.out.trans (HB1.out.mono HBr.out.size)
        have HXq1 : Hid (BoxAt wq1 w.heap.size k vv a g t) := HBx.out.below HB1.out HBx.out.lt
        have HYq1 : Hid (EnAt wq1 b (o + j * 5) ⟨y0, y1, y2, y3, y4⟩) := HAt.out.of_block (HB1.out.block b (by exact hbr))
        obtain ⟨e0, e1, e2, e3, e4, ef⟩ := HXq1.out
        obtain ⟨c0, c1, c2, c3, c4⟩ := HYq1.out
        dsimp only at c0 c1 c2 c3 c4
        go_upto_region 15 with fail
        go_quiet (fail)
        obtain ⟨wq2, hq2⟩ : ∃ x, x = wq1.drewN nq := ⟨_, rfl⟩
        rw [← hq2]
        have HB2 : Hid (Below wq1.heap.size wq1 wq2) := by rw [hq2]; exact below_drewN _ _ _
        clear hq2
        clear e0 e1 e2 e3 e4 ef c0 c1 c2 c3 c4
        have HOq2 : Hid (wq2.ownsRow w3.heap.size 46 5 v9 (outE l m 0 (En.mk k vv a g t) j).length (rowC (outE l m 0 (En.mk k vv a g t) j))) := ownsRow_below HOq1.out HB2.out
        have HWq2 : Hid (Below w3.heap.size w3 wq2) := HWq1.out.trans (HB2.out.mono HWq1.out.size)
        have HXq2 : Hid (BoxAt wq2 w.heap.size k vv a g t) := HXq1.out.below HB2.out HXq1.out.lt
        have HYq2 : Hid (EnAt wq2 b (o + j * 5) ⟨y0, y1, y2, y3, y4⟩) := HYq1.out.of_block (HB2.out.block b (by have := HB1.out.size; omega))
        obtain ⟨e0, e1, e2, e3, e4, ef⟩ := HXq2.out
        obtain ⟨c0, c1, c2, c3, c4⟩ := HYq2.out
        dsimp only at c0 c1 c2 c3 c4
        have HOa1 : Hid ((wq2.alloc (.cells #[.int .i64 y0, .int .i64 y1, .int .i64 y2, .bool y3, .string y4] 46)).ownsRow w3.heap.size 46 5 v9 (outE l m 0 (En.mk k vv a g t) j).length (rowC (outE l m 0 (En.mk k vv a g t) j))) := ownsRow_below HOq2.out ((Below.refl _ wq2).alloc (Nat.le_refl _) _)
        have HVa1 : Hid ((wq2.alloc (.cells #[.int .i64 y0, .int .i64 y1, .int .i64 y2, .bool y3, .string y4] 46)).heap[wq2.heap.size]? = some (.cells (En.cells (En.mk y0 y1 y2 y3 y4)).toArray 46 (0, 0))) := alloc_at _ _ _ rfl
        have HLa1 : Hid ((outE l m 0 (En.mk k vv a g t) j).length ≤ 100) := Nat.le_trans (outE_len H8.out) (by omega)
        have HSa1 : Hid (w3.heap.size ≤ (wq2.alloc (.cells #[.int .i64 y0, .int .i64 y1, .int .i64 y2, .bool y3, .string y4] 46)).heap.size) := show _ ≤ _ from (by have := HWq2.out.size; simp; omega)
        go_wp2_with (at_builtin; refine wp_app _ rfl _ _ rfl w3.heap.size _ (outE l m 0 (En.mk k vv a g t) j) (En.mk y0 y1 y2 y3 y4) rfl HOa1.out _ rfl HVa1.out HLa1.out HSa1.out ?_)
        intro va1 wa1 hown hgrow
        have HOp1 : Hid (wa1.ownsRow w3.heap.size 46 5 va1 ((outE l m 0 (En.mk k vv a g t) j) ++ [(En.mk y0 y1 y2 y3 y4)]).length (rowC ((outE l m 0 (En.mk k vv a g t) j) ++ [(En.mk y0 y1 y2 y3 y4)]))) := hown
        have HBp1 : Hid (Below w3.heap.size w3 wa1) := below_grown (HWq2.out.alloc HWq2.out.size _) (Nat.le_refl _) hgrow.out (fun c hc => ownsRow_from HOq2.out c hc)
        clear hown hgrow HOa1 HVa1 HLa1 HSa1
        clear e0 e1 e2 e3 e4 ef c0 c1 c2 c3 c4
        go_wp2_with fail
        go_roundw
        case rel =>
          refine ⟨j + 1, va1, true, rfl, rfl, by omega, by go_num, ?_, ?_, HBp1⟩
          · exact (decide_eq_true (by omega)).symm
          · show World.ownsRow _ _ _ _ _ _ _
            rw [HEq.out]
            exact HOp1.out
        case measure => simp [intOf]; omega
    · obtain rfl : j = n := by omega
      by_cases hmn : m < j
      · obtain rfl : pt = true := HP.out.trans (decide_eq_true (by omega))
        have HEq : Hid (outE l m 0 (En.mk k vv a g t) j = l.take m ++ (En.mk k vv a g t) :: l.drop m) := by
          show _
          rw [← HN.out]
          exact outE_end (d := 0) (by rw [HN.out]; exact hmn)
        go_wp2_with fail
        go_ret2
        refine ⟨v9, rfl, ?_, HBw.out⟩
        have := RowIs.own HO.out
        rw [HEq.out] at this
        exact ⟨this, fun g hg => Nat.le_trans B3.out.size (ownsRow_from HO.out g hg)⟩
      · obtain rfl : pt = false := HP.out.trans (decide_eq_false (by omega))
        have HEq : Hid (outE l m 0 (En.mk k vv a g t) j ++ [(En.mk k vv a g t)] = l.take m ++ (En.mk k vv a g t) :: l.drop m) := by
          show _
          have hml : m = l.length := by rw [HN.out]; have := HMn.out; omega
          rw [← HN.out, outE_all hml, hml, List.take_length, List.drop_length]
          exact show _ = _ from rfl
        obtain ⟨e0, e1, e2, e3, e4, ef⟩ := HBx.out
        have HOa1 : Hid ((wr.alloc (.cells #[.int .i64 k, .int .i64 vv, .int .i64 a, .bool g, .string t] 46)).ownsRow w3.heap.size 46 5 v9 (outE l m 0 (En.mk k vv a g t) j).length (rowC (outE l m 0 (En.mk k vv a g t) j))) := ownsRow_below HO.out ((Below.refl _ wr).alloc (Nat.le_refl _) _)
        have HVa1 : Hid ((wr.alloc (.cells #[.int .i64 k, .int .i64 vv, .int .i64 a, .bool g, .string t] 46)).heap[wr.heap.size]? = some (.cells (En.cells (En.mk k vv a g t)).toArray 46 (0, 0))) := alloc_at _ _ _ rfl
        have HLa1 : Hid ((outE l m 0 (En.mk k vv a g t) j).length ≤ 100) := Nat.le_trans (outE_len H8.out) (by omega)
        have HSa1 : Hid (w3.heap.size ≤ (wr.alloc (.cells #[.int .i64 k, .int .i64 vv, .int .i64 a, .bool g, .string t] 46)).heap.size) := show _ ≤ _ from (by have := HBr.out.size; simp; omega)
        go_wp2_with (at_builtin; refine wp_app _ rfl _ _ rfl w3.heap.size _ (outE l m 0 (En.mk k vv a g t) j) (En.mk k vv a g t) rfl HOa1.out _ rfl HVa1.out HLa1.out HSa1.out ?_)
        intro va1 wa1 hown hgrow
        have HOp1 : Hid (wa1.ownsRow w3.heap.size 46 5 va1 ((outE l m 0 (En.mk k vv a g t) j) ++ [(En.mk k vv a g t)]).length (rowC ((outE l m 0 (En.mk k vv a g t) j) ++ [(En.mk k vv a g t)]))) := hown
        have HBp1 : Hid (Below w3.heap.size w3 wa1) := below_grown (HBr.out.alloc HBr.out.size _) (Nat.le_refl _) hgrow.out (fun c hc => ownsRow_from HO.out c hc)
        clear hown hgrow HOa1 HVa1 HLa1 HSa1
        clear e0 e1 e2 e3 e4 ef
        go_wp2_with fail
        go_ret2
        refine ⟨va1, rfl, ?_, B3.out.trans (HBp1.out.mono B3.out.size)⟩
        have := RowIs.own HOp1.out
        rw [HEq.out] at this
        exact ⟨this, fun g hg => Nat.le_trans B3.out.size (ownsRow_from HOp1.out g hg)⟩
end Go.Proofs.YtpcnfoaoajfhlaaGreatDoor
