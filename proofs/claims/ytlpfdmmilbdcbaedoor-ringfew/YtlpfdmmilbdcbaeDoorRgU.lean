/-
  The document's Nodes and Key, and meresame.Points at the same points, by their contracts.
-/
import Derived.Test.YtlpfdmmilbdcbaeDoorRgN
namespace Go.Proofs.YtlpfdmmilbdcbaeDoor
set_option linter.unusedVariables false
set_option linter.unusedSimpArgs false
open Go.RowKit

set_option maxHeartbeats 4000000 in
theorem inW_c (va : Value) (a : List Int) (x : Int) (R : Bool) (w : World) (hra : IntsIs w va a) (hR : a.contains x = R) :
    Calls Tryd.prog 23 #[va, .int .i64 x] w fun e w' => e = .returned (.bool R) ∧ w' = w := by
  obtain ⟨hla, pa, capa, rfl, hrowa⟩ := hra
  have HRA : Hid (a ≠ [] → ∃ bb o, pa = some ⟨bb, o, none⟩ ∧ bb < w.heap.size ∧ ∀ j (h : j < a.length), w.cell? ⟨bb, o + j, none⟩ = some (.int .i64 a[j])) := hrowa
  clear hrowa
  obtain ⟨n, HN⟩ : ∃ n, Hid (a.length = n) := ⟨_, rfl⟩
  rw [HN.out] at hla ⊢
  have hn63 : n ≤ 9223372036854775807 := hla
  have HR : Hid (a.contains x = R) := hR
  clear hR
  go_enter Tryd.func23, Tryd.ntmps23
  go_wp2_with fail
  go_loopw [5] (fun i wr => ∃ j : Nat, j ≤ n ∧ i = .int .i64 j ∧ Hid (R = (a.drop j).contains x) ∧ wr = w) (fun i _ => n - (intOf i).toNat)
  case atStart => exact ⟨0, Nat.zero_le _, rfl, by rw [List.drop_zero]; exact HR.out.symm, rfl⟩
  case round =>
    obtain ⟨j, hj, rfl, HE, rfl⟩ := hrel
    by_cases hlt : j < n
    · have hja : j < a.length := by rw [HN.out]; exact hlt
      obtain ⟨ba, oa, rfl, hbwa, hata⟩ := HRA.out (fun h => by simp [h] at hja)
      have c0 := hata j hja
      clear hata
      have HHit : Hid (a[j] = x → R = true) := fun h => HE.out.trans (hasI_hit hja h)
      have HMiss : Hid (¬ a[j] = x → R = (a.drop (j + 1)).contains x) := fun h => HE.out.trans (hasI_miss hja h)
      obtain ⟨y, HY⟩ : ∃ y, Hid (a[j] = y) := ⟨a[j], show a[j] = a[j] from rfl⟩
      rw [HY.out] at c0 HHit HMiss
      have hlti : (j : Int) < (n : Int) := by omega
      by_cases hs : y = x
      · have HRt : Hid (R = true) := HHit.out hs
        go_wp2_with fail
        go_ret
        exact ⟨by rw [HRt.out]; rfl, rfl⟩
      · have HRt : Hid (R = (a.drop (j + 1)).contains x) := HMiss.out hs
        go_wp2_with fail
        go_roundw
        case rel => exact ⟨j + 1, by omega, by go_num, HRt, trivial⟩
        case measure => simp [intOf]; omega
    · obtain rfl : j = n := by omega
      have HR0 : Hid (R = false) := by
        show R = false
        rw [HE.out, List.drop_eq_nil_of_le (by rw [HN.out]; exact Nat.le_refl _)]
        rfl
      go_wp2_with fail
      go_ret
      exact ⟨by rw [HR0.out]; rfl, rfl⟩
theorem keyR_c (k : Int) (w : World) : Calls Tryd.prog 18 #[.int .i64 k] w fun e w' => e = .returned (.bool (inR k 0 7)) ∧ w' = w := by
  go_enter Tryd.func18, Tryd.ntmps18
  go_wp2_with fail
  · go_ret
    refine ⟨?_, rfl⟩
    rename_i h
    simp [inR, h]
  · go_ret
    refine ⟨?_, rfl⟩
    rename_i h
    have h2 : ¬ 0 ≤ k := by omega
    simp [inR, h2]
theorem drew_ints {w : World} {v : Value} {l : List Int} (h : IntsIs w v l) (n : Nat) : IntsIs (w.drewN n) v l := h.below (below_drewN _ _ _)
set_option maxHeartbeats 8000000 in
theorem rNodes_c (v : Value) (l : List Int) (w : World) (hr : IntsIs w v l) (hcap : CapOk v l.length) :
    Calls Tryd.prog 13 #[v] w fun e w' => e = .returned (.int .i64 (badNodes l)) ∧ Below w.heap.size w w' := by
  obtain ⟨p, cap, rfl, hc1, hc2⟩ := hcap
  have HRow : Hid (IntsIs w (.slice p l.length cap) l) := hr
  obtain ⟨_, q, c, e, hrow⟩ := hr
  injection e with e1 e2 e3
  subst e1
  have HR : Hid (l ≠ [] → ∃ bb o, p = some ⟨bb, o, none⟩ ∧ bb < w.heap.size ∧ ∀ j (h : j < l.length), w.cell? ⟨bb, o + j, none⟩ = some (.int .i64 l[j])) := hrow
  clear hrow e2 e3
  by_cases h0 : l.length = 0
  · rw [badNodes_zero h0]
    have hi0 := nat_zero h0
    clear HR HRow
    generalize l.length = n at *
    go_enter Tryd.func13, Tryd.ntmps13
    go_wp2_with fail
    go_ret
    exact ⟨rfl, Below.refl _ _⟩
  by_cases h6 : 6 < l.length
  · rw [badNodes_full h6]
    have hi0 := nat_some h0
    have hi6 : (6 : Int) < (l.length : Int) := by omega
    clear HR HRow
    generalize l.length = n at *
    go_enter Tryd.func13, Tryd.ntmps13
    go_wp2_with fail
    go_ret
    exact ⟨rfl, Below.refl _ _⟩
  rw [badNodes_else h0 h6]
  obtain ⟨R, HE⟩ : ∃ R, Hid (badFrom (l.take 0) (l.drop 0) = R) := ⟨_, rfl⟩
  rw [HE.out]
  have hi0 := nat_some h0
  have hi6 : ¬ (6 : Int) < (l.length : Int) := by omega
  obtain ⟨n, HN⟩ : ∃ n, Hid (l.length = n) := ⟨_, rfl⟩
  rw [HN.out] at hc1 h0 h6 hi0 hi6 HRow ⊢
  have hc63 : cap ≤ 9223372036854775807 := hc2
  go_enter Tryd.func13, Tryd.ntmps13
  go_wp2_with fail
  go_loopw [3] (fun i wr => ∃ j : Nat, j ≤ n ∧ i = .int .i64 j ∧ Hid (badFrom (l.take j) (l.drop j) = R) ∧ Hid (Below w.heap.size w wr)) (fun i _ => n - (intOf i).toNat)
  case atStart => exact ⟨0, Nat.zero_le _, rfl, HE, Below.refl _ _⟩
  case round =>
    obtain ⟨j, hj, rfl, HJ, HB⟩ := hrel
    by_cases hlt : j < n
    · have hja : j < l.length := by rw [HN.out]; exact hlt
      obtain ⟨ba, oa, hp, hbwa, hata⟩ := HR.out (fun h => by simp [h] at hja)
      have c0 : wr.cell? ⟨ba, oa + j, none⟩ = some (.int .i64 l[j]) := (World.cell?_of_block (a := ⟨ba, oa + j, none⟩) (HB.out.block ba hbwa)).trans (hata j hja)
      clear hata
      subst hp
      have HRow' : Hid (IntsIs wr (.slice (some ⟨ba, oa, none⟩) l.length cap) l) := by rw [HN.out]; exact HRow.out.below HB.out
      have hlti : (j : Int) < (n : Int) := by omega
      have hjc : (j : Int) ≤ (cap : Int) := by omega
      obtain ⟨x, HX⟩ : ∃ x, Hid (l[j] = x) := ⟨l[j], show l[j] = l[j] from rfl⟩
      obtain ⟨co, HCo⟩ : ∃ co, Hid ((l.take j).contains l[j] = co) := ⟨(l.take j).contains l[j], show (l.take j).contains l[j] = (l.take j).contains l[j] from rfl⟩
      have H1 : Hid (inR x 0 5 = false → R = 1) := fun h => HJ.out.symm.trans (badFrom_range hja (by rw [HX.out]; exact h))
      have H2 : Hid (inR x 0 5 = true → co = true → R = 7) := fun h hc => HJ.out.symm.trans (badFrom_clash hja (by rw [HX.out]; exact h) (by rw [HCo.out]; exact hc))
      have H3 : Hid (inR x 0 5 = true → co = false → badFrom (l.take (j + 1)) (l.drop (j + 1)) = R) := fun h hc => (badFrom_next hja (by rw [HX.out]; exact h) (by rw [HCo.out]; exact hc)).symm.trans HJ.out
      rw [HX.out] at c0 HCo
      have HIn : Hid (∀ q cp, Calls Tryd.prog 23 #[.slice (some ⟨ba, oa, none⟩) j cp, .int .i64 x] (wr.drewN q) fun e w' => e = .returned (.bool co) ∧ w' = wr.drewN q) := fun q cp => inW_c _ (l.take j) x co _ (IntsIs.take (drew_ints HRow'.out q) (by rw [HN.out]; exact hj) (fun _ => rfl)) HCo.out
      go_upto_region 8 with fail
      go_quiet (first | (go_at_call 23; exact Calls.quiet_of_same (HIn.out _ _)))
      have HBq : Hid (Below w.heap.size w (wr.drewN nq)) := HB.out.trans (below_drewN _ _ _)
      have c0q : (wr.drewN nq).cell? ⟨ba, oa + j, none⟩ = some (.int .i64 x) := c0
      clear c0
      obtain ⟨w2, HW2⟩ : ∃ w2, w2 = wr.drewN nq := ⟨_, rfl⟩
      rw [← HW2] at HBq c0q ⊢
      clear HW2
      by_cases hx0 : x < 0
      · have HRv : Hid (R = 1) := H1.out (by simp [inR]; omega)
        clear H1 H2 H3
        go_wp2_with fail
        go_ret
        exact ⟨by rw [HRv.out]; rfl, HBq.out⟩
      by_cases hx5 : 5 < x
      · have HRv : Hid (R = 1) := H1.out (by simp [inR]; omega)
        clear H1 H2 H3
        go_wp2_with fail
        go_ret
        exact ⟨by rw [HRv.out]; rfl, HBq.out⟩
      have hin : inR x 0 5 = true := by simp [inR]; omega
      cases co
      · have HRv : Hid (badFrom (l.take (j + 1)) (l.drop (j + 1)) = R) := H3.out hin rfl
        clear H1 H2 H3 hin
        go_wp2_with fail
        go_roundw
        case rel => exact ⟨j + 1, by omega, by go_num, HRv, HBq⟩
        case measure => simp [intOf]; omega
      · have HRv : Hid (R = 7) := H2.out hin rfl
        clear H1 H2 H3 hin
        go_wp2_with fail
        go_ret
        exact ⟨by rw [HRv.out]; rfl, HBq.out⟩
    · obtain rfl : j = n := by omega
      have HR0 : Hid (R = 0) := by
        show R = 0
        rw [← HJ.out, List.drop_eq_nil_of_le (by rw [HN.out]; exact Nat.le_refl _)]
        rfl
      go_wp2_with fail
      go_ret
      exact ⟨by rw [HR0.out]; rfl, HB.out⟩
set_option maxHeartbeats 4000000 in
theorem samePts_c (va vb : Value) (l : List Pt) (w : World) (hra : PtsIs w va l) (hrb : PtsIs w vb l) :
    Calls Tryd.prog 16 #[va, vb] w fun e w' => e = .returned (.bool true) ∧ Below w.heap.size w w' := by
  obtain ⟨hla, pa, capa, rfl, hrowa⟩ := hra
  obtain ⟨hlb, pb, capb, rfl, hrowb⟩ := hrb
  have HRA : Hid (l ≠ [] → ∃ bb o, pa = some ⟨bb, o, none⟩ ∧ bb < w.heap.size ∧ ∀ j (h : j < l.length), PtAt w bb (o + j * 2) l[j]) := hrowa
  have HRB : Hid (l ≠ [] → ∃ bb o, pb = some ⟨bb, o, none⟩ ∧ bb < w.heap.size ∧ ∀ j (h : j < l.length), PtAt w bb (o + j * 2) l[j]) := hrowb
  clear hrowa hrowb
  obtain ⟨n, HN⟩ : ∃ n, Hid (l.length = n) := ⟨_, rfl⟩
  rw [HN.out] at hla hlb ⊢
  have hn63 : n ≤ 9223372036854775807 := hla
  have hgd := eqGuard_pt
  go_enter Tryd.func16, Tryd.ntmps16
  go_wp2_with fail
  go_loopw [5] (fun i wr => ∃ j : Nat, j ≤ n ∧ i = .int .i64 j ∧ Hid (Below w.heap.size w wr)) (fun i _ => n - (intOf i).toNat)
  case atStart => exact ⟨0, Nat.zero_le _, rfl, Below.refl _ _⟩
  case round =>
    obtain ⟨j, hj, rfl, HB⟩ := hrel
    by_cases hlt : j < n
    · have hjl : j < l.length := by rw [HN.out]; exact hlt
      obtain ⟨ba, oa, rfl, hbwa, hata⟩ := HRA.out (fun h => by simp [h] at hjl)
      obtain ⟨bb, ob, rfl, hbwb, hatb⟩ := HRB.out (fun h => by simp [h] at hjl)
      have HAa : Hid (PtAt wr ba (oa + j * 2) l[j]) := (hata j hjl).of_block (HB.out.block ba hbwa)
      have HAb : Hid (PtAt wr bb (ob + j * 2) l[j]) := (hatb j hjl).of_block (HB.out.block bb hbwb)
      clear hata hatb
      obtain ⟨x, HX⟩ : ∃ x, Hid (l[j] = x) := ⟨l[j], show l[j] = l[j] from rfl⟩
      rw [HX.out] at HAa HAb
      obtain ⟨x0, x1⟩ := x
      have hq := neq_pt x0 x1 x0 x1 true (by simp [Pt.same])
      obtain ⟨c0, c1⟩ := HAa.out
      obtain ⟨d0, d1⟩ := HAb.out
      dsimp only at c0 c1 d0 d1
      have hlti : (j : Int) < (n : Int) := by omega
      go_upto_region 6 with fail
      go_quiet (fail)
      go_wp2_with fail
      go_roundw
      case rel => exact ⟨j + 1, by omega, by go_num, HB.out.trans (below_drewN _ _ _)⟩
      case measure => simp [intOf]; omega
    · obtain rfl : j = n := by omega
      go_wp2_with fail
      go_ret
      exact ⟨rfl, HB.out⟩
end Go.Proofs.YtlpfdmmilbdcbaeDoor
