/-
  meresame.Hints: two rows of the same hints are the same.
-/
import Derived.Test.YtkhdeaegbkenfaiDoorHnM
import Derived.BigQuiet
import Derived.Deep.LoopGhost
import Derived.WalkSmall
namespace Go.Proofs.YtkhdeaegbkenfaiDoor
set_option linter.unusedVariables false
set_option linter.unusedSimpArgs false
open Go.RowKit
set_option maxRecDepth 100000 in
set_option maxHeartbeats 8000000 in
theorem sameHn_c (va vb : Value) (l : List Hn) (w : World) (hra : HnsIs w va l) (hrb : HnsIs w vb l) :
    Calls Tryd.prog 10 #[va, vb] w fun e w' => e = .returned (.bool true) ∧ Below w.heap.size w w' := by
  obtain ⟨hla, pa, capa, rfl, hrowa⟩ := hra
  obtain ⟨hlb, pb, capb, rfl, hrowb⟩ := hrb
  have HRA : Hid (l ≠ [] → ∃ bb o, pa = some ⟨bb, o, none⟩ ∧ bb < w.heap.size ∧ ∀ j (h : j < l.length), HnAt w bb (o + j * 3) l[j]) := hrowa
  have HRB : Hid (l ≠ [] → ∃ bb o, pb = some ⟨bb, o, none⟩ ∧ bb < w.heap.size ∧ ∀ j (h : j < l.length), HnAt w bb (o + j * 3) l[j]) := hrowb
  clear hrowa hrowb
  obtain ⟨n, HN⟩ : ∃ n, Hid (l.length = n) := ⟨_, rfl⟩
  rw [HN.out] at hla hlb ⊢
  have hn63 : n ≤ 9223372036854775807 := hla
  have hgd := eqGuard_hn
  go_enter Tryd.func10, Tryd.ntmps10
  go_wp2_with fail
  go_loopw [5] (fun i wr => ∃ j : Nat, j ≤ n ∧ i = .int .i64 j ∧ Hid (Below w.heap.size w wr)) (fun i _ => n - (intOf i).toNat)
  case atStart => exact ⟨0, Nat.zero_le _, rfl, Below.refl _ _⟩
  case round =>
    obtain ⟨j, hj, rfl, HB⟩ := hrel
    by_cases hlt : j < n
    · have hjl : j < l.length := by rw [HN.out]; exact hlt
      obtain ⟨ba, oa, rfl, hbwa, hata⟩ := HRA.out (fun h => by simp [h] at hjl)
      obtain ⟨bb, ob, rfl, hbwb, hatb⟩ := HRB.out (fun h => by simp [h] at hjl)
      have HAa : Hid (HnAt wr ba (oa + j * 3) l[j]) := (hata j hjl).of_block (HB.out.block ba hbwa)
      have HAb : Hid (HnAt wr bb (ob + j * 3) l[j]) := (hatb j hjl).of_block (HB.out.block bb hbwb)
      clear hata hatb
      obtain ⟨x, HX⟩ : ∃ x, Hid (l[j] = x) := ⟨l[j], show l[j] = l[j] from rfl⟩
      rw [HX.out] at HAa HAb
      obtain ⟨x0, x1, x2⟩ := x
      have hq := neq_hn x0 x1 x2 x0 x1 x2 true (by simp [Hn.same])
      obtain ⟨c0, c1, c2⟩ := HAa.out
      obtain ⟨d0, d1, d2⟩ := HAb.out
      dsimp only at c0 c1 c2 d0 d1 d2
      have hlti : (j : Int) < (n : Int) := by omega
      go_upto_region 6 with fail
      go_quiet (fail)
      go_wp2_with fail
      go_roundw
      case rel => exact ⟨j + 1, by omega, by go_num, HB.out.trans (below_drewN _ _ _)⟩
      case measure => simp [intOf]; omega
    · obtain rfl : j = n := by omega
      go_wp2_with fail
      go_ret
      exact ⟨rfl, HB.out⟩
end Go.Proofs.YtkhdeaegbkenfaiDoor
