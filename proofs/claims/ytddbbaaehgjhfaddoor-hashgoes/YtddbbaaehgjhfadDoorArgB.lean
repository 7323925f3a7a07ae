/-
  A byte that came in; a text that came in is not longer than the reach.
-/
import Derived.Test.YtddbbaaehgjhfadDoorEn
import Derived.SizedLaws
namespace Go.Proofs.YtddbbaaehgjhfadDoor
set_option linter.unusedVariables false
set_option linter.unusedSimpArgs false
open Go.RowKit

theorem u8_of {n : Int} (h : (Lit.int .u8 n).wf = true) : ∃ c : UInt8, n = ((c.toNat : Nat) : Int) := by
  have h' : 0 ≤ n ∧ n ≤ 255 := by
    simp only [Lit.wf, IntKind.min, IntKind.max, IntKind.bits, IntKind.signed, Bool.and_eq_true, decide_eq_true_eq] at h
    simpa using h
  refine ⟨UInt8.ofNat n.toNat, ?_⟩
  rw [UInt8.toNat_ofNat']
  omega
theorem reach_size {s : ByteArray} (h : s.data.toList.length ≤ reachBytes) : s.size ≤ 140737488355328 := by
  rw [Array.length_toList] at h
  have e : reachBytes = 140737488351232 := rfl
  rw [e] at h
  have : s.size = s.data.size := rfl
  omega
end Go.Proofs.YtddbbaaehgjhfadDoor
