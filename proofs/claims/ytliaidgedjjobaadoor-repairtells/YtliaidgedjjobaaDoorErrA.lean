/-
  meresame.Error by its contract, whatever the error's number.
-/
import Derived.Test.YtliaidgedjjobaaDoorTold
import Derived.Test.YtliaidgedjjobaaDoorEn
namespace Go.Proofs.YtliaidgedjjobaaDoor
set_option linter.unusedVariables false
set_option linter.unusedSimpArgs false
open Go.RowKit
theorem err_any (n m : Int) (w : World) (hg : HasErr w) : Calls Tryd.prog 11 #[eV n, .int .i64 m] w fun e w' => e = .returned (.bool (n == m)) ∧ Below w.heap.size w w' := by
  by_cases h : n = 0
  · subst h
    exact (error_nil m w).mono fun e w' ⟨he, hw⟩ => ⟨he, hw ▸ Below.refl _ _⟩
  · have e : eV n = .iface 83 (.int .i64 n) := by simp [eV, h]
    rw [e]
    exact error_err n m w hg
theorem err_same (n : Int) (w : World) (hg : HasErr w) : Calls Tryd.prog 11 #[eV n, .int .i64 n] w fun e w' => e = .returned (.bool true) ∧ Below w.heap.size w w' := by
  have c := err_any n n w hg
  simp only [beq_self_eq_true] at c
  exact c
end Go.Proofs.YtliaidgedjjobaaDoor
