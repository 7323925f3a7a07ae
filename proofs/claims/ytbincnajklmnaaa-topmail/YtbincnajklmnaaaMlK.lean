/-
  Package mail by its contracts: Cut.
-/
import Derived.Test.YtbincnajklmnaaaMlG
namespace Go.Proofs.Ytbincnajklmnaaa
set_option linter.unusedVariables false
set_option linter.unusedSimpArgs false
open Go.RowKit

theorem checkWay_b {f d m : Int} (h : endsE f d = m) (w : World) : Calls Try.prog 34 #[.agg #[.int .i64 f, .int .i64 d]] w fun e w' => e = .returned (eV m) ∧ Below w.heap.size w w' := by
  subst h
  exact checkWay_c f d w
theorem checkWay_ok {f d : Int} (h : endsE f d = 0) (w : World) : Calls Try.prog 34 #[.agg #[.int .i64 f, .int .i64 d]] w fun e w' => e = .returned .nilIface ∧ Below w.heap.size w w' := by
  have c := checkWay_b h w
  rw [eV, if_pos rfl] at c
  exact c
theorem checkWay_err {f d m : Int} (h : endsE f d = m) (hm : m ≠ 0) (w : World) : Calls Try.prog 34 #[.agg #[.int .i64 f, .int .i64 d]] w fun e w' => e = .returned (.iface 65 (.int .i64 m)) ∧ Below w.heap.size w w' := by
  have c := checkWay_b h w
  rw [eV, if_neg hm] at c
  exact c
end Go.Proofs.Ytbincnajklmnaaa
