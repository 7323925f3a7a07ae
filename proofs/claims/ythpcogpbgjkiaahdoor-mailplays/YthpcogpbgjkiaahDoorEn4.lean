/-
  Package entry by its contracts: Join of any two entries; True.
-/
import Derived.Test.YthpcogpbgjkiaahDoorEn3
namespace Go.Proofs.YthpcogpbgjkiaahDoor
set_option linter.unusedVariables false
set_option linter.unusedSimpArgs false
open Go.RowKit
/-- two entries with the same cells -/
def En.same (x y : En) : Bool := (x.k == y.k) && ((x.v == y.v) && ((x.a == y.a) && ((x.g == y.g) && (x.t.toList == y.t.toList))))
theorem eql_enIn (x y : En) (w : World) : (Op.equalIn 10000 35 x.val y.val).run Tryd.prog w = .ok (x.same y) w := by
  unfold En.val
  rw [run_equalIn_agg w 9999 35 _ _ (by kernel_rfl) (by kernel_rfl)]
  simp [Op.eqFields, Program.fieldsOf, Tryd.underlying35, go_sem, Tryd.underlying3, Tryd.underlying4, Tryd.underlying9, En.same]
  by_cases h0 : x.k = y.k <;> by_cases h1 : x.v = y.v <;> by_cases h2 : x.a = y.a <;> by_cases h3 : x.g = y.g <;> by_cases h4 : x.t.toList = y.t.toList <;> simp [h0, h1, h2, h3, h4]
theorem eql_en (x y : En) (w : World) : (binOp .eql 35 x.val y.val).run Tryd.prog w = .ok (.bool (x.same y)) w := by
  have h := eql_enIn x y w
  unfold En.val at h ⊢
  rw [run_eql_struct, h]
  rfl
theorem En.same_self (x : En) : x.same x = true := by simp [En.same]
theorem eql_cells (x0 x1 x2 : Int) (x3 : Bool) (x4 : ByteArray) (w : World) : (binOp .eql 35 (.agg #[.int .i64 x0, .int .i64 x1, .int .i64 x2, .bool x3, .string x4]) (.agg #[.int .i64 x0, .int .i64 x1, .int .i64 x2, .bool x3, .string x4])).run Tryd.prog w = .ok (.bool true) w := by
  have h := eql_en ⟨x0, x1, x2, x3, x4⟩ ⟨x0, x1, x2, x3, x4⟩ w
  rw [En.same_self] at h
  exact h
theorem eqlIn_cells (x0 x1 x2 : Int) (x3 : Bool) (x4 : ByteArray) (w : World) : (Op.equalIn 10000 35 (.agg #[.int .i64 x0, .int .i64 x1, .int .i64 x2, .bool x3, .string x4]) (.agg #[.int .i64 x0, .int .i64 x1, .int .i64 x2, .bool x3, .string x4])).run Tryd.prog w = .ok true w := by
  have h := eql_enIn ⟨x0, x1, x2, x3, x4⟩ ⟨x0, x1, x2, x3, x4⟩ w
  rw [En.same_self] at h
  exact h
theorem eqGuard_en : Tryd.prog.eqGuardType Tryd.prog.depth 35 = false := by kernel_rfl
end Go.Proofs.YthpcogpbgjkiaahDoor
