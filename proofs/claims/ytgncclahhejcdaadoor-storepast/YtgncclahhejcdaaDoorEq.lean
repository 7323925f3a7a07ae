/-
  '==' on two api.Entry values: field by field.
-/
import Derived.Test.YtgncclahhejcdaaDoorStF
import Derived.Laws.StructEq
namespace Go.Proofs.YtgncclahhejcdaaDoor
set_option linter.unusedVariables false
set_option linter.unusedSimpArgs false
open Go.RowKit

/-- are two entries the same? -/
def Ent.same (x y : Ent) : Bool := (x.key == y.key) && ((x.ver == y.ver) && ((x.asof == y.asof) && ((x.gone == y.gone) && (x.text.toList == y.text.toList))))
theorem eql_entIn (x y : Ent) (w : World) : (Op.equalIn 10000 25 x.val y.val).run Tryd.prog w = .ok (x.same y) w := by
  unfold Ent.val
  rw [run_equalIn_agg w 9999 25 _ _ (by kernel_rfl) (by kernel_rfl)]
  simp [Op.eqFields, Program.fieldsOf, Tryd.underlying25, go_sem, Tryd.underlying3, Tryd.underlying4, Tryd.underlying9, Ent.same]
  by_cases h0 : x.key = y.key <;> by_cases h1 : x.ver = y.ver <;> by_cases h2 : x.asof = y.asof <;> by_cases h3 : x.gone = y.gone <;> by_cases h4 : x.text.toList = y.text.toList <;> simp [h0, h1, h2, h3, h4]
theorem eql_ent (x y : Ent) (w : World) : (binOp .eql 25 x.val y.val).run Tryd.prog w = .ok (.bool (x.same y)) w := by
  have h := eql_entIn x y w
  unfold Ent.val at h ⊢
  rw [run_eql_struct, h]
  rfl
theorem Ent.same_self (x : Ent) : x.same x = true := by simp [Ent.same]
/-- the same cells -/
theorem eql_self (x0 x1 x2 : Int) (x3 : Bool) (x4 : ByteArray) (w : World) : (binOp .eql 25 (.agg #[.int .i64 x0, .int .i64 x1, .int .i64 x2, .bool x3, .string x4]) (.agg #[.int .i64 x0, .int .i64 x1, .int .i64 x2, .bool x3, .string x4])).run Tryd.prog w = .ok (.bool true) w := by
  have h := eql_ent ⟨x0, x1, x2, x3, x4⟩ ⟨x0, x1, x2, x3, x4⟩ w
  rw [Ent.same_self] at h
  exact h
theorem eqlIn_self (x0 x1 x2 : Int) (x3 : Bool) (x4 : ByteArray) (w : World) : (Op.equalIn 10000 25 (.agg #[.int .i64 x0, .int .i64 x1, .int .i64 x2, .bool x3, .string x4]) (.agg #[.int .i64 x0, .int .i64 x1, .int .i64 x2, .bool x3, .string x4])).run Tryd.prog w = .ok true w := by
  have h := eql_entIn ⟨x0, x1, x2, x3, x4⟩ ⟨x0, x1, x2, x3, x4⟩ w
  rw [Ent.same_self] at h
  exact h
theorem eqGuard_ent : Tryd.prog.eqGuardType Tryd.prog.depth 25 = false := by kernel_rfl
end Go.Proofs.YtgncclahhejcdaaDoor
