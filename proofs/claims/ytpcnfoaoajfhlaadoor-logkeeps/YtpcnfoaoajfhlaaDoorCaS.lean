/-
  meresame.Cache by its contract: whether two rows are the same.
-/
import Derived.Test.YtpcnfoaoajfhlaaDoorJoinN
import Derived.BigQuiet
namespace Go.Proofs.YtpcnfoaoajfhlaaDoor
set_option linter.unusedVariables false
set_option linter.unusedSimpArgs false
open Go.RowKit

def sameL : List En → List En → Bool
  | [], [] => true
  | x :: a, y :: b => x.same y && sameL a b
  | _, _ => false
theorem En.same_iff {x y : En} : x.same y = true ↔ x = y := by
  constructor
  · intro h
    simp [En.same] at h
    exact En.eqs h.1 h.2.1 h.2.2.1 h.2.2.2.1 (bytes_inj h.2.2.2.2)
  · rintro rfl
    exact En.same_self x
theorem sameL_iff {a b : List En} : sameL a b = true ↔ a = b := by
  induction a generalizing b with
  | nil => cases b <;> simp [sameL]
  | cons x a ih => cases b <;> simp [sameL, ih, En.same_iff]
theorem sameL_len {a b : List En} (h : a.length ≠ b.length) : sameL a b = false := by
  cases hs : sameL a b
  · rfl
  · exact absurd (by rw [sameL_iff.1 hs]) h
theorem sameL_step {a b : List En} {j : Nat} (ha : j < a.length) (hb : j < b.length) : sameL (a.drop j) (b.drop j) = (a[j].same b[j] && sameL (a.drop (j + 1)) (b.drop (j + 1))) := by
  rw [List.drop_eq_getElem_cons ha, List.drop_eq_getElem_cons hb, sameL]

theorem neq_cellsS (x0 x1 x2 : Int) (x3 : Bool) (x4 : ByteArray) (y0 y1 y2 : Int) (y3 : Bool) (y4 : ByteArray) (b : Bool) (h : En.same ⟨x0, x1, x2, x3, x4⟩ ⟨y0, y1, y2, y3, y4⟩ = b) (w : World) : (binOp .neq 38 (.agg #[.int .i64 x0, .int .i64 x1, .int .i64 x2, .bool x3, .string x4]) (.agg #[.int .i64 y0, .int .i64 y1, .int .i64 y2, .bool y3, .string y4])).run Tryd.prog w = .ok (.bool !b) w := by
  have h1 := eql_enIn ⟨x0, x1, x2, x3, x4⟩ ⟨y0, y1, y2, y3, y4⟩ w
  rw [h] at h1
  unfold En.val at h1
  rw [run_neq_struct, h1]
  rfl
theorem below_drewS (B : Nat) (w : World) (n : Nat) : Below B w (w.drewN n) := ⟨rfl, rfl, rfl, Nat.le_refl _, fun _ _ => rfl⟩

end Go.Proofs.YtpcnfoaoajfhlaaDoor
