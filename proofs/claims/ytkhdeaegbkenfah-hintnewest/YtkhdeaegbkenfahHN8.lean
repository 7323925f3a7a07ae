/-
  Six times eight numbers in memory: the newest of each node and key.
-/
import Derived.Test.YtkhdeaegbkenfahHiF
import Derived.Test.YtkhdeaegbkenfahHnQ
namespace Go.Proofs.Ytkhdeaegbkenfah
set_option linter.unusedVariables false
set_option linter.unusedSimpArgs false
open Go.RowKit

/-- six times eight numbers at a block -/
structure B48 (w : World) (b : Nat) (o : Nat → Int) : Prop where
  cell : ∀ k, k < 48 → w.cell? ⟨b, k, none⟩ = some (.int .i64 (o k))
  fz : ∀ j, w.frozen? ⟨b, j, none⟩ = false
theorem B48.of_block {w w' : World} {b : Nat} {o : Nat → Int} (h : B48 w b o) (hb : w'.heap[b]? = w.heap[b]?) : B48 w' b o :=
  ⟨fun k hk => (World.cell?_of_block (a := ⟨b, k, none⟩) hb).trans (h.cell k hk), fun j => (World.frozen?_of_block (a := ⟨b, j, none⟩) hb).trans (h.fz j)⟩
theorem B48.lt {w : World} {b : Nat} {o : Nat → Int} (h : B48 w b o) : b < w.heap.size := World.block_lt_of_cell? w _ (h.cell 0 (by omega))
theorem B48.grown {w w' : World} {b : Nat} {o : Nat → Int} (h : B48 w b o) (hb : Below w.heap.size w w') : B48 w' b o := h.of_block (hb.block b h.lt)
theorem B48.set {w : World} {b : Nat} {o : Nat → Int} (h : B48 w b o) (k : Nat) (hk : k < 48) (z : Int) : B48 (w.setCell ⟨b, k, none⟩ (.int .i64 z)) b (updH o k z) := by
  refine ⟨fun j hj => ?_, fun j => by rw [World.frozen?_setCell]; exact h.fz j⟩
  by_cases e : j = k
  · subst e
    rw [updH, if_pos rfl]
    exact World.cell?_setCell_same _ _ _ (h.cell j hj)
  · rw [updH, if_neg e, World.cell?_setCell_other _ _ _ _ (by simp [e])]
    exact h.cell j hj
/-- none at first -/
def box48 (w : World) : World := w.alloc (.cells #[.int .i64 0, .int .i64 0, .int .i64 0, .int .i64 0, .int .i64 0, .int .i64 0, .int .i64 0, .int .i64 0, .int .i64 0, .int .i64 0, .int .i64 0, .int .i64 0, .int .i64 0, .int .i64 0, .int .i64 0, .int .i64 0, .int .i64 0, .int .i64 0, .int .i64 0, .int .i64 0, .int .i64 0, .int .i64 0, .int .i64 0, .int .i64 0, .int .i64 0, .int .i64 0, .int .i64 0, .int .i64 0, .int .i64 0, .int .i64 0, .int .i64 0, .int .i64 0, .int .i64 0, .int .i64 0, .int .i64 0, .int .i64 0, .int .i64 0, .int .i64 0, .int .i64 0, .int .i64 0, .int .i64 0, .int .i64 0, .int .i64 0, .int .i64 0, .int .i64 0, .int .i64 0, .int .i64 0, .int .i64 0] 42)
theorem box48_new (w : World) (b : Nat) (h : b = w.heap.size) : B48 (box48 w) b (fun _ => 0) := by
  subst h
  refine ⟨fun k hk => ?_, fun j => by simp [box48]⟩
  rw [box48, World.cell?_alloc_at _ _ _ _ rfl]
  have e : (#[.int .i64 0, .int .i64 0, .int .i64 0, .int .i64 0, .int .i64 0, .int .i64 0, .int .i64 0, .int .i64 0, .int .i64 0, .int .i64 0, .int .i64 0, .int .i64 0, .int .i64 0, .int .i64 0, .int .i64 0, .int .i64 0, .int .i64 0, .int .i64 0, .int .i64 0, .int .i64 0, .int .i64 0, .int .i64 0, .int .i64 0, .int .i64 0, .int .i64 0, .int .i64 0, .int .i64 0, .int .i64 0, .int .i64 0, .int .i64 0, .int .i64 0, .int .i64 0, .int .i64 0, .int .i64 0, .int .i64 0, .int .i64 0, .int .i64 0, .int .i64 0, .int .i64 0, .int .i64 0, .int .i64 0, .int .i64 0, .int .i64 0, .int .i64 0, .int .i64 0, .int .i64 0, .int .i64 0, .int .i64 0] : Array Value) = Array.replicate 48 (.int .i64 0) := rfl
  rw [e, Array.getElem?_replicate, if_pos hk]
theorem box48_below (w : World) : Below w.heap.size w (box48 w) := (Below.refl _ _).alloc (Nat.le_refl _) _
theorem box48_size (w : World) : (box48 w).heap.size = w.heap.size + 1 := by simp [box48]
end Go.Proofs.Ytkhdeaegbkenfah
