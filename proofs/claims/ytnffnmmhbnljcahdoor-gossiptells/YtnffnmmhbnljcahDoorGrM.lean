/-
  Six times six Booleans in memory: who knows whose.
-/
import Derived.Test.YtnffnmmhbnljcahDoorGsY
import Derived.Laws.Rows
import Derived.Laws.Tables
import Derived.Laws.CopyOwn
namespace Go.Proofs.YtnffnmmhbnljcahDoor
set_option linter.unusedVariables false
set_option linter.unusedSimpArgs false
open Go.RowKit

/-- six times six Booleans at a block -/
structure GridAt (w : World) (b : Nat) (o : Nat → Bool) : Prop where
  cell : ∀ k, k < 36 → w.cell? ⟨b, k, none⟩ = some (.bool (o k))
  fz : ∀ j, w.frozen? ⟨b, j, none⟩ = false
  obj : ∃ cs, w.heap[b]? = some (.cells cs 29 (0, 0)) ∧ cs.size = 36
theorem GridAt.of_block {w w' : World} {b : Nat} {o : Nat → Bool} (h : GridAt w b o) (hb : w'.heap[b]? = w.heap[b]?) : GridAt w' b o :=
  ⟨fun k hk => (World.cell?_of_block (a := ⟨b, k, none⟩) hb).trans (h.cell k hk), fun j => (World.frozen?_of_block (a := ⟨b, j, none⟩) hb).trans (h.fz j), by rw [hb]; exact h.obj⟩
theorem GridAt.lt {w : World} {b : Nat} {o : Nat → Bool} (h : GridAt w b o) : b < w.heap.size := World.block_lt_of_cell? w _ (h.cell 0 (by omega))
theorem GridAt.grown {w w' : World} {b : Nat} {o : Nat → Bool} (h : GridAt w b o) (hb : Below w.heap.size w w') : GridAt w' b o := h.of_block (hb.block b h.lt)
theorem GridAt.other {w : World} {b : Nat} {o : Nat → Bool} (h : GridAt w b o) (a : Addr) (hc : b ≠ a.block) (u : Value) : GridAt (w.setCell a u) b o := h.of_block (Below.heap_setCell _ _ _ b hc)
theorem GridAt.set {w : World} {b : Nat} {o : Nat → Bool} (h : GridAt w b o) (k : Nat) (hk : k < 36) (z : Bool) : GridAt (w.setCell ⟨b, k, none⟩ (.bool z)) b (fun j => if j = k then z else o j) := by
  refine ⟨fun j hj => ?_, fun j => by rw [World.frozen?_setCell]; exact h.fz j, ?_⟩
  rotate_left
  · obtain ⟨cs, h1, h2⟩ := h.obj
    refine ⟨cs.setIfInBounds k (.bool z), ?_, by simpa using h2⟩
    show (w.heap.modify b _)[b]? = _
    rw [Array.getElem?_modify, if_pos rfl, h1]
    rfl
  by_cases e : j = k
  · subst e
    rw [if_pos rfl]
    exact World.cell?_setCell_same _ _ _ (h.cell j hj)
  · rw [if_neg e, World.cell?_setCell_other _ _ _ _ (by simp [e])]
    exact h.cell j hj
theorem GridAt.to {w : World} {b : Nat} {o o' : Nat → Bool} (h : GridAt w b o) (e : ∀ k, k < 36 → o k = o' k) : GridAt w b o' := ⟨fun k hk => by rw [← e k hk]; exact h.cell k hk, h.fz, h.obj⟩
/-- the cells of a grid -/
def rowB (o : Nat → Bool) : Array Value := ((List.range 36).map (fun k => Value.bool (o k))).toArray
theorem rowB_size (o : Nat → Bool) : (rowB o).size = 36 := by simp [rowB]
theorem rowB_one (o : Nat → Bool) : (rowB o).all (·.oneCell') = true := Array.all_eq_true_iff_forall_mem.2 (fun v hv => by
  simp only [rowB, List.mem_toArray, List.mem_map] at hv
  obtain ⟨k, _, rfl⟩ := hv
  rfl)
theorem rowB_at (o : Nat → Bool) (k : Nat) (hk : k < 36) : (rowB o)[k]? = some (.bool (o k)) := by
  simp [rowB, hk]
theorem grid_of_row {w : World} {b : Nat} {o : Nat → Bool} (h : w.heap[b]? = some (.cells (rowB o) 29 (0, 0))) : GridAt w b o :=
  ⟨fun k hk => by rw [cell_of_row _ _ _ _ _ _ h, rowB_at o k hk], fun j => by simp [World.frozen?, h], ⟨_, h, rowB_size o⟩⟩
theorem GridAt.row {w : World} {b : Nat} {o : Nat → Bool} (h : GridAt w b o) : w.heap[b]? = some (.cells (rowB o) 29 (0, 0)) := by
  obtain ⟨cs, h1, h2⟩ := h.obj
  have e : cs = rowB o := by
    refine Array.ext_getElem? (fun k => ?_)
    by_cases hk : k < 36
    · rw [rowB_at o k hk, ← cell_of_row _ _ _ _ _ _ h1]
      exact h.cell k hk
    · rw [Array.getElem?_eq_none (by omega), Array.getElem?_eq_none (by rw [rowB_size]; omega)]
  rw [← e]
  exact h1
theorem setRow_at {w : World} {b : Nat} {cs : Array Value} {t : TypeId} {fr : Nat × Nat} (h : w.heap[b]? = some (.cells cs t fr)) (c : Array Value) : (w.setRow b c).heap[b]? = some (.cells c t fr) := by
  show (w.heap.modify b _)[b]? = _
  rw [Array.getElem?_modify, if_pos rfl, h]
  rfl
def ag36 (o : Nat → Bool) : Value := .agg (rowB o)
def box36 (w : World) (o : Nat → Bool) : World := w.alloc (.cells #[.bool (o 0), .bool (o 1), .bool (o 2), .bool (o 3), .bool (o 4), .bool (o 5), .bool (o 6), .bool (o 7), .bool (o 8), .bool (o 9), .bool (o 10), .bool (o 11), .bool (o 12), .bool (o 13), .bool (o 14), .bool (o 15), .bool (o 16), .bool (o 17), .bool (o 18), .bool (o 19), .bool (o 20), .bool (o 21), .bool (o 22), .bool (o 23), .bool (o 24), .bool (o 25), .bool (o 26), .bool (o 27), .bool (o 28), .bool (o 29), .bool (o 30), .bool (o 31), .bool (o 32), .bool (o 33), .bool (o 34), .bool (o 35)] 29)
theorem box36_grid (w : World) (b : Nat) (h : b = w.heap.size) (o : Nat → Bool) : GridAt (box36 w o) b o := by
  subst h
  refine ⟨fun k hk => ?_, fun j => by simp [box36], ⟨_, alloc_at w _ _ rfl, rfl⟩⟩
  rw [box36, World.cell?_alloc_at _ _ _ _ rfl]
  match k, hk with
  | 0, _ => rfl
  | 1, _ => rfl
  | 2, _ => rfl
  | 3, _ => rfl
  | 4, _ => rfl
  | 5, _ => rfl
  | 6, _ => rfl
  | 7, _ => rfl
  | 8, _ => rfl
  | 9, _ => rfl
  | 10, _ => rfl
  | 11, _ => rfl
  | 12, _ => rfl
  | 13, _ => rfl
  | 14, _ => rfl
  | 15, _ => rfl
  | 16, _ => rfl
  | 17, _ => rfl
  | 18, _ => rfl
  | 19, _ => rfl
  | 20, _ => rfl
  | 21, _ => rfl
  | 22, _ => rfl
  | 23, _ => rfl
  | 24, _ => rfl
  | 25, _ => rfl
  | 26, _ => rfl
  | 27, _ => rfl
  | 28, _ => rfl
  | 29, _ => rfl
  | 30, _ => rfl
  | 31, _ => rfl
  | 32, _ => rfl
  | 33, _ => rfl
  | 34, _ => rfl
  | 35, _ => rfl
  | n + 36, hk => omega
theorem box36_below (w : World) (o : Nat → Bool) : Below w.heap.size w (box36 w o) := (Below.refl _ w).alloc (Nat.le_refl _) _
theorem box36_size (w : World) (o : Nat → Bool) : (box36 w o).heap.size = w.heap.size + 1 := by simp [box36]
/-- who knows whose, of a list of numbers -/
def gridO (s : List Nat) (k : Nat) : Bool := (s.getD (k / 6) 0).testBit (k % 6)
theorem grid_own (n j : Nat) (hj : j ≤ n) (k : Nat) : (decide (k / 6 < n) && decide (k / 6 = k % 6)) = gridO (ownG n) k := by
  unfold gridO ownG
  by_cases h : k / 6 < n
  · rw [List.getD_eq_getElem?_getD, List.getElem?_eq_getElem (by simpa using h)]
    simp [h, Nat.testBit_two_pow]
  · rw [List.getD_eq_getElem?_getD, List.getElem?_eq_none (by simp; omega)]
    simp [h]
/-- a column more -/
theorem grid_col {s : List Nat} {a b t : Nat} (ha : a < s.length) (hb : b < s.length) (hab : a ≠ b) (ht : t < 6) (k : Nat) :
    (if k = b * 6 + t then (gridO s (a * 6 + t) || gridO s (b * 6 + t)) else if k = a * 6 + t then (gridO s (a * 6 + t) || gridO s (b * 6 + t)) else if k % 6 < t then gridO (stepG s (a, b)) k else gridO s k) = if k % 6 < t + 1 then gridO (stepG s (a, b)) k else gridO s k := by
  have ea : (a * 6 + t) / 6 = a ∧ (a * 6 + t) % 6 = t := by omega
  have eb : (b * 6 + t) / 6 = b ∧ (b * 6 + t) % 6 = t := by omega
  unfold gridO
  rw [ea.1, ea.2, eb.1, eb.2]
  by_cases k2 : k = b * 6 + t
  · rw [if_pos k2, k2, eb.1, eb.2, if_pos (by omega), stepG_two (c := (a, b)) hb, Nat.testBit_or]
  · rw [if_neg k2]
    by_cases k1 : k = a * 6 + t
    · rw [if_pos k1, k1, ea.1, ea.2, if_pos (by omega), stepG_one (c := (a, b)) ha hab, Nat.testBit_or]
    · rw [if_neg k1]
      by_cases hlt : k % 6 < t
      · rw [if_pos hlt, if_pos (by omega)]
      · rw [if_neg hlt]
        by_cases he : k % 6 = t
        · rw [if_pos (by omega), stepG_other (c := (a, b)) (by show k / 6 ≠ a; omega) (by show k / 6 ≠ b; omega)]
        · rw [if_neg (by omega)]
end Go.Proofs.YtnffnmmhbnljcahDoor
