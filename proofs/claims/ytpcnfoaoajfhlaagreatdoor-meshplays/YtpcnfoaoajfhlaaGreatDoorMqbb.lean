/-
  Package tree by its contracts: Node.
-/
import Derived.Test.YtpcnfoaoajfhlaaGreatDoorMqba
namespace Go.Proofs.YtpcnfoaoajfhlaaGreatDoor
set_option linter.unusedVariables false
set_option linter.unusedSimpArgs false
set_option linter.unusedVariables false
set_option linter.unusedSimpArgs false
open Go.RowKit

/-- sixteen numbers in a new block -/
def box16 (w : World) (o : Nat → Nat) : World := w.alloc (.cells #[.int .i64 (o 0 : Nat), .int .i64 (o 1 : Nat), .int .i64 (o 2 : Nat), .int .i64 (o 3 : Nat), .int .i64 (o 4 : Nat), .int .i64 (o 5 : Nat), .int .i64 (o 6 : Nat), .int .i64 (o 7 : Nat), .int .i64 (o 8 : Nat), .int .i64 (o 9 : Nat), .int .i64 (o 10 : Nat), .int .i64 (o 11 : Nat), .int .i64 (o 12 : Nat), .int .i64 (o 13 : Nat), .int .i64 (o 14 : Nat), .int .i64 (o 15 : Nat)] 256)
theorem box16_six (w : World) (o : Nat → Nat) : SixAt (box16 w o) w.heap.size o := six_new w _ _ rfl o
theorem box16_below (w : World) (o : Nat → Nat) : Below w.heap.size w (box16 w o) := (Below.refl _ w).alloc (Nat.le_refl _) _
theorem box16_size (w : World) (o : Nat → Nat) : (box16 w o).heap.size = w.heap.size + 1 := by simp [box16]

/-- is there such a node? -/
def isNode (i : Int) : Bool := decide (1 ≤ i) && decide (i ≤ 15)
end Go.Proofs.YtpcnfoaoajfhlaaGreatDoor
