/-
  What a law is told of a [][]int that came in.
-/
import Derived.Test.YtbincnajklmnaaaEn2
namespace Go.Proofs.Ytbincnajklmnaaa
set_option linter.unusedVariables false
set_option linter.unusedSimpArgs false
open Go.RowKit

/-- a slice of ints -/
def IsInts (w : World) (v : Value) (m : Nat) : Prop :=
  ∃ a cap, v = .slice a m cap ∧ m ≤ maxLen ∧ ∀ j, j < m → ∃ b o z, a = some ⟨b, o, none⟩ ∧ w.cell? ⟨b, o + j, none⟩ = some (.int .i64 z)
/-- a slice of slices of ints -/
def IsSteps (w : World) (v : Value) (n : Nat) : Prop :=
  ∃ a cap, v = .slice a n cap ∧ n ≤ maxLen ∧ ∀ i, i < n → ∃ b o u m, a = some ⟨b, o, none⟩ ∧ w.cell? ⟨b, o + i, none⟩ = some u ∧ IsInts w u m
theorem old_cell {w w' : World} {a : Addr} {v : Value} (hb : Below w.heap.size w w') (h : w.cell? a = some v) : w'.cell? a = some v :=
  (hb.cell (World.block_lt_of_cell? w a h)).trans h
theorem IsInts.below {w w' : World} {v : Value} {m : Nat} (h : IsInts w v m) (hb : Below w.heap.size w w') : IsInts w' v m := by
  obtain ⟨a, cap, rfl, hm, hj⟩ := h
  exact ⟨a, cap, rfl, hm, fun j hlt => by obtain ⟨b, o, z, e, hc⟩ := hj j hlt; exact ⟨b, o, z, e, old_cell hb hc⟩⟩
theorem IsSteps.below {w w' : World} {v : Value} {n : Nat} (h : IsSteps w v n) (hb : Below w.heap.size w w') : IsSteps w' v n := by
  obtain ⟨a, cap, rfl, hm, hj⟩ := h
  exact ⟨a, cap, rfl, hm, fun j hlt => by obtain ⟨b, o, u, m, e, hc, hu⟩ := hj j hlt; exact ⟨b, o, u, m, e, old_cell hb hc, hu.below hb⟩⟩
end Go.Proofs.Ytbincnajklmnaaa
