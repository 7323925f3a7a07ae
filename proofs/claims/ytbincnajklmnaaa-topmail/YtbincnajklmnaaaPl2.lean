/-
  What a law is told of a []string that came in.
-/
import Derived.Test.YtbincnajklmnaaaPl1
namespace Go.Proofs.Ytbincnajklmnaaa
set_option linter.unusedVariables false
set_option linter.unusedSimpArgs false
open Go.RowKit

/-- a slice of strings -/
def IsTexts (w : World) (v : Value) (n : Nat) : Prop :=
  ∃ a cap, v = .slice a n cap ∧ n ≤ maxLen ∧ ∀ i, i < n → ∃ b o s, a = some ⟨b, o, none⟩ ∧ w.cell? ⟨b, o + i, none⟩ = some (.string s) ∧ s.size ≤ maxLen

theorem IsTexts.below {w w' : World} {v : Value} {n : Nat} (h : IsTexts w v n) (hb : Below w.heap.size w w') : IsTexts w' v n := by
  obtain ⟨a, cap, rfl, hm, hj⟩ := h
  exact ⟨a, cap, rfl, hm, fun j hlt => by obtain ⟨b, o, s, e, hc, hs⟩ := hj j hlt; exact ⟨b, o, s, e, old_cell hb hc, hs⟩⟩
end Go.Proofs.Ytbincnajklmnaaa
