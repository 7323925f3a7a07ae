/-
  Two trees whose ends were made alike where they parted are alike, whatever numbers are alike.
-/
import Derived.Test.YtippdgmgmenboagDoorTrP
namespace Go.Proofs.YtippdgmgmenboagDoor
set_option linter.unusedVariables false
set_option linter.unusedSimpArgs false
open Go.RowKit

/-- off the keys told each tree has what it had, on them both have the same: then their nodes are the same -/
theorem nd_swapped (P : Nat → Nat → Nat) (f g f' g' : Nat → Nat) : ∀ d i, 8 ≤ i * 2 ^ d → (∀ k, under d i k → (k ∈ ptK P f g d i → f' k = g' k) ∧ (k ∉ ptK P f g d i → f' k = f k ∧ g' k = g k)) → nd P f' d i = nd P g' d i := by
  intro d
  induction d with
  | zero =>
    intro i h8 h
    have hu : under 0 i (i - 8) := by
      constructor <;> simp only [Nat.pow_zero, Nat.mul_one] at h8 ⊢ <;> omega
    obtain ⟨h1, h2⟩ := h (i - 8) hu
    show f' (i - 8) = g' (i - 8)
    by_cases e : f (i - 8) = g (i - 8)
    · obtain ⟨e1, e2⟩ := h2 (by rw [ptK, if_pos e]; simp)
      rw [e1, e2, e]
    · exact h1 (by rw [ptK, if_neg e]; simp)
  | succ d ih =>
    intro i h8 h
    have e : 2 ^ (d + 1) = 2 * 2 ^ d := by rw [Nat.pow_succ, Nat.mul_comm]
    have hl : 8 ≤ 2 * i * 2 ^ d := by rw [Nat.mul_comm 2 i, Nat.mul_assoc, ← e]; exact h8
    have hr : 8 ≤ (2 * i + 1) * 2 ^ d := Nat.le_trans hl (Nat.mul_le_mul_right _ (by omega))
    by_cases hn : nd P f (d + 1) i = nd P g (d + 1) i
    · have h0 : ptK P f g (d + 1) i = [] := ptK_alike hn
      have hf : nd P f' (d + 1) i = nd P f (d + 1) i := nd_ext P f' f (d + 1) i h8 (fun k hk => ((h k hk).2 (by rw [h0]; simp)).1)
      have hg : nd P g' (d + 1) i = nd P g (d + 1) i := nd_ext P g' g (d + 1) i h8 (fun k hk => ((h k hk).2 (by rw [h0]; simp)).2)
      rw [hf, hg, hn]
    · have hK : ptK P f g (d + 1) i = ptK P f g d (2 * i) ++ ptK P f g d (2 * i + 1) := by rw [ptK, if_neg hn]
      have e1 : nd P f' d (2 * i) = nd P g' d (2 * i) := ih (2 * i) hl (fun k hk => by
        obtain ⟨h1, h2⟩ := h k (under_left hk)
        rw [hK] at h1 h2
        refine ⟨fun hm => h1 (List.mem_append_left _ hm), fun hm => h2 (fun hm' => ?_)⟩
        rcases List.mem_append.1 hm' with h3 | h3
        · exact hm h3
        · have := (ptK_under P f g d (2 * i + 1) k hr h3).1
          have := under_part hk this
          omega)
      have e2 : nd P f' d (2 * i + 1) = nd P g' d (2 * i + 1) := ih (2 * i + 1) hr (fun k hk => by
        obtain ⟨h1, h2⟩ := h k (under_right hk)
        rw [hK] at h1 h2
        refine ⟨fun hm => h1 (List.mem_append_right _ hm), fun hm => h2 (fun hm' => ?_)⟩
        rcases List.mem_append.1 hm' with h3 | h3
        · have := (ptK_under P f g d (2 * i) k hl h3).1
          have := under_part this hk
          omega
        · exact hm h3)
      rw [nd, nd, e1, e2]
end Go.Proofs.YtippdgmgmenboagDoor
