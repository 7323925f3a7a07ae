/-
  Package floor by its contracts, whatever comes in.
-/
import Derived.Test.YtbincnajklmnaaaFlD
namespace Go.Proofs.Ytbincnajklmnaaa
set_option linter.unusedVariables false
set_option linter.unusedSimpArgs false
open Go.RowKit

theorem flRaise_c (b : Nat) (k s : Int) (o : Nat → Int) (w : World) (h : EightAt w b o) :
    Calls Try.prog 19 #[.pointer (some ⟨b, 0, none⟩), .int .i64 k, .int .i64 s] w fun e w' => e = .returned (.tuple #[.bool (flRose o k s), eV (flErr (flK k && flS s))]) ∧ EightAt w' b (flRaise o k s) ∧ Only b w w' := by
  cases hb : (flK k && flS s)
  · refine (flRaise_bad b hb w).mono ?_
    rintro e w' ⟨rfl, hw⟩
    refine ⟨?_, ?_, Only.of_below hw⟩
    · simp [flRose, hb, flErr, eV]
    · rw [flRaise, hb]
      exact h.grown hw
  · have hks : flK k = true ∧ flS s = true := by simpa using hb
    obtain ⟨n, rfl, hn⟩ := flK_nat hks.1
    refine (flRaise_ok b n hn hks.2 o w h).mono ?_
    rintro e w' ⟨rfl, he, ho⟩
    refine ⟨?_, ?_, ho⟩
    · simp [flRose, hb, flErr, eV]
    · rw [flRaise, hb]
      exact he
theorem flAll_c (b : Nat) (s : Int) (o : Nat → Int) (w : World) (h : EightAt w b o) :
    Calls Try.prog 22 #[.pointer (some ⟨b, 0, none⟩), .int .i64 s] w fun e w' => e = .returned (eV (flErr (flS s))) ∧ EightAt w' b (flAll o s) ∧ Only b w w' := by
  cases hb : flS s
  · refine (flAll_bad b hb w).mono ?_
    rintro e w' ⟨rfl, hw⟩
    refine ⟨?_, ?_, Only.of_below hw⟩
    · simp [flErr, eV]
    · rw [flAll, hb]
      exact h.grown hw
  · refine (flAll_ok b hb o w h).mono ?_
    rintro e w' ⟨rfl, he, ho⟩
    refine ⟨?_, ?_, ho⟩
    · simp [flErr, eV]
    · rw [flAll, hb]
      exact he
theorem flOf_c (b : Nat) (k : Int) (o : Nat → Int) (w : World) (h : EightAt w b o) :
    Calls Try.prog 20 #[.pointer (some ⟨b, 0, none⟩), .int .i64 k] w fun e w' => e = .returned (.tuple #[.int .i64 (flOf o k), eV (flErr (flK k))]) ∧ Below w.heap.size w w' := by
  cases hb : flK k
  · refine (flOf_bad b hb w).mono ?_
    rintro e w' ⟨rfl, hw⟩
    exact ⟨by simp [flOf, hb, flErr, eV], hw⟩
  · obtain ⟨n, rfl, hn⟩ := flK_nat hb
    refine (flOf_ok b n hn o w h).mono ?_
    rintro e w' ⟨rfl, hw⟩
    exact ⟨by simp [flOf, hb, flErr, eV], hw⟩
theorem hi_le (x s : Int) : x ≤ hi x s := by
  unfold hi
  split <;> omega
theorem flRaise_le (o : Nat → Int) (k s : Int) (j : Nat) : o j ≤ flRaise o k s j := by
  unfold flRaise
  split
  · unfold upd
    split
    · rename_i h; subst h; exact hi_le _ _
    · exact Int.le_refl _
  · exact Int.le_refl _
theorem flAll_le (o : Nat → Int) (s : Int) (j : Nat) : o j ≤ flAll o s j := by
  unfold flAll
  split
  · exact hi_le _ _
  · exact Int.le_refl _
/-- the first j of eight are others -/
def mix (p o : Nat → Int) (j : Nat) : Nat → Int := fun k => if k < j then p k else o k
theorem mix_zero (p o : Nat → Int) : mix p o 0 = o := by
  funext k
  simp [mix]
theorem mix_at (p o : Nat → Int) (j : Nat) : mix p o j j = o j := by simp [mix]
theorem mix_step (p o : Nat → Int) (j : Nat) : upd (mix p o j) j (p j) = mix p o (j + 1) := by
  funext k
  unfold upd mix
  by_cases h : k = j
  · subst h; simp
  · by_cases h1 : k < j
    · have h2 : k < j + 1 := by omega
      simp [h, h1, h2]
    · have h2 : ¬ k < j + 1 := by omega
      simp [h, h1, h2]
theorem mix_all {w : World} {b : Nat} {p o : Nat → Int} {j : Nat} (h : EightAt w b (mix p o j)) (hj : 8 ≤ j) : EightAt w b p :=
  h.to (fun k hk => by have : k < j := by omega
                       simp [mix, this])
end Go.Proofs.Ytbincnajklmnaaa
