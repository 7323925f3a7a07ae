/-
  Who knows what, on lists: with fewer calls than the plan has, never all know all.
-/
import Derived.Test.YtnffnmmhbnljcahGoD
namespace Go.Proofs.Ytnffnmmhbnljcah
set_option linter.unusedVariables false
set_option linter.unusedSimpArgs false
open Go.RowKit

def allPre (ps : List (Nat × Nat)) (P : List Nat → Bool) : Nat → List Nat → Bool
  | 0, s => P s
  | k + 1, s => ps.all (fun c => allPre ps P k (stepG s c))
theorem allPre_all {ps : List (Nat × Nat)} {P : List Nat → Bool} : ∀ {k : Nat} {s : List Nat}, allPre ps P k s = true → ∀ cs : List (Nat × Nat), cs.length = k → (∀ c ∈ cs, c ∈ ps) → P (playG s cs) = true := by
  intro k
  induction k with
  | zero =>
    intro s h cs hl _
    rw [List.length_eq_zero_iff.1 hl]
    exact h
  | succ k ih =>
    intro s h cs hl hc
    cases cs with
    | nil => cases hl
    | cons c cs =>
      rw [allPre, List.all_eq_true] at h
      exact ih (h c (hc c (by simp))) cs (by simpa using hl) (fun x hx => hc x (List.mem_cons_of_mem _ hx))
/-- after four calls of six none knows all, and there is one that knows not all with any other -/
def quiet6 (s : List Nat) : Bool := s.all (fun x => x != 63) && s.any (fun x => s.all (fun y => (x ||| y) != 63))
def pairs6 : List (Nat × Nat) := [(0, 1), (0, 2), (0, 3), (0, 4), (0, 5), (1, 2), (1, 3), (1, 4), (1, 5), (2, 3), (2, 4), (2, 5), (3, 4), (3, 5), (4, 5)]
theorem six_0 : allPre pairs6 quiet6 3 [3, 3, 4, 8, 16, 32] = true := by decide +kernel
theorem six_1 : allPre pairs6 quiet6 3 [5, 2, 5, 8, 16, 32] = true := by decide +kernel
theorem six_2 : allPre pairs6 quiet6 3 [9, 2, 4, 9, 16, 32] = true := by decide +kernel
theorem six_3 : allPre pairs6 quiet6 3 [17, 2, 4, 8, 17, 32] = true := by decide +kernel
theorem six_4 : allPre pairs6 quiet6 3 [33, 2, 4, 8, 16, 33] = true := by decide +kernel
theorem six_5 : allPre pairs6 quiet6 3 [1, 6, 6, 8, 16, 32] = true := by decide +kernel
theorem six_6 : allPre pairs6 quiet6 3 [1, 10, 4, 10, 16, 32] = true := by decide +kernel
theorem six_7 : allPre pairs6 quiet6 3 [1, 18, 4, 8, 18, 32] = true := by decide +kernel
theorem six_8 : allPre pairs6 quiet6 3 [1, 34, 4, 8, 16, 34] = true := by decide +kernel
theorem six_9 : allPre pairs6 quiet6 3 [1, 2, 12, 12, 16, 32] = true := by decide +kernel
theorem six_10 : allPre pairs6 quiet6 3 [1, 2, 20, 8, 20, 32] = true := by decide +kernel
theorem six_11 : allPre pairs6 quiet6 3 [1, 2, 36, 8, 16, 36] = true := by decide +kernel
theorem six_12 : allPre pairs6 quiet6 3 [1, 2, 4, 24, 24, 32] = true := by decide +kernel
theorem six_13 : allPre pairs6 quiet6 3 [1, 2, 4, 40, 16, 40] = true := by decide +kernel
theorem six_14 : allPre pairs6 quiet6 3 [1, 2, 4, 8, 48, 48] = true := by decide +kernel
theorem six_four : allPre pairs6 quiet6 4 (ownG 6) = true := by
  rw [allPre, List.all_eq_true]
  intro c hc
  simp only [pairs6, List.mem_cons, List.not_mem_nil, or_false] at hc
  rcases hc with rfl | rfl | rfl | rfl | rfl | rfl | rfl | rfl | rfl | rfl | rfl | rfl | rfl | rfl | rfl
  · rw [show stepG (ownG 6) (0, 1) = [3, 3, 4, 8, 16, 32] by decide +kernel]
    exact six_0
  · rw [show stepG (ownG 6) (0, 2) = [5, 2, 5, 8, 16, 32] by decide +kernel]
    exact six_1
  · rw [show stepG (ownG 6) (0, 3) = [9, 2, 4, 9, 16, 32] by decide +kernel]
    exact six_2
  · rw [show stepG (ownG 6) (0, 4) = [17, 2, 4, 8, 17, 32] by decide +kernel]
    exact six_3
  · rw [show stepG (ownG 6) (0, 5) = [33, 2, 4, 8, 16, 33] by decide +kernel]
    exact six_4
  · rw [show stepG (ownG 6) (1, 2) = [1, 6, 6, 8, 16, 32] by decide +kernel]
    exact six_5
  · rw [show stepG (ownG 6) (1, 3) = [1, 10, 4, 10, 16, 32] by decide +kernel]
    exact six_6
  · rw [show stepG (ownG 6) (1, 4) = [1, 18, 4, 8, 18, 32] by decide +kernel]
    exact six_7
  · rw [show stepG (ownG 6) (1, 5) = [1, 34, 4, 8, 16, 34] by decide +kernel]
    exact six_8
  · rw [show stepG (ownG 6) (2, 3) = [1, 2, 12, 12, 16, 32] by decide +kernel]
    exact six_9
  · rw [show stepG (ownG 6) (2, 4) = [1, 2, 20, 8, 20, 32] by decide +kernel]
    exact six_10
  · rw [show stepG (ownG 6) (2, 5) = [1, 2, 36, 8, 16, 36] by decide +kernel]
    exact six_11
  · rw [show stepG (ownG 6) (3, 4) = [1, 2, 4, 24, 24, 32] by decide +kernel]
    exact six_12
  · rw [show stepG (ownG 6) (3, 5) = [1, 2, 4, 40, 16, 40] by decide +kernel]
    exact six_13
  · rw [show stepG (ownG 6) (4, 5) = [1, 2, 4, 8, 48, 48] by decide +kernel]
    exact six_14
def pairs5 : List (Nat × Nat) := [(0, 1), (0, 2), (0, 3), (0, 4), (1, 2), (1, 3), (1, 4), (2, 3), (2, 4), (3, 4)]
def pairs4 : List (Nat × Nat) := [(0, 1), (0, 2), (0, 3), (1, 2), (1, 3), (2, 3)]
def pairs3 : List (Nat × Nat) := [(0, 1), (0, 2), (1, 2)]
theorem five_three : allPre pairs5 (fun s => s.all (fun x => x != 31)) 3 (ownG 5) = true := by decide +kernel
theorem four_two : allPre pairs4 (fun s => s.all (fun x => x != 15)) 2 (ownG 4) = true := by decide +kernel
theorem three_one : allPre pairs3 (fun s => s.all (fun x => x != 7)) 1 (ownG 3) = true := by decide +kernel
end Go.Proofs.Ytnffnmmhbnljcah
