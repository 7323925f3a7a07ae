/-
  Hints on lists: so many that are all unlike; the last ten are there.
-/
import Derived.Test.YtkhdeaegbkenfahHnP
namespace Go.Proofs.Ytkhdeaegbkenfah
set_option linter.unusedVariables false
set_option linter.unusedSimpArgs false
open Go.RowKit

/-- the j-th of them -/
def tenF (node : Nat) (j : Nat) : Hn := ⟨((node + j / 8 : Nat) : Int), ((j % 8 : Nat) : Int), 1⟩
theorem tenF_ok {node j : Nat} (hn : node ≤ 4) (hj : j < 16) : (tenF node j).ok = true := by
  rw [Hn.ok_iff]
  unfold tenF
  dsimp only
  omega
theorem tenF_unlike {node i j : Nat} (h : i ≠ j) : hSame (tenF node i) (tenF node j) = false := by
  cases hs : hSame (tenF node i) (tenF node j)
  · rfl
  · have := (hSame_iff _ _).1 hs
    unfold tenF at this
    dsimp only at this
    omega
/-- those from a on, so many -/
def tenL (node a m : Nat) : List Hn := (List.range' a m).map (tenF node)
theorem tenL_length (node a m : Nat) : (tenL node a m).length = m := by rw [tenL, List.length_map, List.length_range']
theorem tenL_none {node a m i : Nat} (h : a + m ≤ i) : ∀ y ∈ tenL node a m, hSame (tenF node i) y = false := by
  intro y hy
  rw [tenL, List.mem_map] at hy
  obtain ⟨j, hj, rfl⟩ := hy
  have := List.mem_range'_1.1 hj
  exact tenF_unlike (by omega)
/-- what is there behind i of them -/
def tenS (node i : Nat) : List Hn := tenL node (i - 10) (i - (i - 10))
theorem tenS_length (node i : Nat) : (tenS node i).length = i - (i - 10) := tenL_length _ _ _
theorem tenL_more (node a m : Nat) : tenL node a m ++ [tenF node (a + m)] = tenL node a (m + 1) := by
  rw [tenL, tenL, List.range'_concat]
  simp
theorem tenL_tail (node a m : Nat) : (tenL node a (m + 1)).tail = tenL node (a + 1) m := by
  rw [tenL, tenL, List.range'_succ]
  rfl
theorem tenS_add {node i : Nat} (hn : node ≤ 4) (hi : i < 16) : addH (tenF node i) (tenS node i) = tenS node (i + 1) ∧ addN (tenF node i) (tenS node i) = (i + 1 - 10) - (i - 10) := by
  have hnone : ∀ y ∈ tenS node i, hSame (tenF node i) y = false := tenL_none (by omega)
  have e1 := newer_none hnone
  have e2 := off_none hnone
  have e3 : tenS node i ++ [tenF node i] = tenL node (i - 10) (i - (i - 10) + 1) := by
    rw [tenS, ← tenL_more]
    congr 3
    omega
  have e4 : (tenS node i ++ [tenF node i]).length = i - (i - 10) + 1 := by rw [e3, tenL_length]
  constructor
  · rw [addH, if_pos (tenF_ok hn hi), putH, e1, if_neg (by simp), e2, e4]
    split
    · rw [e3, tenL_tail, tenS]
      have a1 : i - 10 + 1 = i + 1 - 10 := by omega
      have a2 : i - (i - 10) = i + 1 - (i + 1 - 10) := by omega
      rw [a1, a2]
    · rw [e3, tenS]
      have a1 : i - 10 = i + 1 - 10 := by omega
      have a2 : i - (i - 10) + 1 = i + 1 - (i + 1 - 10) := by omega
      rw [a2, a1]
  · have e5 : lostH (tenF node i) (tenS node i) = decide (10 < i - (i - 10) + 1) := by rw [lostH, e1, if_neg (by simp), e2, e4]
    rw [addN, e5]
    by_cases h : 10 < i - (i - 10) + 1
    · rw [if_pos ⟨tenF_ok hn hi, decide_eq_true h⟩]
      omega
    · rw [if_neg (fun hh => h (of_decide_eq_true hh.2))]
      omega
theorem tenS_last {node i : Nat} (h : 0 < i) : ∃ hl : (tenS node i).length - 1 < (tenS node i).length, (tenS node i)[(tenS node i).length - 1].k = (((i - 1) % 8 : Nat) : Int) := by
  have hl : (tenS node i).length - 1 < (tenS node i).length := by rw [tenS_length]; omega
  refine ⟨hl, ?_⟩
  have e : ∀ j (hj : j < (tenS node i).length), (tenS node i)[j] = tenF node (i - 10 + j) := fun j hj => by
    have e1 : (tenS node i)[j]? = some (tenF node (i - 10 + j)) := by
      rw [tenS_length] at hj
      rw [tenS, tenL, List.getElem?_map, List.getElem?_range' hj]
      simp
    rw [List.getElem?_eq_getElem hj] at e1
    exact Option.some.inj e1
  rw [e _ hl, tenS_length, tenF]
  have : i - 10 + (i - (i - 10) - 1) = i - 1 := by omega
  rw [this]
end Go.Proofs.Ytkhdeaegbkenfah
