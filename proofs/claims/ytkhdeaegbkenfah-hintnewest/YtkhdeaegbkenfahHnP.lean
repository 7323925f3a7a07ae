/-
  Hints on lists: one of each node and key, the newest; ten at most, the first of more is lost; those of a node are taken.
-/
import Derived.Test.YtkhdeaegbkenfahEn2
namespace Go.Proofs.Ytkhdeaegbkenfah
set_option linter.unusedVariables false
set_option linter.unusedSimpArgs false
open Go.RowKit

/-- a hint: its node, its key, its version -/
structure Hn where
  n : Int
  k : Int
  v : Int
theorem hn_ext {x y : Hn} (h1 : x.n = y.n) (h2 : x.k = y.k) (h3 : x.v = y.v) : x = y := by
  cases x
  cases y
  cases h1
  cases h2
  cases h3
  rfl
def Hn.ok (x : Hn) : Bool := ((decide (0 ≤ x.n) && decide (x.n ≤ 5)) && (decide (0 ≤ x.k) && decide (x.k ≤ 7))) && (decide (1 ≤ x.v) && decide (x.v ≤ 1000))
theorem Hn.ok_iff (x : Hn) : x.ok = true ↔ ((0 ≤ x.n ∧ x.n ≤ 5) ∧ (0 ≤ x.k ∧ x.k ≤ 7)) ∧ (1 ≤ x.v ∧ x.v ≤ 1000) := by simp [Hn.ok]
/-- is y of the node and the key of x? -/
def hSame (x y : Hn) : Bool := (y.n == x.n) && (y.k == x.k)
theorem hSame_iff (x y : Hn) : hSame x y = true ↔ y.n = x.n ∧ y.k = x.k := by simp [hSame]
/-- those of another node or key -/
def offH (x : Hn) (l : List Hn) : List Hn := l.filter (fun y => !hSame x y)
/-- is one of a greater version there? -/
def newerH (x : Hn) (l : List Hn) : Bool := l.any (fun y => hSame x y && decide (x.v < y.v))
/-- what is there behind a hint that is right -/
def putH (x : Hn) (l : List Hn) : List Hn := if newerH x l = true then l else if 10 < (offH x l ++ [x]).length then (offH x l ++ [x]).tail else offH x l ++ [x]
/-- is one lost by it? -/
def lostH (x : Hn) (l : List Hn) : Bool := if newerH x l = true then false else decide (10 < (offH x l ++ [x]).length)
def addH (x : Hn) (l : List Hn) : List Hn := if x.ok = true then putH x l else l
def addN (x : Hn) (l : List Hn) : Nat := if x.ok = true ∧ lostH x l = true then 1 else 0
def addE (x : Hn) : Int := if x.ok = true then 0 else 1
/-- those of a node; the others -/
def takeH (node : Int) (l : List Hn) : List Hn := l.filter (fun y => y.n == node)
def leaveH (node : Int) (l : List Hn) : List Hn := l.filter (fun y => !(y.n == node))
/-- one of each node and key, each right, ten at most -/
structure GoodH (l : List Hn) : Prop where
  one : l.Pairwise (fun x y => ¬ (x.n = y.n ∧ x.k = y.k))
  ok : ∀ x ∈ l, x.ok = true
  ten : l.length ≤ 10
theorem GoodH.nil : GoodH [] := ⟨List.Pairwise.nil, fun _ h => (by cases h), by simp⟩
theorem GoodH.sub {l m : List Hn} (h : GoodH l) (hs : m.Sublist l) : GoodH m :=
  ⟨h.one.sublist hs, fun x hx => h.ok x (hs.subset hx), Nat.le_trans hs.length_le h.ten⟩
theorem off_sub (x : Hn) (l : List Hn) : (offH x l).Sublist l := List.filter_sublist
theorem mem_off {x y : Hn} {l : List Hn} : y ∈ offH x l ↔ y ∈ l ∧ ¬ (y.n = x.n ∧ y.k = x.k) := by
  rw [offH, List.mem_filter, ← hSame_iff]
  simp
theorem GoodH.put {l : List Hn} (h : GoodH l) {x : Hn} (hx : x.ok = true) : GoodH (putH x l) := by
  have h1 : (offH x l ++ [x]).Pairwise (fun x y => ¬ (x.n = y.n ∧ x.k = y.k)) := by
    rw [List.pairwise_append]
    refine ⟨(h.sub (off_sub x l)).one, List.pairwise_singleton _ _, fun y hy z hz => ?_⟩
    obtain rfl := List.mem_singleton.1 hz
    exact (mem_off.1 hy).2
  have h2 : ∀ y ∈ offH x l ++ [x], y.ok = true := fun y hy => by
    rcases List.mem_append.1 hy with hy | hy
    · exact h.ok y (mem_off.1 hy).1
    · obtain rfl := List.mem_singleton.1 hy
      exact hx
  have h3 : (offH x l ++ [x]).length ≤ 11 := by
    have e1 := (off_sub x l).length_le
    have e2 := h.ten
    simp
    omega
  unfold putH
  split
  · exact h
  · split
    · exact ⟨h1.sublist (List.tail_sublist _), fun y hy => h2 y (List.mem_of_mem_tail hy), by rw [List.length_tail]; omega⟩
    · exact ⟨h1, h2, by omega⟩
theorem GoodH.add {l : List Hn} (h : GoodH l) (x : Hn) : GoodH (addH x l) := by
  unfold addH
  split
  · exact h.put ‹_›
  · exact h
theorem GoodH.leave {l : List Hn} (h : GoodH l) (node : Int) : GoodH (leaveH node l) := h.sub List.filter_sublist
/-- of one's node and key there is one at most: so it is found by looking for the first -/
theorem GoodH.newer {l : List Hn} (h : GoodH l) {x y : Hn} (hy : y ∈ l) (hs : hSame x y = true) : newerH x l = decide (x.v < y.v) := by
  obtain ⟨s1, s2⟩ := (hSame_iff x y).1 hs
  cases hn : newerH x l
  · symm
    rw [decide_eq_false_iff_not]
    intro hlt
    have : newerH x l = true := List.any_eq_true.2 ⟨y, hy, by simp [hs, hlt]⟩
    rw [hn] at this
    cases this
  · obtain ⟨z, hz, hz2⟩ := List.any_eq_true.1 hn
    rw [Bool.and_eq_true] at hz2
    obtain ⟨t1, t2⟩ := (hSame_iff x z).1 hz2.1
    have hzy : z = y := by
      obtain ⟨i, hi, rfl⟩ := List.getElem_of_mem hz
      obtain ⟨j, hj, rfl⟩ := List.getElem_of_mem hy
      have hp := List.pairwise_iff_getElem.1 h.one
      rcases Nat.lt_trichotomy i j with hij | hij | hij
      · exact absurd ⟨by rw [t1, s1], by rw [t2, s2]⟩ (hp i j hi hj hij)
      · subst hij; rfl
      · exact absurd ⟨by rw [t1, s1], by rw [t2, s2]⟩ (hp j i hj hi hij)
    rw [← hzy]
    exact hz2.2.symm
theorem off_none {x : Hn} {l : List Hn} (h : ∀ y ∈ l, hSame x y = false) : offH x l = l := by
  rw [offH, List.filter_eq_self]
  intro y hy
  simp [h y hy]
theorem newer_none {x : Hn} {l : List Hn} (h : ∀ y ∈ l, hSame x y = false) : newerH x l = false := by
  cases hn : newerH x l
  · rfl
  · obtain ⟨z, hz, hz2⟩ := List.any_eq_true.1 hn
    rw [h z hz] at hz2
    simp at hz2
/-- the one of x's node and key, at place i, taken out -/
theorem GoodH.off {l : List Hn} (h : GoodH l) {x : Hn} {i : Nat} (hi : i < l.length) (hs : hSame x l[i] = true) : offH x l = l.eraseIdx i := by
  obtain ⟨s1, s2⟩ := (hSame_iff x _).1 hs
  have hp := List.pairwise_iff_getElem.1 h.one
  rw [List.eraseIdx_eq_take_drop_succ]
  have hl : l = l.take i ++ (l[i] :: l.drop (i + 1)) := by rw [← List.drop_eq_getElem_cons hi, List.take_append_drop]
  have e1 : (l.take i).filter (fun y => !hSame x y) = l.take i := by
    rw [List.filter_eq_self]
    intro y hy
    obtain ⟨j, hj, rfl⟩ := List.getElem_of_mem hy
    rw [List.length_take] at hj
    rw [List.getElem_take]
    have hn : ¬ hSame x l[j] = true := fun hh => by
      obtain ⟨t1, t2⟩ := (hSame_iff x _).1 hh
      exact hp j i (by omega) hi (by omega) ⟨by rw [t1, s1], by rw [t2, s2]⟩
    simpa using hn
  have e2 : (l.drop (i + 1)).filter (fun y => !hSame x y) = l.drop (i + 1) := by
    rw [List.filter_eq_self]
    intro y hy
    obtain ⟨j, hj, rfl⟩ := List.getElem_of_mem hy
    rw [List.length_drop] at hj
    rw [List.getElem_drop]
    have hn : ¬ hSame x l[i + 1 + j] = true := fun hh => by
      obtain ⟨t1, t2⟩ := (hSame_iff x _).1 hh
      exact hp i (i + 1 + j) hi (by omega) (by omega) ⟨by rw [t1, s1], by rw [t2, s2]⟩
    simpa using hn
  unfold offH
  conv => lhs; rw [hl]
  rw [List.filter_append, e1, List.filter_cons, hs, e2]
  simp
end Go.Proofs.Ytkhdeaegbkenfah
