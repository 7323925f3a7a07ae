/-
  A ring's points on lists: points of nodes, who comes takes only for himself.
-/
import Derived.Test.YtpcnfoaoajfhlaaGreatDoorQoaz
import Derived.Test.YtpcnfoaoajfhlaaGreatDoorQoat
namespace Go.Proofs.YtpcnfoaoajfhlaaGreatDoor
set_option linter.unusedVariables false
set_option linter.unusedSimpArgs false
set_option linter.unusedVariables false
set_option linter.unusedSimpArgs false
open Go.RowKit

/-- is a node's number of i there, for some i below each? -/
def hitN (each n a : Nat) : Bool := (List.range each).any (fun i => pairH n i % 256 == a)
def hasN (nodes : List Int) (each a n : Nat) : Bool := nodes.contains (n : Int) && hitN each n a
/-- the points at one place, of the nodes below m -/
def rowP (nodes : List Int) (each a m : Nat) : List Pt := ((List.range m).filter (fun n => hasN nodes each a n)).map (fun n : Nat => (⟨(a : Int), (n : Int)⟩ : Pt))
/-- the points at the places below a -/
def ptsU (nodes : List Int) (each : Nat) : Nat → List Pt
  | 0 => []
  | a + 1 => ptsU nodes each a ++ rowP nodes each a 6
def ptsL (nodes : List Int) (each : Nat) : List Pt := ptsU nodes each 256
theorem rowP_zero (nodes : List Int) (each a : Nat) : rowP nodes each a 0 = [] := rfl
theorem rowP_yes {nodes : List Int} {each a m : Nat} (h : hasN nodes each a m = true) : rowP nodes each a (m + 1) = rowP nodes each a m ++ [⟨(a : Int), (m : Int)⟩] := by
  unfold rowP
  rw [List.range_succ, List.filter_append, List.map_append]
  have e : [m].filter (fun n => hasN nodes each a n) = [m] := by simp [h]
  rw [e]
  rfl
theorem rowP_no {nodes : List Int} {each a m : Nat} (h : hasN nodes each a m = false) : rowP nodes each a (m + 1) = rowP nodes each a m := by
  unfold rowP
  rw [List.range_succ, List.filter_append, List.map_append]
  have e : [m].filter (fun n => hasN nodes each a n) = [] := by simp [h]
  rw [e]
  simp
theorem mem_rowP {nodes : List Int} {each a m : Nat} {x : Pt} : x ∈ rowP nodes each a m ↔ ∃ n : Nat, n < m ∧ hasN nodes each a n = true ∧ x = ⟨(a : Int), (n : Int)⟩ := by
  unfold rowP
  simp only [List.mem_map, List.mem_filter, List.mem_range]
  constructor
  · rintro ⟨n, ⟨h1, h2⟩, h3⟩
    exact ⟨n, h1, h2, h3.symm⟩
  · rintro ⟨n, h1, h2, h3⟩
    exact ⟨n, ⟨h1, h2⟩, h3.symm⟩
theorem mem_ptsU {nodes : List Int} {each : Nat} {x : Pt} : ∀ a, x ∈ ptsU nodes each a ↔ ∃ q n : Nat, q < a ∧ n < 6 ∧ hasN nodes each q n = true ∧ x = ⟨(q : Int), (n : Int)⟩ := by
  intro a
  induction a with
  | zero =>
    constructor
    · intro h
      cases h
    · rintro ⟨q, n, h, _⟩
      omega
  | succ a ih =>
    rw [ptsU, List.mem_append, ih, mem_rowP]
    constructor
    · rintro (⟨q, n, h1, h2, h3, h4⟩ | ⟨n, h2, h3, h4⟩)
      · exact ⟨q, n, by omega, h2, h3, h4⟩
      · exact ⟨a, n, by omega, h2, h3, h4⟩
    · rintro ⟨q, n, h1, h2, h3, h4⟩
      by_cases e : q = a
      · subst e
        exact .inr ⟨n, h2, h3, h4⟩
      · exact .inl ⟨q, n, by omega, h2, h3, h4⟩
theorem rowP_rise (nodes : List Int) (each a : Nat) : ∀ m, (rowP nodes each a m).Pairwise ltP := by
  intro m
  induction m with
  | zero => exact List.Pairwise.nil
  | succ m ih =>
    cases h : hasN nodes each a m with
    | false => rw [rowP_no h]; exact ih
    | true =>
      rw [rowP_yes h, List.pairwise_append]
      refine ⟨ih, by simp, fun x hx y hy => ?_⟩
      obtain ⟨n, h1, _, rfl⟩ := mem_rowP.1 hx
      rw [List.mem_singleton.1 hy]
      exact .inr ⟨rfl, by show (n : Int) < (m : Int); omega⟩
theorem ptsU_rise (nodes : List Int) (each : Nat) : ∀ a, (ptsU nodes each a).Pairwise ltP := by
  intro a
  induction a with
  | zero => exact List.Pairwise.nil
  | succ a ih =>
    rw [ptsU, List.pairwise_append]
    refine ⟨ih, rowP_rise nodes each a 6, fun x hx y hy => ?_⟩
    obtain ⟨q, n, h1, _, _, rfl⟩ := (mem_ptsU a).1 hx
    obtain ⟨n', _, _, rfl⟩ := mem_rowP.1 hy
    exact .inl (by show (q : Int) < (a : Int); omega)
/-- the points without a node that came are those from before -/
theorem pts_more (nodes : List Int) (each : Nat) (more : Int) (h : nodes.contains more = false) : (ptsL (nodes ++ [more]) each).filter (fun x => decide (x.n ≠ more)) = ptsL nodes each := by
  refine rise_ext ((ptsU_rise _ _ _).filter _) (ptsU_rise _ _ _) (fun x => ?_)
  unfold ptsL
  rw [List.mem_filter, mem_ptsU, mem_ptsU]
  constructor
  · rintro ⟨⟨q, n, h1, h2, h3, rfl⟩, hn⟩
    have hn' : (n : Int) ≠ more := by simpa using hn
    refine ⟨q, n, h1, h2, ?_, rfl⟩
    unfold hasN at h3 ⊢
    rw [Bool.and_eq_true] at h3 ⊢
    refine ⟨?_, h3.2⟩
    have := h3.1
    simp only [List.contains_iff_mem, List.mem_append, List.mem_singleton] at this ⊢
    rcases this with h | h
    · exact h
    · exact absurd h hn'
  · rintro ⟨q, n, h1, h2, h3, rfl⟩
    unfold hasN at h3
    rw [Bool.and_eq_true] at h3
    refine ⟨⟨q, n, h1, h2, ?_, rfl⟩, ?_⟩
    · unfold hasN
      rw [Bool.and_eq_true]
      refine ⟨?_, h3.2⟩
      have := h3.1
      simp only [List.contains_iff_mem, List.mem_append] at this ⊢
      exact .inl this
    · have hc : (n : Int) ≠ more := by
        intro e
        rw [e] at h3
        rw [h] at h3
        simp at h3
      simpa using hc
theorem pts_node {nodes : List Int} {each : Nat} {x : Pt} (h : x ∈ ptsL nodes each) : nodes.contains x.n = true ∧ 0 ≤ x.p ∧ x.p ≤ 255 ∧ 0 ≤ x.n ∧ x.n ≤ 5 := by
  obtain ⟨q, n, h1, h2, h3, rfl⟩ := (mem_ptsU 256).1 h
  unfold hasN at h3
  rw [Bool.and_eq_true] at h3
  refine ⟨h3.1, ?_, ?_, ?_, ?_⟩
  · show (0 : Int) ≤ (q : Int); omega
  · show (q : Int) ≤ 255; omega
  · show (0 : Int) ≤ (n : Int); omega
  · show (n : Int) ≤ 5; omega
/-- of a node that is there, there is a point -/
theorem pts_some {nodes : List Int} {each n : Nat} (hn : n < 6) (hc : nodes.contains (n : Int) = true) (he : 1 ≤ each) : (⟨((pairH n 0 % 256 : Nat) : Int), (n : Int)⟩ : Pt) ∈ ptsL nodes each := by
  refine (mem_ptsU 256).2 ⟨pairH n 0 % 256, n, Nat.mod_lt _ (by omega), hn, ?_, rfl⟩
  unfold hasN hitN
  rw [hc, Bool.true_and, List.any_eq_true]
  exact ⟨0, List.mem_range.2 (by omega), by simp⟩
/-- of one node there are no more points than numbers -/
theorem pts_one_len (n each : Nat) : (ptsL [(n : Int)] each).length ≤ each := by
  have hr := ptsU_rise [(n : Int)] each 256
  have hm : ∀ x ∈ ptsL [(n : Int)] each, x.n = (n : Int) ∧ ∃ q i : Nat, x.p = (q : Int) ∧ i < each ∧ pairH n i % 256 = q := fun x hx => by
    obtain ⟨q, k, h1, h2, h3, rfl⟩ := (mem_ptsU 256).1 hx
    unfold hasN hitN at h3
    rw [Bool.and_eq_true, List.any_eq_true] at h3
    obtain ⟨h3, i, hi, he⟩ := h3
    have hk : (k : Int) = (n : Int) := by simpa using h3
    have hkn : k = n := by omega
    subst hkn
    exact ⟨rfl, q, i, rfl, List.mem_range.1 hi, by simpa using he⟩
  have e : (ptsL [(n : Int)] each).length = ((ptsL [(n : Int)] each).map (fun x => x.p.toNat)).length := by rw [List.length_map]
  rw [e]
  refine few_of each (fun i => pairH n i % 256) _ ?_ (fun x hx => ?_)
  · unfold List.Nodup
    rw [List.pairwise_map]
    refine hr.imp_of_mem (fun {x y} hx hy hxy => ?_)
    obtain ⟨e1, q1, _, p1, _⟩ := hm x hx
    obtain ⟨e2, q2, _, p2, _⟩ := hm y hy
    rcases hxy with h | ⟨_, h⟩
    · omega
    · omega
  · obtain ⟨y, hy, rfl⟩ := List.mem_map.1 hx
    obtain ⟨_, q, i, h1, h2, h3⟩ := hm y hy
    refine ⟨i, h2, ?_⟩
    show pairH n i % 256 = y.p.toNat
    omega
end Go.Proofs.YtpcnfoaoajfhlaaGreatDoor
