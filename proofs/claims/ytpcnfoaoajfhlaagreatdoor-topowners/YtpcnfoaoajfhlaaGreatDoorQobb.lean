/-
  The points as the program makes them, on lists: each node's numbers in their turn, sorted.
-/
import Derived.Test.YtpcnfoaoajfhlaaGreatDoorQoba
import Derived.Shelf.SlSortCmp.NoneTotal
namespace Go.Proofs.YtpcnfoaoajfhlaaGreatDoor
set_option linter.unusedVariables false
set_option linter.unusedSimpArgs false
set_option linter.unusedVariables false
set_option linter.unusedSimpArgs false
open Go.RowKit Go.Lib Go.Sort

/-- where a node's number i lies -/
def plP (n i : Nat) : Nat := pairH n i % 256
theorem plP_lt (n i : Nat) : plP n i < 256 := Nat.mod_lt _ (by omega)
/-- a node's points, of the numbers below j -/
def rawN (n : Int) (j : Nat) : List Pt := (List.range j).map (fun i => (⟨(plP n.toNat i : Int), n⟩ : Pt))
/-- the nodes' points, each in its turn -/
def rawL (each : Nat) : List Int → List Pt
  | [] => []
  | n :: l => rawN n each ++ rawL each l
theorem rawN_zero (n : Int) : rawN n 0 = [] := rfl
theorem rawN_succ (n : Int) (j : Nat) : rawN n (j + 1) = rawN n j ++ [⟨(plP n.toNat j : Int), n⟩] := by simp [rawN, List.range_succ]
theorem rawN_len (n : Int) (j : Nat) : (rawN n j).length = j := by simp [rawN]
theorem rawL_append (each : Nat) (l m : List Int) : rawL each (l ++ m) = rawL each l ++ rawL each m := by
  induction l with
  | nil => rfl
  | cons n l ih => simp only [List.cons_append, rawL, ih, List.append_assoc]
theorem rawL_take {each k : Nat} {nodes : List Int} (h : k < nodes.length) : rawL each (nodes.take (k + 1)) = rawL each (nodes.take k) ++ rawN nodes[k] each := by
  rw [List.take_succ_eq_append_getElem h, rawL_append]
  simp [rawL]
theorem rawL_len (each : Nat) (l : List Int) : (rawL each l).length = l.length * each := by
  induction l with
  | nil => simp [rawL]
  | cons n l ih => rw [rawL, List.length_append, rawN_len, ih, List.length_cons, Nat.add_mul, Nat.one_mul, Nat.add_comm]
theorem mem_rawN {n : Int} {j : Nat} {x : Pt} : x ∈ rawN n j ↔ ∃ i, i < j ∧ x = ⟨(plP n.toNat i : Int), n⟩ := by
  unfold rawN
  simp only [List.mem_map, List.mem_range]
  constructor
  · rintro ⟨i, h1, h2⟩
    exact ⟨i, h1, h2.symm⟩
  · rintro ⟨i, h1, h2⟩
    exact ⟨i, h1, h2.symm⟩
theorem mem_rawL {each : Nat} {x : Pt} : ∀ {l : List Int}, x ∈ rawL each l ↔ ∃ n ∈ l, ∃ i, i < each ∧ x = ⟨(plP n.toNat i : Int), n⟩ := by
  intro l
  induction l with
  | nil =>
    constructor
    · intro h
      cases h
    · rintro ⟨n, h, _⟩
      cases h
  | cons m l ih =>
    rw [rawL, List.mem_append, mem_rawN, ih]
    constructor
    · rintro (⟨i, h1, h2⟩ | ⟨n, h1, h2⟩)
      · exact ⟨m, by simp, i, h1, h2⟩
      · exact ⟨n, List.mem_cons_of_mem _ h1, h2⟩
    · rintro ⟨n, h1, h2⟩
      rcases List.mem_cons.1 h1 with rfl | h1
      · exact .inl h2
      · exact .inr ⟨n, h1, h2⟩
theorem rawN_nodup {n : Int} (h0 : 0 ≤ n) (h5 : n ≤ 5) {j : Nat} (hj : j ≤ 8) : (rawN n j).Nodup := by
  unfold rawN List.Nodup
  rw [List.pairwise_map]
  refine (List.nodup_range (n := j)).imp_of_mem (fun {a b} ha hb hab => ?_)
  intro e
  have e1 : (plP n.toNat a : Int) = (plP n.toNat b : Int) := congrArg Pt.p e
  have e2 : plP n.toNat a = plP n.toNat b := by omega
  have ha' := List.mem_range.1 ha
  have hb' := List.mem_range.1 hb
  exact hab (pairH_unlike (by omega) (by omega) (by omega) e2)
theorem rawL_nodup {each : Nat} (he : each ≤ 8) : ∀ {l : List Int}, (∀ x ∈ l, 0 ≤ x ∧ x ≤ 5) → l.Nodup → (rawL each l).Nodup := by
  intro l
  induction l with
  | nil => intro _ _; exact List.nodup_nil
  | cons m l ih =>
    intro h hn
    obtain ⟨h1, h2⟩ := List.nodup_cons.1 hn
    rw [rawL, List.nodup_append]
    refine ⟨rawN_nodup (h m (by simp)).1 (h m (by simp)).2 he, ih (fun x hx => h x (List.mem_cons_of_mem _ hx)) h2, fun a ha b hb e => ?_⟩
    subst e
    obtain ⟨i, _, e1⟩ := mem_rawN.1 ha
    obtain ⟨n, hn', j, _, e2⟩ := mem_rawL.1 hb
    have e3 : a.n = m := by rw [e1]
    have e4 : a.n = n := by rw [e2]
    rw [← e3, e4] at h1
    exact h1 hn'
theorem ltO (x y : Pt) : ltOf cfP x y = decide (ltP x y) := by
  unfold ltOf
  rw [decide_eq_decide]
  exact cfP_neg x y
theorem swoP : SWO (ltOf cfP) where
  irrefl x := by rw [ltO]; unfold ltP; simp
  trans x y z h1 h2 := by
    rw [ltO, decide_eq_true_eq] at *
    unfold ltP at *
    omega
  ntrans x y z h1 h2 := by
    rw [ltO, decide_eq_false_iff_not] at *
    unfold ltP at *
    omega
theorem totP (x y : Pt) (h1 : ltOf cfP x y = false) (h2 : ltOf cfP y x = false) : x = y := by
  rw [ltO, decide_eq_false_iff_not] at *
  unfold ltP at *
  exact pt_ext (by omega) (by omega)
/-- the points of right nodes, sorted, are the document's -/
theorem sort_is {nodes : List Int} {each : Nat} (hg : ∀ x ∈ nodes, 0 ≤ x ∧ x ≤ 5) (hn : nodes.Nodup) (he : each ≤ 8) : (rawL each nodes).mergeSort (fun x y => !(ltOf cfP) y x) = ptsL nodes each := by
  have hp := List.mergeSort_perm (rawL each nodes) (fun x y => !(ltOf cfP) y x)
  have hs := List.pairwise_mergeSort (le := fun x y => !(ltOf cfP) y x) (fun a b c h1 h2 => by
      simp only [Bool.not_eq_true'] at *
      exact swoP.ntrans c b a h2 h1) (fun a b => by
      cases h : ltOf cfP b a with
      | false => simp
      | true =>
        have : ltOf cfP a b = false := by
          cases h' : ltOf cfP a b with
          | false => rfl
          | true =>
            have := swoP.trans a b a h' h
            rw [swoP.irrefl] at this
            cases this
        simp [this]) (rawL each nodes)
  have hd := (hp.nodup_iff).2 (rawL_nodup he hg hn)
  refine rise_ext ((List.pairwise_and_iff.2 ⟨hs, hd⟩).imp (fun {a b} h => ?_)) (ptsU_rise _ _ _) (fun x => ?_)
  · obtain ⟨h1, h2⟩ := h
    simp only [Bool.not_eq_true'] at h1
    by_cases h3 : ltP a b
    · exact h3
    · exact absurd (totP a b (by rw [ltO]; simpa using h3) h1) h2
  · rw [hp.mem_iff, mem_rawL]
    unfold ptsL
    rw [mem_ptsU]
    constructor
    · rintro ⟨n, h1, i, h2, rfl⟩
      obtain ⟨g1, g2⟩ := hg n h1
      obtain ⟨m, rfl⟩ : ∃ m : Nat, n = (m : Int) := ⟨n.toNat, by omega⟩
      refine ⟨plP m i, m, plP_lt _ _, by omega, ?_, rfl⟩
      unfold hasN hitN
      rw [Bool.and_eq_true, List.any_eq_true]
      exact ⟨by simpa [List.contains_iff_mem] using h1, i, List.mem_range.2 h2, by simp [plP]⟩
    · rintro ⟨q, m, _, _, h, rfl⟩
      unfold hasN hitN at h
      rw [Bool.and_eq_true, List.any_eq_true] at h
      obtain ⟨h1, i, hi, h2⟩ := h
      refine ⟨(m : Int), by simpa [List.contains_iff_mem] using h1, i, List.mem_range.1 hi, ?_⟩
      have : pairH m i % 256 = q := by simpa using h2
      rw [← this]
      rfl
theorem pts_len_le {nodes : List Int} {each : Nat} (hg : ∀ x ∈ nodes, 0 ≤ x ∧ x ≤ 5) (hn : nodes.Nodup) (he : each ≤ 8) : (ptsL nodes each).length = nodes.length * each := by
  rw [← sort_is hg hn he, List.length_mergeSort, rawL_len]
/-- the points of right nodes are right -/
theorem pts_right {nodes : List Int} {each : Nat} (hg : ∀ x ∈ nodes, 0 ≤ x ∧ x ≤ 5) (hn : nodes.Nodup) (h1 : 1 ≤ each) (he : each ≤ 8) (hl : nodes.length ≤ 6) (h0 : nodes.length ≠ 0) : rightP (ptsL nodes each) = true := by
  have hlen := pts_len_le hg hn he
  have hm : nodes.length * each ≤ 6 * 8 := Nat.mul_le_mul hl he
  have hp : 0 < nodes.length * each := Nat.mul_pos (by omega) h1
  unfold rightP
  rw [right_of (ptsL nodes each) none (ptsU_rise _ _ _) (fun x hx => ?_) (fun y hy => by cases hy)]
  · rw [hlen]
    simp only [Bool.and_true, Bool.and_eq_true, decide_eq_true_eq]
    omega
  · obtain ⟨_, a1, a2, a3, a4⟩ := pts_node hx
    simp [inP, a1, a2, a3, a4]
/-- the place of a key -/
def keyT (k : Nat) : Int := (plP k k : Int)
end Go.Proofs.YtpcnfoaoajfhlaaGreatDoor
