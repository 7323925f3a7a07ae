/-
  What TreeParts says of two trees, on lists.
-/
import Derived.Test.YtliaidgedjjobaaDoorTrA
namespace Go.Proofs.YtliaidgedjjobaaDoor
set_option linter.unusedVariables false
set_option linter.unusedSimpArgs false
open Go.RowKit

theorem part_turn (f g : Nat → Nat) (i : Nat) : partK g f i = partK f g i ∧ partN g f i = partN f g i := by
  unfold partK partN
  rw [ptK_turn, ptN_turn]
  exact ⟨rfl, rfl⟩
theorem part_few (f g : Nat → Nat) : partN f g 1 ≤ 1 + 6 * (partK f g 1).length := by
  have h := ptN_few pairH f g 3 1
  unfold partN partK
  rw [List.length_map]
  exact h
theorem part_pos (f g : Nat → Nat) (i : Nat) : 1 ≤ partN f g i := ptN_pos _ _ _ _ _
theorem part_mem {f g : Nat → Nat} {k : Int} (h : k ∈ partK f g 1) : ∃ q : Nat, k = (q : Int) ∧ q < 8 ∧ f q ≠ g q := by
  obtain ⟨q, hq, rfl⟩ := List.mem_map.1 h
  obtain ⟨hu, hn⟩ := ptK_under pairH f g 3 1 q (by decide) hq
  have h2 : q + 8 < (1 + 1) * 2 ^ 3 := hu.2
  exact ⟨q, rfl, by omega, hn⟩
theorem part_rise (f g : Nat → Nat) : (partK f g 1).Pairwise (· < ·) := by
  unfold partK
  rw [List.pairwise_map]
  exact (ptK_rise pairH f g 3 1 (by decide)).imp (fun h => by omega)
theorem part_mended (f g h : Nat → Nat) (hh : ∀ q, q < 8 → h q = if (partK f g 1).contains (q : Int) = true then f q else g q) : trN h 1 = trN f 1 := by
  have hm : ∀ q : Nat, (partK f g 1).contains (q : Int) = true ↔ q ∈ ptK pairH f g 3 1 := fun q => by
    rw [List.contains_iff_mem]
    unfold partK
    rw [List.mem_map]
    constructor
    · rintro ⟨x, hx, hxq⟩
      have : x = q := by omega
      subst this
      exact hx
    · exact fun hq => ⟨q, hq, rfl⟩
  refine nd_mended pairH f g h 3 1 (by decide) (fun k hk => ?_)
  have h2 : k + 8 < (1 + 1) * 2 ^ 3 := hk.2
  have e := hh k (by omega)
  constructor
  · intro hx
    rw [if_pos ((hm k).2 hx)] at e
    exact e
  · intro hx
    rw [if_neg (fun hc => hx ((hm k).1 hc))] at e
    exact e

/-- the one entry of the law's first row -/
def oneE : En := ⟨6, 1, 1, false, ⟨#[120]⟩⟩
theorem one_good : badL [oneE] = 0 := by decide +kernel
theorem leaf_one : leafN [oneE] = oneF := by
  funext k
  unfold oneF
  by_cases h : k = 6
  · subst h
    rw [if_pos rfl]
    have e : getE [oneE] ((6 : Nat) : Int) = some oneE := rfl
    rw [leafN_some e]
    exact entH_eq 6 1 false ⟨#[120]⟩
  · rw [if_neg h]
    refine leafN_none ?_
    unfold getE
    rw [List.find?_cons_of_neg (by
      show ¬ (((6 : Int) == (k : Int)) = true)
      simp
      omega)]
    rfl
theorem leaf_nil : leafN [] = fun _ => 0 := by
  funext k
  rfl
theorem part_one : partK (leafN [oneE]) (leafN []) 1 = [6] ∧ partN (leafN [oneE]) (leafN []) 1 = 7 := by
  obtain ⟨h1, h2⟩ := one_part
  rw [leaf_one, leaf_nil]
  unfold partK partN
  rw [pairH_eq, show dep 1 = 3 from rfl, h1, h2]
  exact ⟨rfl, rfl⟩

/-- where two numbers are unlike, how the entries are -/
theorem unlike_how {a b : List En} (ha : badL a = 0) (hb : badL b = 0) {q : Nat} (h : leafN a q ≠ leafN b q) :
    (∃ x, getE a (q : Int) = some x ∧ getE b (q : Int) = none) ∨ (∃ y, getE a (q : Int) = none ∧ getE b (q : Int) = some y) ∨
    ∃ x y, getE a (q : Int) = some x ∧ getE b (q : Int) = some y ∧ (x.v ≠ y.v ∨ (x.v = y.v ∧ x.g ≠ y.g) ∨ (x.v = y.v ∧ x.g = y.g ∧ x.t ≠ y.t)) := by
  cases h1 : getE a (q : Int) with
  | none =>
    cases h2 : getE b (q : Int) with
    | none => exact absurd (by rw [leafN_none h1, leafN_none h2]) h
    | some y => exact .inr (.inl ⟨y, rfl, rfl⟩)
  | some x =>
    cases h2 : getE b (q : Int) with
    | none => exact .inl ⟨x, rfl, rfl⟩
    | some y =>
      refine .inr (.inr ⟨x, y, rfl, rfl, ?_⟩)
      obtain ⟨_, _, kx⟩ := getE_some (badL_good ha).rise h1
      obtain ⟨_, _, ky⟩ := getE_some (badL_good hb).rise h2
      by_cases e1 : x.v = y.v
      · by_cases e2 : x.g = y.g
        · by_cases e3 : x.t = y.t
          · refine absurd ?_ h
            rw [leafN_some h1, leafN_some h2, numE, numE, kx, ky, e1, e2, e3]
          · exact .inr (.inr ⟨e1, e2, e3⟩)
        · exact .inr (.inl ⟨e1, e2⟩)
      · exact .inl e1

/-- b's entries, but a's of some keys, below j -/
def mixU (a b : List En) (K : List Int) : Nat → List En
  | 0 => []
  | j + 1 => mixU a b K j ++ (match getE (if K.contains (j : Int) = true then a else b) (j : Int) with
    | none => []
    | some x => [x])
/-- where a key's entry is taken from -/
def fromU (a b : List En) (K : List Int) (j : Nat) : List En := if K.contains (j : Int) = true then a else b
theorem mixU_none {a b : List En} {K : List Int} {j : Nat} (h : getE (fromU a b K j) (j : Int) = none) : mixU a b K (j + 1) = mixU a b K j := by
  unfold fromU at h
  rw [mixU, h, List.append_nil]
theorem mixU_some {a b : List En} {K : List Int} {j : Nat} {x : En} (h : getE (fromU a b K j) (j : Int) = some x) : mixU a b K (j + 1) = mixU a b K j ++ [x] := by
  unfold fromU at h
  rw [mixU, h]
theorem fromU_good {a b : List En} {K : List Int} {j : Nat} (ha : badL a = 0) (hb : badL b = 0) : badL (fromU a b K j) = 0 := by
  unfold fromU
  split
  · exact ha
  · exact hb
theorem mixU_props {a b : List En} (K : List Int) (ha : badL a = 0) (hb : badL b = 0) : ∀ j, (mixU a b K j).length ≤ j ∧ Rising (mixU a b K j) ∧ (∀ e ∈ mixU a b K j, e.bad = 0 ∧ e.k < (j : Int)) ∧
    ∀ q : Nat, getE (mixU a b K j) (q : Int) = if q < j then getE (fromU a b K q) (q : Int) else none := by
  intro j
  induction j with
  | zero => exact ⟨Nat.le_refl _, List.Pairwise.nil, fun e he => (by cases he), fun q => rfl⟩
  | succ j ih =>
    obtain ⟨h1, h2, h3, h4⟩ := ih
    cases hg : getE (fromU a b K j) (j : Int) with
    | none =>
      rw [mixU_none hg]
      refine ⟨by omega, h2, fun e he => ⟨(h3 e he).1, by have := (h3 e he).2; omega⟩, fun q => ?_⟩
      rw [h4 q]
      by_cases e1 : q < j
      · rw [if_pos e1, if_pos (by omega)]
      · by_cases e2 : q = j
        · subst e2
          rw [if_neg e1, if_pos (by omega), hg]
        · rw [if_neg e1, if_neg (by omega)]
    | some x =>
      have G := badL_good (fromU_good (K := K) (j := j) ha hb)
      obtain ⟨hj, hx, hk⟩ := getE_some G.rise hg
      have hxb : x.bad = 0 := G.all x (by rw [← hx]; exact List.getElem_mem _)
      rw [mixU_some hg]
      refine ⟨by rw [List.length_append]; simp; omega, ?_, ?_, fun q => ?_⟩
      · unfold Rising
        rw [List.pairwise_append]
        refine ⟨h2, by simp, fun u hu v hv => ?_⟩
        rw [List.mem_singleton.1 hv, hk]
        exact (h3 u hu).2
      · intro e he
        rcases List.mem_append.1 he with he | he
        · exact ⟨(h3 e he).1, by have := (h3 e he).2; omega⟩
        · rw [List.mem_singleton.1 he]
          exact ⟨hxb, by rw [hk]; omega⟩
      · have e0 : getE (mixU a b K j ++ [x]) (q : Int) = (getE (mixU a b K j) (q : Int)).or (getE [x] (q : Int)) := by
          unfold getE
          exact List.find?_append
        rw [e0, h4 q]
        by_cases e1 : q < j
        · rw [if_pos e1, if_pos (by omega)]
          have e2 : getE [x] (q : Int) = none := by
            unfold getE
            rw [List.find?_cons_of_neg (by rw [hk]; simp; omega)]
            rfl
          rw [e2]
          cases getE (fromU a b K q) (q : Int) <;> rfl
        · by_cases e2 : q = j
          · subst e2
            rw [if_neg e1, if_pos (by omega), hg]
            have e3 : getE [x] (q : Int) = some x := by
              unfold getE
              exact List.find?_cons_of_pos (by rw [hk]; simp)
            rw [e3]
            rfl
          · rw [if_neg e1, if_neg (by omega)]
            have e3 : getE [x] (q : Int) = none := by
              unfold getE
              rw [List.find?_cons_of_neg (by rw [hk]; simp; omega)]
              rfl
            rw [e3]
            rfl
theorem mixU_good {a b : List En} (K : List Int) (ha : badL a = 0) (hb : badL b = 0) : badL (mixU a b K 8) = 0 := by
  obtain ⟨h1, h2, h3, _⟩ := mixU_props K ha hb 8
  exact GoodL.bad ⟨h1, fun e he => (h3 e he).1, h2⟩
theorem mixU_leaf {a b : List En} (K : List Int) (ha : badL a = 0) (hb : badL b = 0) (q : Nat) (hq : q < 8) : leafN (mixU a b K 8) q = if K.contains (q : Int) = true then leafN a q else leafN b q := by
  obtain ⟨_, _, _, h4⟩ := mixU_props K ha hb 8
  have h5 := h4 q
  rw [if_pos hq] at h5
  unfold leafN
  rw [h5]
  unfold fromU
  by_cases hc : K.contains (q : Int) = true
  · rw [if_pos hc, if_pos hc]
  · rw [if_neg hc, if_neg hc]
/-- with a's entries of the keys told they part no more -/
theorem mixU_alike {a b : List En} (ha : badL a = 0) (hb : badL b = 0) : partK (leafN a) (leafN (mixU a b (partK (leafN a) (leafN b) 1) 8)) 1 = [] :=
  (part_alike (part_mended (leafN a) (leafN b) _ (fun q hq => mixU_leaf _ ha hb q hq)).symm).1
end Go.Proofs.YtliaidgedjjobaaDoor
