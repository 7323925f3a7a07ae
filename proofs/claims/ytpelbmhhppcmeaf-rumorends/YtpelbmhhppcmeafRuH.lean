/-
  Rumors on lists: what is wrong with some, and one that is heard.
-/
import Derived.Test.YtpelbmhhppcmeafRuP
namespace Go.Proofs.Ytpelbmhhppcmeaf
set_option linter.unusedVariables false
set_option linter.unusedSimpArgs false
open Go.RowKit

def Ru.ok (r : Ru) : Bool := r.m.ok && inR r.t 0 60
theorem Ru.ok_iff (r : Ru) : r.ok = true ↔ ((0 ≤ r.m.n ∧ r.m.n ≤ 5) ∧ (0 ≤ r.m.f ∧ r.m.f ≤ 100) ∧ (0 ≤ r.m.s ∧ r.m.s ≤ 2)) ∧ 0 ≤ r.t ∧ r.t ≤ 60 := by
  rw [Ru.ok, Bool.and_eq_true, Mm.ok_iff]
  simp [inR]
/-- what is wrong with rumors one by one, behind a node -/
def badRF : Option Int → List Ru → Int
  | _, [] => 0
  | q, m :: l => if m.ok = false then 1 else if (match q with | some k => decide (m.m.n ≤ k) | none => false) = true then 3 else badRF (some m.m.n) l
/-- what is wrong with rumors -/
def badR (l : List Ru) : Int := if 6 < l.length then 4 else badRF none l
def GoodR (l : List Ru) : Prop := RiseR l ∧ ∀ x ∈ l, x.ok = true
/-- the rumor of a node -/
def getU (l : List Ru) (k : Int) : Option Ru := l.find? (fun x => x.m.n == k)
/-- one that is newer, or whose node is not there, is there now, never told -/
def hearU (m : Mm) : List Ru → List Ru
  | [] => [⟨m, 0⟩]
  | x :: l => if x.m.n = m.n then (if nwB m x.m = true then ⟨m, 0⟩ :: l else x :: l) else if m.n < x.m.n then ⟨m, 0⟩ :: x :: l else x :: hearU m l
/-- is it there now? -/
def isU (m : Mm) (l : List Ru) : Bool := match getU l m.n with
  | none => true
  | some x => nwB m x.m
theorem getU_none {l : List Ru} {k : Int} (h : ∀ x ∈ l, x.m.n ≠ k) : getU l k = none := by
  unfold getU
  rw [List.find?_eq_none]
  intro x hx
  simpa using h x hx
theorem getU_cons (x : Ru) (l : List Ru) (k : Int) : getU (x :: l) k = if x.m.n = k then some x else getU l k := by
  unfold getU
  by_cases h : x.m.n = k
  · rw [List.find?_cons_of_pos (by simpa using h), if_pos h]
  · rw [List.find?_cons_of_neg (by simpa using h), if_neg h]
theorem getU_mem {l : List Ru} {k : Int} {x : Ru} (h : getU l k = some x) : x ∈ l ∧ x.m.n = k := by
  unfold getU at h
  exact ⟨List.mem_of_find?_eq_some h, by simpa using List.find?_some h⟩
theorem badRF_cons (q : Option Int) (m : Ru) (l : List Ru) : badRF q (m :: l) = if m.ok = false then 1 else if aftB q m.m.n = true then 3 else badRF (some m.m.n) l := by
  cases q <;> rfl
theorem badRF_good : ∀ {l : List Ru} {q : Option Int}, badRF q l = 0 → GoodR l ∧ ∀ k, q = some k → ∀ x ∈ l, k < x.m.n := by
  intro l
  induction l with
  | nil => intro q _; exact ⟨⟨List.Pairwise.nil, fun x hx => by cases hx⟩, fun k _ x hx => by cases hx⟩
  | cons m l ih =>
    intro q h
    rw [badRF_cons] at h
    split at h
    · cases h
    · rename_i h1
      split at h
      · cases h
      · rename_i h2
        obtain ⟨⟨a1, a2⟩, a3⟩ := ih h
        refine ⟨⟨List.pairwise_cons.2 ⟨fun x hx => a3 m.m.n rfl x hx, a1⟩, fun x hx => ?_⟩, fun k hk x hx => ?_⟩
        · rcases List.mem_cons.1 hx with rfl | hx
          · simpa using h1
          · exact a2 x hx
        · subst hk
          have h3 : k < m.m.n := by
            have : ¬ m.m.n ≤ k := by simpa [aftB] using h2
            omega
          rcases List.mem_cons.1 hx with rfl | hx
          · exact h3
          · have := a3 m.m.n rfl x hx
            omega
theorem good_badRF : ∀ {l : List Ru} {q : Option Int}, GoodR l → (∀ k, q = some k → ∀ x ∈ l, k < x.m.n) → badRF q l = 0 := by
  intro l
  induction l with
  | nil => intro q _ _; rfl
  | cons m l ih =>
    intro q h hq
    obtain ⟨h1, h2⟩ := List.pairwise_cons.1 h.1
    rw [badRF_cons, if_neg (by rw [h.2 m (by simp)]; simp), if_neg]
    · exact ih ⟨h2, fun x hx => h.2 x (List.mem_cons_of_mem _ hx)⟩ (fun k hk x hx => by cases hk; exact h1 x hx)
    · cases q with
      | none => simp [aftB]
      | some k =>
        have := hq k rfl m (by simp)
        simp [aftB]
        omega
theorem riseR_len : ∀ {l : List Ru} {c : Nat}, RiseR l → (∀ x ∈ l, (c : Int) ≤ x.m.n ∧ x.m.n ≤ 5) → l.length + c ≤ 6 ∨ l = [] := by
  intro l
  induction l with
  | nil => intro c _ _; exact .inr rfl
  | cons m l ih =>
    intro c hr h
    left
    obtain ⟨h1, h2⟩ := List.pairwise_cons.1 hr
    have hm := h m (by simp)
    have h0 : ∀ x ∈ l, ((c + 1 : Nat) : Int) ≤ x.m.n ∧ x.m.n ≤ 5 := fun x hx => by
      have := h1 x hx
      have := h x (List.mem_cons_of_mem _ hx)
      omega
    rcases ih h2 h0 with h3 | rfl
    · rw [List.length_cons]
      omega
    · rw [List.length_singleton]
      omega
theorem goodR_len {l : List Ru} (h : GoodR l) : l.length ≤ 6 := by
  rcases riseR_len (c := 0) h.1 (fun x hx => by have := (Ru.ok_iff x).1 (h.2 x hx); omega) with h | rfl
  · omega
  · simp
theorem badR_good {l : List Ru} (h : badR l = 0) : GoodR l := by
  unfold badR at h
  split at h
  · cases h
  · exact (badRF_good h).1
theorem good_badR {l : List Ru} (h : GoodR l) : badR l = 0 := by
  unfold badR
  have := goodR_len h
  rw [if_neg (by omega)]
  exact good_badRF h (fun k hk => by cases hk)
/-- how many nodes of a rising row are less -/
def placeU : List Ru → Int → Nat
  | [], _ => 0
  | e :: l, k => if e.m.n < k then placeU l k + 1 else 0
theorem placeU_le (l : List Ru) (k : Int) : placeU l k ≤ l.length := by
  induction l with
  | nil => simp [placeU]
  | cons e l ih => simp only [placeU]; split <;> simp <;> omega
theorem placeU_less (l : List Ru) (k : Int) (j : Nat) (hj : j < l.length) (h : j < placeU l k) : l[j].m.n < k := by
  induction l generalizing j with
  | nil => simp at hj
  | cons e l ih =>
    simp only [placeU] at h
    split at h
    · cases j with
      | zero => simpa
      | succ j => exact ih j (by simpa using hj) (by omega)
    · omega
theorem placeU_more (l : List Ru) (k : Int) (hs : RiseR l) (j : Nat) (hj : j < l.length) (h : placeU l k ≤ j) : k ≤ l[j].m.n := by
  induction l generalizing j with
  | nil => simp at hj
  | cons e l ih =>
    have hs' := List.pairwise_cons.1 hs
    simp only [placeU] at h
    split at h
    · cases j with
      | zero => omega
      | succ j => exact ih hs'.2 j (by simpa using hj) (by omega)
    · cases j with
      | zero => simp; omega
      | succ j =>
        have hj' : j < l.length := by simpa using hj
        have := hs'.1 l[j] (List.getElem_mem _)
        simp only [List.getElem_cons_succ]
        omega
theorem getU_place (l : List Ru) (k : Int) (hs : RiseR l) : (∃ hj : placeU l k < l.length, l[placeU l k].m.n = k) ↔ (getU l k).isSome = true := by
  constructor
  · rintro ⟨hj, h⟩
    rw [getU, List.find?_isSome]
    exact ⟨_, List.getElem_mem hj, by simpa using h⟩
  · intro h
    rw [getU, List.find?_isSome] at h
    obtain ⟨x, hx, hk⟩ := h
    obtain ⟨j, hj, rfl⟩ := List.getElem_of_mem hx
    have hk : l[j].m.n = k := by simpa using hk
    have h1 : placeU l k ≤ j := by
      rcases Nat.lt_or_ge j (placeU l k) with h | h
      · have := placeU_less l k j hj h; omega
      · exact h
    have h2 : placeU l k < l.length := by omega
    refine ⟨h2, ?_⟩
    have h3 := placeU_more l k hs _ h2 (Nat.le_refl _)
    rcases Nat.lt_or_ge (placeU l k) j with h | h
    · have := List.pairwise_iff_getElem.1 hs _ _ h2 hj h
      omega
    · have : placeU l k = j := by omega
      simp only [this]; exact hk
theorem getU_some {l : List Ru} {k : Int} {x : Ru} (hs : RiseR l) (h : getU l k = some x) : ∃ hj : placeU l k < l.length, l[placeU l k] = x ∧ x.m.n = k := by
  obtain ⟨hj, hk⟩ := (getU_place l k hs).2 (by rw [h]; rfl)
  refine ⟨hj, ?_, (getU_mem h).2⟩
  obtain ⟨i, hi, rfl⟩ := List.getElem_of_mem (getU_mem h).1
  have hx : l[i].m.n = k := (getU_mem h).2
  rcases Nat.lt_trichotomy (placeU l k) i with h' | h' | h'
  · have := List.pairwise_iff_getElem.1 hs _ _ hj hi h'; omega
  · simp only [h']
  · have := List.pairwise_iff_getElem.1 hs _ _ hi hj h'; omega
/-- a member put that is not there -/
theorem hearU_none {m : Mm} : ∀ {l : List Ru}, RiseR l → getU l m.n = none → hearU m l = l.take (placeU l m.n) ++ ⟨m, 0⟩ :: l.drop (placeU l m.n) := by
  intro l
  induction l with
  | nil => intro _ _; rfl
  | cons y l ih =>
    intro hr h
    obtain ⟨h1, h2⟩ := List.pairwise_cons.1 hr
    rw [getU_cons] at h
    rw [hearU, placeU]
    by_cases he : y.m.n = m.n
    · rw [if_pos he] at h
      cases h
    · rw [if_neg he] at h ⊢
      by_cases hl : m.n < y.m.n
      · rw [if_pos hl, if_neg (by omega)]
        rfl
      · rw [if_neg hl, if_pos (by omega), ih h2 h]
        rfl
/-- a member put that is there, and older -/
theorem hearU_some {m : Mm} {x : Ru} : ∀ {l : List Ru}, RiseR l → getU l m.n = some x → nwB m x.m = true → hearU m l = l.set (placeU l m.n) ⟨m, 0⟩ := by
  intro l
  induction l with
  | nil => intro _ h; cases h
  | cons y l ih =>
    intro hr h hn
    obtain ⟨h1, h2⟩ := List.pairwise_cons.1 hr
    rw [getU_cons] at h
    rw [hearU, placeU]
    by_cases he : y.m.n = m.n
    · rw [if_pos he] at h ⊢
      obtain rfl := Option.some.inj h
      rw [if_pos hn, if_neg (by omega)]
      rfl
    · rw [if_neg he] at h ⊢
      have hx := (getU_mem h)
      have := h1 x hx.1
      rw [if_neg (by omega), if_pos (by omega), ih h2 h hn]
      rfl
theorem hearU_len {m : Mm} : ∀ {l : List Ru}, (hearU m l).length ≤ l.length + 1 := by
  intro l
  induction l with
  | nil => simp [hearU]
  | cons y l ih =>
    rw [hearU]
    split
    · split <;> simp
    · split
      · simp
      · simpa using ih
theorem isU_none {m : Mm} {l : List Ru} (h : getU l m.n = none) : isU m l = true := by
  unfold isU
  rw [h]
theorem isU_some {m : Mm} {x : Ru} {l : List Ru} (h : getU l m.n = some x) : isU m l = nwB m x.m := by
  unfold isU
  rw [h]
/-- of rumors that were never told it is as of a view -/
theorem hear_zero (m : Mm) : ∀ base : List Mm, hearU m (base.map (fun x => (⟨x, 0⟩ : Ru))) = (addM m base).map (fun x => (⟨x, 0⟩ : Ru)) := by
  intro base
  induction base with
  | nil => rfl
  | cons y base ih =>
    rw [List.map_cons, hearU, addM]
    dsimp only
    by_cases h1 : y.n = m.n
    · rw [if_pos h1, if_pos h1]
      split <;> rfl
    · rw [if_neg h1, if_neg h1]
      split
      · rfl
      · rw [ih]
        rfl
theorem zero_good {base : List Mm} (h : GoodV base) : GoodR (base.map (fun x => (⟨x, 0⟩ : Ru))) := by
  refine ⟨?_, fun r hr => ?_⟩
  · unfold RiseR
    rw [List.pairwise_map]
    exact h.1
  · obtain ⟨m, hm, rfl⟩ := List.mem_map.1 hr
    rw [Ru.ok, h.2 m hm]
    rfl
theorem badRF_step (l : List Ru) (j : Nat) (p : Option Int) (h : j < l.length) : badRF p (l.drop j) = if l[j].ok = false then 1 else if aftB p l[j].m.n = true then 3 else badRF (some l[j].m.n) (l.drop (j + 1)) := by
  rw [List.drop_eq_getElem_cons h, badRF_cons]
theorem badRF_bad {l : List Ru} {j : Nat} {p : Option Int} (h : j < l.length) (hb : l[j].ok = false) : badRF p (l.drop j) = 1 := by rw [badRF_step l j p h, if_pos hb]
theorem badRF_low {l : List Ru} {j : Nat} {q : Int} (h : j < l.length) (hb : l[j].ok = true) (hk : l[j].m.n ≤ q) : badRF (some q) (l.drop j) = 3 := by rw [badRF_step l j _ h, if_neg (by rw [hb]; simp), if_pos (by simpa [aftB] using hk)]
theorem badRF_next {l : List Ru} {j : Nat} {q : Int} (h : j < l.length) (hb : l[j].ok = true) (hk : ¬ l[j].m.n ≤ q) : badRF (some q) (l.drop j) = badRF (some l[j].m.n) (l.drop (j + 1)) := by rw [badRF_step l j _ h, if_neg (by rw [hb]; simp), if_neg (by simpa [aftB] using hk)]
theorem badRF_first {l : List Ru} {j : Nat} (h : j < l.length) (hb : l[j].ok = true) : badRF none (l.drop j) = badRF (some l[j].m.n) (l.drop (j + 1)) := by rw [badRF_step l j _ h, if_neg (by rw [hb]; simp), if_neg (by simp [aftB])]
/-- the node ahead of a place -/
def ruAhead (l : List Ru) (j : Nat) : Option Int := if h : 0 < j ∧ j - 1 < l.length then some (l[j - 1]'h.2).m.n else none
theorem ruAhead_zero (l : List Ru) : ruAhead l 0 = none := by simp [ruAhead]
theorem ruAhead_succ (l : List Ru) (j : Nat) (h : j < l.length) : ruAhead l (j + 1) = some l[j].m.n := by simp [ruAhead, h]
end Go.Proofs.Ytpelbmhhppcmeaf
