/-
  A view on lists: where a node lies, and what is put there.
-/
import Derived.Test.YtpelbmhhppcmeaeVwP
namespace Go.Proofs.Ytpelbmhhppcmeae
set_option linter.unusedVariables false
set_option linter.unusedSimpArgs false
open Go.RowKit

/-- how many nodes of a rising row are less -/
def placeM : List Mm → Int → Nat
  | [], _ => 0
  | e :: l, k => if e.n < k then placeM l k + 1 else 0
theorem placeM_le (l : List Mm) (k : Int) : placeM l k ≤ l.length := by
  induction l with
  | nil => simp [placeM]
  | cons e l ih => simp only [placeM]; split <;> simp <;> omega
theorem placeM_less (l : List Mm) (k : Int) (j : Nat) (hj : j < l.length) (h : j < placeM l k) : l[j].n < k := by
  induction l generalizing j with
  | nil => simp at hj
  | cons e l ih =>
    simp only [placeM] at h
    split at h
    · cases j with
      | zero => simpa
      | succ j => exact ih j (by simpa using hj) (by omega)
    · omega
theorem placeM_more (l : List Mm) (k : Int) (hs : RiseM l) (j : Nat) (hj : j < l.length) (h : placeM l k ≤ j) : k ≤ l[j].n := by
  induction l generalizing j with
  | nil => simp at hj
  | cons e l ih =>
    have hs' := List.pairwise_cons.1 hs
    simp only [placeM] at h
    split at h
    · cases j with
      | zero => omega
      | succ j => exact ih hs'.2 j (by simpa using hj) (by omega)
    · cases j with
      | zero => simp; omega
      | succ j =>
        have hj' : j < l.length := by simpa using hj
        have := hs'.1 l[j] (List.getElem_mem _)
        simp only [List.getElem_cons_succ]
        omega
theorem getM_place (l : List Mm) (k : Int) (hs : RiseM l) : (∃ hj : placeM l k < l.length, l[placeM l k].n = k) ↔ (getM l k).isSome = true := by
  constructor
  · rintro ⟨hj, h⟩
    rw [getM, List.find?_isSome]
    exact ⟨_, List.getElem_mem hj, by simpa using h⟩
  · intro h
    rw [getM, List.find?_isSome] at h
    obtain ⟨x, hx, hk⟩ := h
    obtain ⟨j, hj, rfl⟩ := List.getElem_of_mem hx
    have hk : l[j].n = k := by simpa using hk
    have h1 : placeM l k ≤ j := by
      rcases Nat.lt_or_ge j (placeM l k) with h | h
      · have := placeM_less l k j hj h; omega
      · exact h
    have h2 : placeM l k < l.length := by omega
    refine ⟨h2, ?_⟩
    have h3 := placeM_more l k hs _ h2 (Nat.le_refl _)
    rcases Nat.lt_or_ge (placeM l k) j with h | h
    · have := List.pairwise_iff_getElem.1 hs _ _ h2 hj h
      omega
    · have : placeM l k = j := by omega
      simp only [this]; exact hk
theorem getM_some {l : List Mm} {k : Int} {x : Mm} (hs : RiseM l) (h : getM l k = some x) : ∃ hj : placeM l k < l.length, l[placeM l k] = x ∧ x.n = k := by
  obtain ⟨hj, hk⟩ := (getM_place l k hs).2 (by rw [h]; rfl)
  refine ⟨hj, ?_, (getM_mem h).2⟩
  obtain ⟨i, hi, rfl⟩ := List.getElem_of_mem (getM_mem h).1
  have hx : l[i].n = k := (getM_mem h).2
  rcases Nat.lt_trichotomy (placeM l k) i with h' | h' | h'
  · have := List.pairwise_iff_getElem.1 hs _ _ hj hi h'; omega
  · simp only [h']
  · have := List.pairwise_iff_getElem.1 hs _ _ hi hj h'; omega
/-- a member put that is not there -/
theorem addM_none {m : Mm} : ∀ {l : List Mm}, RiseM l → getM l m.n = none → addM m l = l.take (placeM l m.n) ++ m :: l.drop (placeM l m.n) := by
  intro l
  induction l with
  | nil => intro _ _; rfl
  | cons y l ih =>
    intro hr h
    obtain ⟨h1, h2⟩ := List.pairwise_cons.1 hr
    rw [getM_cons] at h
    rw [addM, placeM]
    by_cases he : y.n = m.n
    · rw [if_pos he] at h
      cases h
    · rw [if_neg he] at h ⊢
      by_cases hl : m.n < y.n
      · rw [if_pos hl, if_neg (by omega)]
        rfl
      · rw [if_neg hl, if_pos (by omega), ih h2 h]
        rfl
/-- a member put that is there, and older -/
theorem addM_some {m x : Mm} : ∀ {l : List Mm}, RiseM l → getM l m.n = some x → nwB m x = true → addM m l = l.set (placeM l m.n) m := by
  intro l
  induction l with
  | nil => intro _ h; cases h
  | cons y l ih =>
    intro hr h hn
    obtain ⟨h1, h2⟩ := List.pairwise_cons.1 hr
    rw [getM_cons] at h
    rw [addM, placeM]
    by_cases he : y.n = m.n
    · rw [if_pos he] at h ⊢
      obtain rfl := Option.some.inj h
      rw [if_pos hn, if_neg (by omega)]
      rfl
    · rw [if_neg he] at h ⊢
      have hx := (getM_mem h)
      have := h1 x hx.1
      rw [if_neg (by omega), if_pos (by omega), ih h2 h hn]
      rfl
theorem isM_none {m : Mm} {l : List Mm} (h : getM l m.n = none) : isM m l = true := by
  unfold isM
  rw [h]
theorem isM_some {m x : Mm} {l : List Mm} (h : getM l m.n = some x) : isM m l = nwB m x := by
  unfold isM
  rw [h]
theorem addM_len {m : Mm} : ∀ {l : List Mm}, (addM m l).length ≤ l.length + 1 := by
  intro l
  induction l with
  | nil => simp [addM]
  | cons y l ih =>
    rw [addM]
    split
    · split <;> simp
    · split
      · simp
      · simpa using ih
/-- what is put into an answer -/
theorem ansM_set {l : List Mm} {node : Int} {x : Mm} : RiseM l → getM l node = some x → ansM l node = l.set (placeM l node) (upM x) := by
  induction l with
  | nil => intro _ h; cases h
  | cons y l ih =>
    intro hr h
    obtain ⟨h1, h2⟩ := List.pairwise_cons.1 hr
    rw [getM_cons] at h
    have e : ansM (y :: l) node = (if y.n = node then upM y else y) :: ansM l node := rfl
    rw [e, placeM]
    by_cases he : y.n = node
    · rw [if_pos he] at h ⊢
      obtain rfl := Option.some.inj h
      have e2 : ansM l node = l := by
        unfold ansM
        refine List.map_congr_left (g := id) (fun z hz => ?_) |>.trans (List.map_id l)
        have := h1 z hz
        rw [if_neg (by omega)]
        rfl
      rw [e2, if_neg (by omega)]
      rfl
    · rw [if_neg he] at h ⊢
      have hx := getM_mem h
      have := h1 x hx.1
      rw [if_pos (by omega), ih h2 h]
      rfl
theorem set_self {l : List Mm} {m : Nat} (hm : m < l.length) {x : Mm} (h : l[m] = x) : l.set m x = l := by
  subst h
  exact List.set_getElem_self hm
theorem upM_self {x : Mm} (h : x.s = 0) : upM x = x := by
  unfold upM
  rw [if_pos h]
theorem upM_up {x : Mm} (h : x.s ≠ 0) : upM x = ⟨x.n, x.f + 1, 0⟩ := by
  unfold upM
  rw [if_neg h]
theorem ansM_self {l : List Mm} {node : Int} {x : Mm} (hr : RiseM l) (h : getM l node = some x) (hs : x.s = 0) : ansM l node = l := by
  obtain ⟨hj, hx, _⟩ := getM_some hr h
  rw [ansM_set hr h, upM_self hs, set_self hj hx]
theorem badVF_step (l : List Mm) (j : Nat) (p : Option Int) (h : j < l.length) : badVF p (l.drop j) = if l[j].ok = false then 1 else if aftB p l[j].n = true then 3 else badVF (some l[j].n) (l.drop (j + 1)) := by
  rw [List.drop_eq_getElem_cons h, badVF_cons]
theorem badVF_bad {l : List Mm} {j : Nat} {p : Option Int} (h : j < l.length) (hb : l[j].ok = false) : badVF p (l.drop j) = 1 := by rw [badVF_step l j p h, if_pos hb]
theorem badVF_low {l : List Mm} {j : Nat} {q : Int} (h : j < l.length) (hb : l[j].ok = true) (hk : l[j].n ≤ q) : badVF (some q) (l.drop j) = 3 := by rw [badVF_step l j _ h, if_neg (by rw [hb]; simp), if_pos (by simpa [aftB] using hk)]
theorem badVF_next {l : List Mm} {j : Nat} {q : Int} (h : j < l.length) (hb : l[j].ok = true) (hk : ¬ l[j].n ≤ q) : badVF (some q) (l.drop j) = badVF (some l[j].n) (l.drop (j + 1)) := by rw [badVF_step l j _ h, if_neg (by rw [hb]; simp), if_neg (by simpa [aftB] using hk)]
theorem badVF_first {l : List Mm} {j : Nat} (h : j < l.length) (hb : l[j].ok = true) : badVF none (l.drop j) = badVF (some l[j].n) (l.drop (j + 1)) := by rw [badVF_step l j _ h, if_neg (by rw [hb]; simp), if_neg (by simp [aftB])]
/-- the node ahead of a place -/
def nodeAhead (l : List Mm) (j : Nat) : Option Int := if h : 0 < j ∧ j - 1 < l.length then some (l[j - 1]'h.2).n else none
theorem nodeAhead_zero (l : List Mm) : nodeAhead l 0 = none := by simp [nodeAhead]
theorem nodeAhead_succ (l : List Mm) (j : Nat) (h : j < l.length) : nodeAhead l (j + 1) = some l[j].n := by simp [nodeAhead, h]
end Go.Proofs.Ytpelbmhhppcmeae
