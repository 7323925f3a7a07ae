/-
  What put does to lists: a right cache stays one.
-/
import Derived.Test.YtbincnajklmnaaaPut
import Derived.Test.YtbincnajklmnaaaCaG
namespace Go.Proofs.Ytbincnajklmnaaa
set_option linter.unusedVariables false
set_option linter.unusedSimpArgs false
open Go.RowKit

theorem bad_key {e : En} (h : e.bad = 0) : 0 ≤ e.k ∧ e.k ≤ 7 := by
  unfold En.bad bad at h
  split at h
  · omega
  · rename_i h1
    simp [inR] at h1
    omega
theorem Rising.at {l : List En} (h : Rising l) (h0 : ∀ e ∈ l, 0 ≤ e.k) (j : Nat) (hj : j < l.length) : (j : Int) ≤ l[j].k := by
  induction j with
  | zero => exact h0 _ (List.getElem_mem _)
  | succ j ih =>
    have := ih (by omega)
    have := List.pairwise_iff_getElem.1 h j (j + 1) (by omega) hj (by omega)
    omega
theorem Rising.len {l : List En} (h : Rising l) (hb : ∀ e ∈ l, e.bad = 0) : l.length ≤ 8 := by
  rcases Nat.lt_or_ge 8 l.length with h8 | h8
  · have := h.at (fun e he => (bad_key (hb e he)).1) 8 h8
    have := (bad_key (hb l[8] (List.getElem_mem _))).2
    omega
  · exact h8
theorem GoodL.of {l : List En} (h : Rising l) (hb : ∀ e ∈ l, e.bad = 0) : GoodL l := ⟨h.len hb, hb, h⟩
theorem goodL_nil : GoodL [] := ⟨by simp, by simp, List.Pairwise.nil⟩

theorem joinE_ok {x y J : En} (h : joinE x y = (J, 0)) : x.bad = 0 ∧ y.bad = 0 ∧ x.k = y.k ∧ (J = x ∨ J = y) := by
  unfold joinE at h
  split at h
  · rename_i hb
    rw [Prod.mk.injEq] at h
    exact absurd h.2 hb
  · rename_i hb
    have hb : bad2 (bad x.k x.v x.a x.g x.t) (bad y.k y.v y.a y.g y.t) = 0 := by simpa using hb
    have hx : x.bad = 0 := by
      unfold bad2 at hb
      split at hb
      · assumption
      · rename_i h; exact absurd hb h
    have hy : y.bad = 0 := by
      unfold bad2 at hb
      rw [if_pos (show bad x.k x.v x.a x.g x.t = 0 from hx)] at hb
      exact hb
    split at h
    · simp at h
    · rename_i hk
      refine ⟨hx, hy, by simpa using hk, ?_⟩
      split at h
      · split at h
        · simp at h
        · simp at h; exact .inl h.symm
      · split at h
        · simp at h
        · simp at h; exact .inr h.symm

theorem getE_none {l : List En} {key : Int} (h : getE l key = none) : ∀ e ∈ l, e.k ≠ key := by
  intro e he hk
  rw [getE, List.find?_eq_none] at h
  exact h e he (by simpa using hk)
theorem rising_ins {l : List En} (h : Rising l) (x : En) (hn : getE l x.k = none) : Rising (l.take (placeE l x.k) ++ x :: l.drop (placeE l x.k)) := by
  unfold Rising
  rw [List.pairwise_append]
  refine ⟨List.Pairwise.sublist (List.take_sublist _ _) h, List.pairwise_cons.2 ⟨?_, List.Pairwise.sublist (List.drop_sublist _ _) h⟩, ?_⟩
  · intro y hy
    obtain ⟨j, hj, rfl⟩ := List.getElem_of_mem hy
    rw [List.length_drop] at hj
    rw [List.getElem_drop]
    have := placeE_more l x.k h (placeE l x.k + j) (by omega) (by omega)
    have := getE_none hn l[placeE l x.k + j] (List.getElem_mem _)
    omega
  · intro y hy z hz
    obtain ⟨j, hj, rfl⟩ := List.getElem_of_mem hy
    rw [List.length_take] at hj
    rw [List.getElem_take]
    have h1 := placeE_less l x.k j (by omega) (by omega)
    rcases List.mem_cons.1 hz with rfl | hz
    · exact h1
    · obtain ⟨i, hi, rfl⟩ := List.getElem_of_mem hz
      rw [List.length_drop] at hi
      rw [List.getElem_drop]
      have := placeE_more l x.k h (placeE l x.k + i) (by omega) (by omega)
      omega
theorem rising_set {l : List En} (h : Rising l) (m : Nat) (hm : m < l.length) (x : En) (hx : x.k = l[m].k) : Rising (l.set m x) := by
  unfold Rising
  rw [List.pairwise_iff_getElem]
  intro i j hi hj hij
  rw [List.length_set] at hi hj
  have := List.pairwise_iff_getElem.1 h i j hi hj hij
  rw [List.getElem_set, List.getElem_set]
  split
  · rename_i h1
    subst h1
    rw [if_neg (by omega), hx]
    exact this
  · split
    · rename_i h2
      subst h2
      rw [hx]
      exact this
    · exact this
theorem putE_good {l : List En} {e : En} (hg : GoodL l) (he : e.bad = 0) (h : (putE l e).2.2 = 0) : GoodL (putE l e).1 := by
  unfold putE at h ⊢
  cases hk : getE l e.k with
  | none =>
    simp only
    refine GoodL.of (rising_ins hg.rise e hk) ?_
    intro y hy
    rcases List.mem_append.1 hy with h1 | h1
    · exact hg.all y (List.mem_of_mem_take h1)
    · rcases List.mem_cons.1 h1 with rfl | h1
      · exact he
      · exact hg.all y (List.mem_of_mem_drop h1)
  | some x =>
    simp only [hk] at h ⊢
    split at h
    · rename_i hn; exact absurd h hn
    · rename_i hn
      rw [if_neg hn]
      have hn : (joinE x e).2 = 0 := by simpa using hn
      obtain ⟨hx, hy, hxy, hJ⟩ := joinE_ok (x := x) (y := e) (J := (joinE x e).1) (by rw [← hn])
      obtain ⟨hm, hmx, hmk⟩ := getE_some hg.rise hk
      refine GoodL.of (rising_set hg.rise _ hm _ ?_) ?_
      · rw [hmx]
        rcases hJ with h' | h' <;> rw [h']
        exact hxy.symm
      · intro y hy'
        rcases List.mem_or_eq_of_mem_set hy' with h' | rfl
        · exact hg.all y h'
        · rcases hJ with h' | h' <;> rw [h'] <;> assumption

/-- Add, on lists -/
def cacheAdd (l : List En) (e : En) : List En × Bool × Int :=
  if badL l ≠ 0 then ([], false, badL l) else if e.bad ≠ 0 then ([], false, e.bad) else putE l e
/-- all of a row put -/
def allE : List En → List En → List En × Int
  | l, [] => (l, 0)
  | l, e :: b => if (putE l e).2.2 ≠ 0 then ([], (putE l e).2.2) else allE (putE l e).1 b
/-- Both, on lists -/
def cacheBoth (a b : List En) : List En × Int :=
  if badL a ≠ 0 then ([], badL a) else if badL b ≠ 0 then ([], badL b) else allE a b
theorem allE_step {l b : List En} {j : Nat} (hj : j < b.length) : allE l (b.drop j) = if (putE l b[j]).2.2 ≠ 0 then ([], (putE l b[j]).2.2) else allE (putE l b[j]).1 (b.drop (j + 1)) := by
  rw [List.drop_eq_getElem_cons hj, allE]
theorem allE_good {l b : List En} (hg : GoodL l) (hb : ∀ e ∈ b, e.bad = 0) (h : (allE l b).2 = 0) : GoodL (allE l b).1 := by
  induction b generalizing l with
  | nil => exact hg
  | cons e b ih =>
    rw [allE] at h ⊢
    by_cases hn : (putE l e).2.2 = 0
    · rw [if_neg (by simpa using hn)] at h ⊢
      exact ih (putE_good hg (hb e (by simp)) hn) (fun x hx => hb x (by simp [hx])) h
    · rw [if_pos hn] at h
      exact absurd h hn
end Go.Proofs.Ytbincnajklmnaaa
