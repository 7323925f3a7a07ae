/-
  What put leaves of a key.
-/
import Derived.Test.YtliaidgedjjobaaCaM
namespace Go.Proofs.Ytliaidgedjjobaa
set_option linter.unusedVariables false
set_option linter.unusedSimpArgs false
open Go.RowKit

theorem getE_iff {l : List En} (hr : Rising l) {k : Int} {x : En} : getE l k = some x ↔ x ∈ l ∧ x.k = k := by
  constructor
  · intro h
    exact ⟨List.mem_of_find?_eq_some h, by simpa using List.find?_some h⟩
  · rintro ⟨hx, hk⟩
    cases hg : getE l k with
    | none => exact absurd hk (getE_none hg x hx)
    | some y =>
      have hy : y ∈ l := List.mem_of_find?_eq_some hg
      have hyk : y.k = k := by simpa using List.find?_some hg
      obtain ⟨i, hi, rfl⟩ := List.getElem_of_mem hx
      obtain ⟨j, hj, rfl⟩ := List.getElem_of_mem hy
      rcases Nat.lt_trichotomy i j with h | h | h
      · have := List.pairwise_iff_getElem.1 hr _ _ hi hj h; omega
      · subst h; rfl
      · have := List.pairwise_iff_getElem.1 hr _ _ hj hi h; omega
theorem opt_ext {a b : Option En} (h : ∀ x, a = some x ↔ b = some x) : a = b := by
  cases a with
  | none =>
    cases b with
    | none => rfl
    | some y => exact absurd ((h y).2 rfl) (by simp)
  | some x => exact ((h x).1 rfl).symm
/-- what put leaves of a key -/
theorem getE_put {l : List En} {e : En} (hg : GoodL l) (he : e.bad = 0) (h : (putE l e).2.2 = 0) (k : Int) :
    getE (putE l e).1 k = if k = e.k then (match getE l e.k with | none => some e | some a => some (joinE a e).1) else getE l k := by
  have hgood := putE_good hg he h
  apply opt_ext
  intro x
  rw [getE_iff hgood.rise]
  unfold putE at h ⊢
  cases hk : getE l e.k with
  | none =>
    simp only [hk]
    have hn := getE_none hk
    have hmem : x ∈ l.take (placeE l e.k) ++ e :: l.drop (placeE l e.k) ↔ x = e ∨ x ∈ l := by
      rw [List.mem_append, List.mem_cons]
      constructor
      · rintro (h | h | h)
        · exact .inr (List.mem_of_mem_take h)
        · exact .inl h
        · exact .inr (List.mem_of_mem_drop h)
      · rintro (h | h)
        · exact .inr (.inl h)
        · rw [← List.take_append_drop (placeE l e.k) l] at h
          rcases List.mem_append.1 h with h | h
          · exact .inl h
          · exact .inr (.inr h)
    rw [hmem]
    by_cases hke : k = e.k
    · rw [if_pos hke]
      constructor
      · rintro ⟨h1 | h1, h2⟩
        · rw [h1]
        · exact absurd (h2.trans hke) (hn x h1)
      · intro h1
        have h1 : e = x := by simpa using h1
        exact ⟨.inl h1.symm, by rw [← h1, hke]⟩
    · rw [if_neg hke, getE_iff hg.rise]
      constructor
      · rintro ⟨h1 | h1, h2⟩
        · rw [h1] at h2; exact absurd h2.symm hke
        · exact ⟨h1, h2⟩
      · rintro ⟨h1, h2⟩
        exact ⟨.inr h1, h2⟩
  | some a =>
    simp only [hk] at h ⊢
    have hn : (joinE a e).2 = 0 := by
      by_cases hz : (joinE a e).2 = 0
      · exact hz
      · rw [if_pos hz] at h; exact absurd h hz
    rw [if_neg (by simpa using hn)]
    obtain ⟨ha, _, hae, hJ⟩ := joinE_ok (x := a) (y := e) (J := (joinE a e).1) (by rw [← hn])
    obtain ⟨hm, hma, hmk⟩ := getE_some hg.rise hk
    have hJk : (joinE a e).1.k = e.k := by rcases hJ with h' | h' <;> rw [h']; exact hae
    generalize (joinE a e).1 = J at hJk ⊢
    have hJm : J ∈ l.set (placeE l e.k) J := List.mem_iff_getElem.2 ⟨placeE l e.k, by simpa using hm, by simp⟩
    by_cases hke : k = e.k
    · rw [if_pos hke]
      constructor
      · rintro ⟨h1, h2⟩
        rcases List.mem_or_eq_of_mem_set h1 with h3 | h3
        · obtain ⟨i, hi, rfl⟩ := List.getElem_of_mem h1
          rw [List.length_set] at hi
          rw [List.getElem_set] at h2 ⊢
          split
          · rfl
          · rename_i hne
            rw [if_neg hne] at h2
            have h4 : l[i].k = l[placeE l e.k].k := by rw [h2, hma, hmk, hke]
            rcases Nat.lt_trichotomy i (placeE l e.k) with h' | h' | h'
            · have := List.pairwise_iff_getElem.1 hg.rise _ _ hi hm h'; omega
            · exact absurd h'.symm hne
            · have := List.pairwise_iff_getElem.1 hg.rise _ _ hm hi h'; omega
        · rw [h3]
      · intro h1
        have h1 : J = x := by simpa using h1
        exact ⟨by rw [← h1]; exact hJm, by rw [← h1, hJk, hke]⟩
    · rw [if_neg hke, getE_iff hg.rise]
      constructor
      · rintro ⟨h1, h2⟩
        rcases List.mem_or_eq_of_mem_set h1 with h3 | h3
        · exact ⟨h3, h2⟩
        · rw [h3, hJk] at h2; exact absurd h2.symm hke
      · rintro ⟨h1, h2⟩
        refine ⟨?_, h2⟩
        obtain ⟨i, hi, rfl⟩ := List.getElem_of_mem h1
        refine List.mem_iff_getElem.2 ⟨i, by simpa using hi, ?_⟩
        rw [List.getElem_set, if_neg]
        intro h'
        have : l[i].k = e.k := by simp only [← h']; rw [hma]; exact hmk
        omega

end Go.Proofs.Ytliaidgedjjobaa
