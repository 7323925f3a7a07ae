/-
  Both caches, key by key: either way round, and with one of both again.
  A mesh on lists: what its caches have was so; what put, delete, get and swap leave of it.
  errors.As, plain.Told and meresame.Error by their contracts, where the error is nil or an api.Errno: Told gives 0, or the number; Error tells whether that is the number asked for; nothing old in memory turns.
-/
import Derived.Test.YtpcnfoaoajfhlaaGreatDoorRaaf
import Derived.Test.YtpcnfoaoajfhlaaGreatDoorRaae
import Derived.Test.YtpcnfoaoajfhlaaGreatDoorRaaa
import Derived.Test.YtpcnfoaoajfhlaaGreatDoorRows
import Derived.WalkKit
import Derived.LaidEql
import Derived.Stop.Asserts
import Derived.RowKitTokens
import Derived.Handy
namespace Go.Proofs.YtpcnfoaoajfhlaaGreatDoor
set_option linter.unusedVariables false
set_option linter.unusedSimpArgs false
set_option linter.unusedVariables false
set_option linter.unusedSimpArgs false
open Go.RowKit

theorem getE_iff {l : List En} (hr : Rising l) {k : Int} {x : En} : getE l k = some x ↔ x ∈ l ∧ x.k = k := by
  constructor
  · intro h
    exact ⟨List.mem_of_find?_eq_some h, by simpa using List.find?_some h⟩
  · rintro ⟨hx, hk⟩
    cases hg : getE l k with
    | none => exact absurd hk (getE_none hg x hx)
    | some y =>
      have hy : y ∈ l := List.mem_of_find?_eq_some hg
      have hyk : y.k = k := by simpa using List.find?_some hg
      obtain ⟨i, hi, rfl⟩ := List.getElem_of_mem hx
      obtain ⟨j, hj, rfl⟩ := List.getElem_of_mem hy
      rcases Nat.lt_trichotomy i j with h | h | h
      · have := List.pairwise_iff_getElem.1 hr _ _ hi hj h; omega
      · subst h; rfl
      · have := List.pairwise_iff_getElem.1 hr _ _ hj hi h; omega
theorem opt_ext {a b : Option En} (h : ∀ x, a = some x ↔ b = some x) : a = b := by
  cases a with
  | none =>
    cases b with
    | none => rfl
    | some y => exact absurd ((h y).2 rfl) (by simp)
  | some x => exact ((h x).1 rfl).symm
/-- a rising row is told by its keys -/
theorem rising_ext {x y : List En} (hx : Rising x) (hy : Rising y) (h : ∀ k, getE x k = getE y k) : x = y := by
  have hm : ∀ e, e ∈ x ↔ e ∈ y := fun e => by
    have h1 := getE_iff hx (k := e.k) (x := e)
    have h2 := getE_iff hy (k := e.k) (x := e)
    rw [h e.k] at h1
    simp only [and_true] at h1 h2
    exact h1.symm.trans h2
  clear h
  induction x generalizing y with
  | nil =>
    cases y with
    | nil => rfl
    | cons e y => exact absurd ((hm e).2 (by simp)) (by simp)
  | cons a x ih =>
    cases y with
    | nil => exact absurd ((hm a).1 (by simp)) (by simp)
    | cons b y =>
      have hx' := List.pairwise_cons.1 hx
      have hy' := List.pairwise_cons.1 hy
      have hab : a = b := by
        rcases List.mem_cons.1 ((hm a).1 (by simp)) with h | h
        · exact h
        · rcases List.mem_cons.1 ((hm b).2 (by simp)) with h' | h'
          · exact h'.symm
          · have := hy'.1 a h
            have := hx'.1 b h'
            omega
      subst hab
      rw [ih hx'.2 hy'.2 (fun e => ?_)]
      constructor
      · intro he
        rcases List.mem_cons.1 ((hm e).1 (by simp [he])) with h | h
        · subst h
          have := hx'.1 e he
          omega
        · exact h
      · intro he
        rcases List.mem_cons.1 ((hm e).2 (by simp [he])) with h | h
        · subst h
          have := hy'.1 e he
          omega
        · exact h

/-- what put leaves of a key -/
theorem getE_put {l : List En} {e : En} (hg : GoodL l) (he : e.bad = 0) (h : (putE l e).2.2 = 0) (k : Int) :
    getE (putE l e).1 k = if k = e.k then (match getE l e.k with | none => some e | some a => some (joinE a e).1) else getE l k := by
  have hgood := putE_good hg he h
  apply opt_ext
  intro x
  rw [getE_iff hgood.rise]
  unfold putE at h ⊢
  cases hk : getE l e.k with
  | none =>
    simp only [hk]
    have hn := getE_none hk
    have hmem : x ∈ l.take (placeE l e.k) ++ e :: l.drop (placeE l e.k) ↔ x = e ∨ x ∈ l := by
      rw [List.mem_append, List.mem_cons]
      constructor
      · rintro (h | h | h)
        · exact .inr (List.mem_of_mem_take h)
        · exact .inl h
        · exact .inr (List.mem_of_mem_drop h)
      · rintro (h | h)
        · exact .inr (.inl h)
        · rw [← List.take_append_drop (placeE l e.k) l] at h
          rcases List.mem_append.1 h with h | h
          · exact .inl h
          · exact .inr (.inr h)
    rw [hmem]
    by_cases hke : k = e.k
    · rw [if_pos hke]
      constructor
      · rintro ⟨h1 | h1, h2⟩
        · rw [h1]
        · exact absurd (h2.trans hke) (hn x h1)
      · intro h1
        have h1 : e = x := by simpa using h1
        exact ⟨.inl h1.symm, by rw [← h1, hke]⟩
    · rw [if_neg hke, getE_iff hg.rise]
      constructor
      · rintro ⟨h1 | h1, h2⟩
        · rw [h1] at h2; exact absurd h2.symm hke
        · exact ⟨h1, h2⟩
      · rintro ⟨h1, h2⟩
        exact ⟨.inr h1, h2⟩
  | some a =>
    simp only [hk] at h ⊢
    have hn : (joinE a e).2 = 0 := by
      by_cases hz : (joinE a e).2 = 0
      · exact hz
      · rw [if_pos hz] at h; exact absurd h hz
    rw [if_neg (by simpa using hn)]
    obtain ⟨ha, _, hae, hJ⟩ := joinE_ok (x := a) (y := e) (J := (joinE a e).1) (by rw [← hn])
    obtain ⟨hm, hma, hmk⟩ := getE_some hg.rise hk
    have hJk : (joinE a e).1.k = e.k := by rcases hJ with h' | h' <;> rw [h']; exact hae
    generalize (joinE a e).1 = J at hJk ⊢
    have hJm : J ∈ l.set (placeE l e.k) J := List.mem_iff_getElem.2 ⟨placeE l e.k, by simpa using hm, by simp⟩
    by_cases hke : k = e.k
    · rw [if_pos hke]
      constructor
      · rintro ⟨h1, h2⟩
        rcases List.mem_or_eq_of_mem_set h1 with h3 | h3
        · obtain ⟨i, hi, rfl⟩ := List.getElem_of_mem h1
          rw [List.length_set] at hi
          rw [List.getElem_set] at h2 ⊢
          split
          · rfl
          · rename_i hne
            rw [if_neg hne] at h2
            have h4 : l[i].k = l[placeE l e.k].k := by rw [h2, hma, hmk, hke]
            rcases Nat.lt_trichotomy i (placeE l e.k) with h' | h' | h'
            · have := List.pairwise_iff_getElem.1 hg.rise _ _ hi hm h'; omega
            · exact absurd h'.symm hne
            · have := List.pairwise_iff_getElem.1 hg.rise _ _ hm hi h'; omega
        · rw [h3]
      · intro h1
        have h1 : J = x := by simpa using h1
        exact ⟨by rw [← h1]; exact hJm, by rw [← h1, hJk, hke]⟩
    · rw [if_neg hke, getE_iff hg.rise]
      constructor
      · rintro ⟨h1, h2⟩
        rcases List.mem_or_eq_of_mem_set h1 with h3 | h3
        · exact ⟨h3, h2⟩
        · rw [h3, hJk] at h2; exact absurd h2.symm hke
      · rintro ⟨h1, h2⟩
        refine ⟨?_, h2⟩
        obtain ⟨i, hi, rfl⟩ := List.getElem_of_mem h1
        refine List.mem_iff_getElem.2 ⟨i, by simpa using hi, ?_⟩
        rw [List.getElem_set, if_neg]
        intro h'
        have : l[i].k = e.k := by simp only [← h']; rw [hma]; exact hmk
        omega

/-- what two caches know of a key -/
def KnownAt : Option En → Option En → Option En → Prop
  | none, none, r => r = none
  | some a, none, r => r = some a
  | none, some b, r => r = some b
  | some a, some b, r => ∃ c, r = some c ∧ Known a b c
theorem KnownAt.comm {a b r : Option En} (h : KnownAt a b r) : KnownAt b a r := by
  cases a <;> cases b <;> simp only [KnownAt] at h ⊢
  · exact h
  · exact h
  · exact h
  · obtain ⟨c, h1, h2⟩ := h
    exact ⟨c, h1, h2.comm⟩
theorem KnownAt.left {a b r : Option En} (h : KnownAt a b r) : KnownAt r a r := by
  cases a <;> cases b <;> simp only [KnownAt] at h
  · subst h; rfl
  · subst h; rfl
  · subst h; exact ⟨_, rfl, Known.self _⟩
  · obtain ⟨c, rfl, h2⟩ := h
    exact ⟨c, rfl, h2.left⟩
theorem KnownAt.right {a b r : Option En} (h : KnownAt a b r) : KnownAt b r r := h.comm.left.comm
def Merged (a b x : List En) : Prop := ∀ k, KnownAt (getE a k) (getE b k) (getE x k)
theorem getE_cons_same {e : En} {b : List En} : getE (e :: b) e.k = some e := by simp [getE]
theorem getE_cons_other {e : En} {b : List En} {k : Int} (h : k ≠ e.k) : getE (e :: b) k = getE b k := by
  have : ¬ e.k = k := fun h' => h h'.symm
  simp [getE, this]
theorem getE_tail {e : En} {b : List En} (h : Rising (e :: b)) : getE b e.k = none := by
  cases hg : getE b e.k with
  | none => rfl
  | some y =>
    have h1 := (getE_iff (List.pairwise_cons.1 h).2).1 hg
    have := (List.pairwise_cons.1 h).1 y h1.1
    omega
theorem allE_merged {l b x : List En} (hl : GoodL l) (hb : Rising b) (hbb : ∀ e ∈ b, e.bad = 0) (h : allE l b = (x, 0)) : Merged l b x := by
  induction b generalizing l with
  | nil =>
    rw [allE] at h
    obtain rfl : l = x := by simpa using h
    intro k
    have : getE [] k = none := rfl
    rw [this]
    cases getE l k <;> rfl
  | cons e b ih =>
    rw [allE] at h
    by_cases hn : (putE l e).2.2 = 0
    · rw [if_neg (by simpa using hn)] at h
      have he := hbb e (by simp)
      have hm := ih (putE_good hl he hn) (List.pairwise_cons.1 hb).2 (fun y hy => hbb y (by simp [hy])) h
      intro k
      have hk := hm k
      rw [getE_put hl he hn] at hk
      by_cases hke : k = e.k
      · subst hke
        rw [if_pos rfl, getE_tail hb] at hk
        rw [getE_cons_same]
        cases ha : getE l e.k with
        | none => simp only [ha, KnownAt] at hk ⊢; exact hk
        | some a =>
          simp only [ha, KnownAt] at hk ⊢
          refine ⟨_, hk, ?_⟩
          have hj : joinE a e = ((joinE a e).1, 0) := by
            unfold putE at hn
            simp only [ha] at hn
            by_cases hz : (joinE a e).2 = 0
            · rw [← hz]
            · rw [if_pos hz] at hn; exact absurd hn hz
          exact (joinE_iff.1 hj).2.2
      · rw [if_neg hke] at hk
        rw [getE_cons_other hke]
        exact hk
    · rw [if_pos hn] at h
      simp only [Prod.mk.injEq] at h
      exact absurd h.2 hn
theorem merged_allE {l b x : List En} (hl : GoodL l) (hb : Rising b) (hbb : ∀ e ∈ b, e.bad = 0) (hx : Rising x) (h : Merged l b x) : allE l b = (x, 0) := by
  induction b generalizing l with
  | nil =>
    rw [allE]
    refine Prod.ext (rising_ext hl.rise hx fun k => ?_) rfl
    have hk := h k
    have hn : getE [] k = none := rfl
    rw [hn] at hk
    cases hc : getE l k with
    | none => rw [hc] at hk; simp only [KnownAt] at hk; rw [hk]
    | some a => rw [hc] at hk; simp only [KnownAt] at hk; rw [hk]
  | cons e b ih =>
    have he := hbb e (by simp)
    have hn : (putE l e).2.2 = 0 ∧ (∀ a, getE l e.k = some a → ∃ c, getE x e.k = some c ∧ (joinE a e).1 = c ∧ Known a e c) := by
      have hk := h e.k
      rw [getE_cons_same] at hk
      cases ha : getE l e.k with
      | none =>
        refine ⟨?_, by simp⟩
        unfold putE
        simp only [ha]
      | some a =>
        rw [ha] at hk
        simp only [KnownAt] at hk
        obtain ⟨c, hc, hkn⟩ := hk
        have hj : joinE a e = (c, 0) := joinE_iff.2 ⟨hl.all a ((getE_iff hl.rise).1 ha).1, he, hkn⟩
        refine ⟨?_, ?_⟩
        · unfold putE
          simp only [ha, hj]
          simp
        · intro a' ha'
          obtain rfl := Option.some.inj ha'
          exact ⟨c, hc, by rw [hj], hkn⟩
    rw [allE, if_neg (by simpa using hn.1)]
    refine ih (putE_good hl he hn.1) (List.pairwise_cons.1 hb).2 (fun y hy => hbb y (by simp [hy])) fun k => ?_
    rw [getE_put hl he hn.1]
    by_cases hke : k = e.k
    · subst hke
      rw [if_pos rfl, getE_tail hb]
      have hk := h e.k
      rw [getE_cons_same] at hk
      cases ha : getE l e.k with
      | none => rw [ha] at hk; simp only [KnownAt] at hk ⊢; exact hk
      | some a =>
        obtain ⟨c, hc, hj, _⟩ := hn.2 a ha
        simp only [KnownAt]
        rw [hc, hj]
    · rw [if_neg hke]
      have hk := h k
      rw [getE_cons_other hke] at hk
      exact hk

theorem both_good {a b x : List En} (h : cacheBoth a b = (x, 0)) : GoodL a ∧ GoodL b ∧ GoodL x ∧ Merged a b x := by
  unfold cacheBoth at h
  by_cases ha : badL a = 0
  · rw [if_neg (by simpa using ha)] at h
    by_cases hb : badL b = 0
    · rw [if_neg (by simpa using hb)] at h
      have ga := badL_good ha
      have gb := badL_good hb
      have gx := allE_good ga gb.all (by rw [h])
      rw [h] at gx
      exact ⟨ga, gb, gx, allE_merged ga gb.rise gb.all h⟩
    · rw [if_pos hb] at h
      simp only [Prod.mk.injEq] at h
      exact absurd h.2 hb
  · rw [if_pos ha] at h
    simp only [Prod.mk.injEq] at h
    exact absurd h.2 ha
theorem both_of {a b x : List En} (ha : GoodL a) (hb : GoodL b) (hx : GoodL x) (h : Merged a b x) : cacheBoth a b = (x, 0) := by
  rw [cacheBoth, if_neg (by simpa using ha.bad), if_neg (by simpa using hb.bad)]
  exact merged_allE ha hb.rise hb.all hx.rise h
theorem both_turn {a b x : List En} (h : cacheBoth a b = (x, 0)) : cacheBoth b a = (x, 0) := by
  obtain ⟨ga, gb, gx, hm⟩ := both_good h
  exact both_of gb ga gx fun k => (hm k).comm
theorem both_left {a b x : List En} (h : cacheBoth a b = (x, 0)) : cacheBoth x a = (x, 0) := by
  obtain ⟨ga, gb, gx, hm⟩ := both_good h
  exact both_of gx ga gx fun k => (hm k).left
theorem both_right {a b x : List En} (h : cacheBoth a b = (x, 0)) : cacheBoth b x = (x, 0) := by
  obtain ⟨ga, gb, gx, hm⟩ := both_good h
  exact both_of gb gx gx fun k => (hm k).right
theorem bad_span {e : En} (h : e.bad = 0) : e.v ≤ e.a := by
  unfold En.bad bad at h
  split at h
  · omega
  · rename_i h1
    simp [inR] at h1
    omega
end Go.Proofs.YtpcnfoaoajfhlaaGreatDoor

namespace Go.Proofs.YtpcnfoaoajfhlaaGreatDoor
set_option linter.unusedVariables false
set_option linter.unusedSimpArgs false
open Go.RowKit

/-- what the store tells of a key at a number -/
def wasE (l : List Deed) (k : Int) (s : Nat) : En := ⟨k, (lastOf (l.take s) k).ver, s, (lastOf (l.take s) k).gone, (lastOf (l.take s) k).text⟩
/-- it was so -/
def Was (l : List Deed) (x : En) : Prop := stK x.k = true ∧ ∃ s : Nat, s ≤ l.length ∧ x = wasE l x.k s
theorem was_mk {l : List Deed} {k : Int} {s : Nat} (hk : stK k = true) (hs : s ≤ l.length) : Was l (wasE l k s) := ⟨hk, s, hs, rfl⟩
theorem wasE_bad {l : List Deed} {k : Int} {s : Nat} (hl : Good l) (h1 : l.length ≤ 1000) (hk : stK k = true) (hs : s ≤ l.length) : (wasE l k s).bad = 0 := by
  have hv := lastOf_take_ver l k s
  obtain ⟨hg1, hg2⟩ := lastOf_good k (l.take s) (good_take l hl s)
  rw [stK_iff] at hk
  unfold En.bad wasE
  refine bad_none ?_ (by dsimp only; omega) ?_
  · simp [inR]
    omega
  · dsimp only
    cases hg : (lastOf (l.take s) k).gone
    · rfl
    · rw [hg2 hg, ByteArray.toList_eq]
      rfl
theorem Was.bad {l : List Deed} {x : En} (h : Was l x) (hl : Good l) (h1 : l.length ≤ 1000) : x.bad = 0 := by
  obtain ⟨hk, s, hs, he⟩ := h
  rw [he]
  exact wasE_bad hl h1 hk hs
theorem wasE_later {l m : List Deed} {k : Int} {s : Nat} (hs : s ≤ l.length) : wasE (l ++ m) k s = wasE l k s := by
  unfold wasE
  rw [lastOf_later l m k s hs]
theorem Was.later {l : List Deed} {x : En} (h : Was l x) (m : List Deed) : Was (l ++ m) x := by
  obtain ⟨hk, s, hs, he⟩ := h
  exact ⟨hk, s, by rw [List.length_append]; omega, by rw [wasE_later hs]; exact he⟩
theorem was_known {l : List Deed} (k : Int) {s q : Nat} (hq : q ≤ l.length) (h : s ≤ q) : Known (wasE l k s) (wasE l k q) (wasE l k q) := by
  refine ⟨rfl, ?_⟩
  by_cases hv : (lastOf (l.take q) k).ver ≤ s
  · have e := lastOf_between l k q s hq hv h
    refine .inr (.inl ⟨?_, ?_, ?_, ?_, rfl⟩)
    · show (lastOf (l.take s) k).ver = _; rw [e]; rfl
    · show (lastOf (l.take s) k).gone = _; rw [e]; rfl
    · show (lastOf (l.take s) k).text = _; rw [e]; rfl
    · show (s : Int) ≤ (q : Int); omega
  · have hs := lastOf_take_ver l k s
    refine .inr (.inr (.inr ⟨?_, ?_, rfl⟩))
    · show (lastOf (l.take s) k).ver < (lastOf (l.take q) k).ver; omega
    · show (s : Int) < (lastOf (l.take q) k).ver; omega
/-- two that were so do not clash -/
theorem was_join {l : List Deed} {x y : En} (hl : Good l) (h1 : l.length ≤ 1000) (hx : Was l x) (hy : Was l y) (hk : x.k = y.k) : ∃ z, joinE x y = (z, 0) ∧ Was l z ∧ (z = x ∨ z = y) ∧ x.a ≤ z.a ∧ y.a ≤ z.a := by
  have bx := hx.bad hl h1
  have bY := hy.bad hl h1
  have hx' := hx
  have hy' := hy
  obtain ⟨_, s, hs, ex⟩ := hx
  obtain ⟨_, q, hq, ey⟩ := hy
  rw [← hk] at ey
  rcases Nat.le_total s q with h | h
  · have K := was_known (l := l) x.k hq h
    rw [← ex, ← ey] at K
    refine ⟨y, joinE_iff.2 ⟨bx, bY, K⟩, hy', .inr rfl, ?_, Int.le_refl _⟩
    rw [ex, ey]
    show (s : Int) ≤ (q : Int)
    omega
  · have K := was_known (l := l) x.k hs h
    rw [← ex, ← ey] at K
    have K2 : Known x y x := K.comm
    refine ⟨x, joinE_iff.2 ⟨bx, bY, K2⟩, hx', .inl rfl, Int.le_refl _, ?_⟩
    rw [ex, ey]
    show (q : Int) ≤ (s : Int)
    omega
/-- a cache of what was so -/
structure GoodC (l : List Deed) (c : List En) : Prop where
  good : GoodL c
  was : ∀ x ∈ c, Was l x
theorem goodC_nil (l : List Deed) : GoodC l [] := ⟨goodL_nil, by simp⟩
theorem GoodC.later {l : List Deed} {c : List En} (h : GoodC l c) (m : List Deed) : GoodC (l ++ m) c := ⟨h.good, fun x hx => (h.was x hx).later m⟩
theorem put_was {l : List Deed} {c : List En} {e : En} (hl : Good l) (h1 : l.length ≤ 1000) (hc : GoodC l c) (he : Was l e) : (putE c e).2.2 = 0 ∧ GoodC l (putE c e).1 ∧ ∃ z, getE (putE c e).1 e.k = some z ∧ e.a ≤ z.a := by
  have be := he.bad hl h1
  have h0 : (putE c e).2.2 = 0 ∧ ∃ z, (match getE c e.k with | none => some e | some a => some (joinE a e).1) = some z ∧ Was l z ∧ e.a ≤ z.a := by
    unfold putE
    cases hg : getE c e.k with
    | none => exact ⟨rfl, e, rfl, he, Int.le_refl _⟩
    | some a =>
      have ha := (getE_iff hc.good.rise).1 hg
      obtain ⟨z, hz, hw, _, _, hle⟩ := was_join hl h1 (hc.was a ha.1) he ha.2
      refine ⟨by simp [hz], z, by simp [hz], hw, hle⟩
  obtain ⟨hz, z, hm, hw, hle⟩ := h0
  have hg' := putE_good hc.good be hz
  have hget := getE_put hc.good be hz
  refine ⟨hz, ⟨hg', fun x hx => ?_⟩, z, ?_, hle⟩
  · have hx' : getE (putE c e).1 x.k = some x := (getE_iff hg'.rise).2 ⟨hx, rfl⟩
    rw [hget] at hx'
    split at hx'
    · exact Option.some.inj (hm.symm.trans hx') ▸ hw
    · exact hc.was x ((getE_iff hc.good.rise).1 hx').1
  · rw [hget, if_pos rfl]
    exact hm
theorem all_was {l : List Deed} {c b : List En} (hl : Good l) (h1 : l.length ≤ 1000) (hc : GoodC l c) (hb : ∀ e ∈ b, Was l e) : ∃ x, allE c b = (x, 0) ∧ GoodC l x := by
  induction b generalizing c with
  | nil => exact ⟨c, rfl, hc⟩
  | cons e b ih =>
    obtain ⟨p1, p2, _⟩ := put_was hl h1 hc (hb e List.mem_cons_self)
    rw [allE, if_neg (by simpa using p1)]
    exact ih p2 (fun x hx => hb x (List.mem_cons_of_mem _ hx))
/-- all that a mesh has was so -/
structure GoodM (l : List Deed) (cs : List (List En)) : Prop where
  good : Good l
  len : l.length ≤ 1000
  all : ∀ c ∈ cs, GoodC l c
theorem goodM_new (n : Nat) : GoodM [] (List.replicate n []) := ⟨by intro d hd; simp at hd, by simp, fun c hc => by rw [List.eq_of_mem_replicate hc]; exact goodC_nil _⟩
def cacheN (cs : List (List En)) (node : Int) : List En := cs.getD node.toNat []
theorem GoodM.at {l : List Deed} {cs : List (List En)} (h : GoodM l cs) (node : Int) : GoodC l (cacheN cs node) := by
  unfold cacheN
  rw [List.getD_eq_getElem?_getD]
  cases hq : cs[node.toNat]? with
  | none => exact goodC_nil _
  | some c => exact h.all c (List.mem_of_getElem? hq)
theorem GoodM.set {l : List Deed} {cs : List (List En)} (h : GoodM l cs) (n : Nat) {c : List En} (hc : GoodC l c) : GoodM l (cs.set n c) :=
  ⟨h.good, h.len, fun x hx => by
    rcases List.mem_or_eq_of_mem_set hx with h' | h'
    · exact h.all x h'
    · rw [h']; exact hc⟩
theorem GoodM.later {l : List Deed} {cs : List (List En)} (h : GoodM l cs) {m : List Deed} (hg : Good (l ++ m)) (h1 : (l ++ m).length ≤ 1000) : GoodM (l ++ m) cs :=
  ⟨hg, h1, fun c hc => (h.all c hc).later m⟩

def nodeB (n : Nat) (node : Int) : Bool := decide (0 ≤ node) && decide (node < n)
theorem nodeB_iff {n : Nat} {node : Int} : nodeB n node = true ↔ 0 ≤ node ∧ node < n := by simp [nodeB]
/-- what a node's cache has when it has heard of a key -/
def learnC (l : List Deed) (c : List En) (key : Int) : List En := (putE c (wasE l key l.length)).1
def learnM (l : List Deed) (cs : List (List En)) (node key : Int) : List (List En) := cs.set node.toNat (learnC l (cacheN cs node) key)
/-- what put and delete leave -/
structure MOut where
  done : List Deed
  cs : List (List En)
  num : Int
  err : Int
def mDone (o : Out) (l : List Deed) (cs : List (List En)) (node key : Int) : MOut :=
  if nodeB cs.length node = false then ⟨l, cs, 0, 1⟩ else if o.err ≠ 0 then ⟨l, cs, 0, o.err⟩ else ⟨o.done, learnM o.done cs node key, o.num, 0⟩
def mPut (l : List Deed) (cs : List (List En)) (node key : Int) (t : ByteArray) : MOut := mDone (putO l key t) l cs node key
def mDel (l : List Deed) (cs : List (List En)) (node key : Int) : MOut := mDone (delO l key) l cs node key
theorem rec_fine {l : List Deed} {k : Int} {g : Bool} {t : ByteArray} (h : (recO l k g t).err = 0) : l.length < 1000 ∧ recO l k g t = ⟨l ++ [⟨k, g, t⟩], (l.length : Int) + 1, 0⟩ := by
  unfold recO at h ⊢
  split at h
  · cases h
  · rename_i hn
    exact ⟨by omega, by rw [if_neg hn]⟩
theorem put_fine {l : List Deed} {k : Int} {t : ByteArray} (h : (putO l k t).err = 0) : stK k = true ∧ t.size ≤ 12 ∧ l.length < 1000 ∧ putO l k t = ⟨l ++ [⟨k, false, t⟩], (l.length : Int) + 1, 0⟩ := by
  unfold putO at h ⊢
  split at h
  · cases h
  · rename_i hk
    split at h
    · cases h
    · rename_i h12
      rw [if_neg hk, if_neg h12]
      obtain ⟨h1, h2⟩ := rec_fine h
      exact ⟨by simpa using hk, by omega, h1, h2⟩
theorem del_fine {l : List Deed} {k : Int} (h : (delO l k).err = 0) : stK k = true ∧ l.length < 1000 ∧ delO l k = ⟨l ++ [⟨k, true, ByteArray.empty⟩], (l.length : Int) + 1, 0⟩ := by
  unfold delO at h ⊢
  split at h
  · cases h
  · rename_i hk
    split at h
    · cases h
    · rename_i hg
      rw [if_neg hk, if_neg hg]
      obtain ⟨h1, h2⟩ := rec_fine h
      exact ⟨by simpa using hk, h1, h2⟩
theorem learnC_good {l : List Deed} {c : List En} {key : Int} (hl : Good l) (h1 : l.length ≤ 1000) (hc : GoodC l c) (hk : stK key = true) : GoodC l (learnC l c key) := (put_was hl h1 hc (was_mk hk (Nat.le_refl _))).2.1
theorem learnC_add {l : List Deed} {c : List En} {key : Int} (hl : Good l) (h1 : l.length ≤ 1000) (hc : GoodC l c) (hk : stK key = true) : ∃ b, cacheAdd c (wasE l key l.length) = (learnC l c key, b, 0) := by
  have hw := was_mk hk (Nat.le_refl l.length)
  refine ⟨(putE c (wasE l key l.length)).2.1, ?_⟩
  rw [cacheAdd, if_neg (by simpa using hc.good.bad), if_neg (by simpa using hw.bad hl h1)]
  exact Prod.ext rfl (Prod.ext rfl (put_was hl h1 hc hw).1)
theorem GoodM.learn {l : List Deed} {cs : List (List En)} (h : GoodM l cs) (node : Int) {key : Int} (hk : stK key = true) : GoodM l (learnM l cs node key) :=
  h.set _ (learnC_good h.good h.len (h.at node) hk)
theorem mPut_good {l : List Deed} {cs : List (List En)} (h : GoodM l cs) (node key : Int) (t : ByteArray) : GoodM (mPut l cs node key t).done (mPut l cs node key t).cs := by
  unfold mPut mDone
  split
  · exact h
  · split
    · exact h
    · rename_i h0
      have h0 : (putO l key t).err = 0 := by simpa using h0
      obtain ⟨h1, h2, h3, h4⟩ := put_fine h0
      have hg := good_put l key t h.good
      rw [h4] at hg ⊢
      exact (h.later hg (by simp; omega)).learn node h1
theorem mDel_good {l : List Deed} {cs : List (List En)} (h : GoodM l cs) (node key : Int) : GoodM (mDel l cs node key).done (mDel l cs node key).cs := by
  unfold mDel mDone
  split
  · exact h
  · split
    · exact h
    · rename_i h0
      have h0 : (delO l key).err = 0 := by simpa using h0
      obtain ⟨h1, h3, h4⟩ := del_fine h0
      have hg := good_del l key h.good
      rw [h4] at hg ⊢
      exact (h.later hg (by simp; omega)).learn node h1
theorem learnM_len (l : List Deed) (cs : List (List En)) (node key : Int) : (learnM l cs node key).length = cs.length := by simp [learnM]
theorem mDone_len (o : Out) (l : List Deed) (cs : List (List En)) (node key : Int) : (mDone o l cs node key).cs.length = cs.length := by
  unfold mDone
  split
  · rfl
  · split
    · rfl
    · exact learnM_len _ _ _ _
/-- what get leaves: the caches, the entry, was it of the cache, the fault -/
def mGet (l : List Deed) (cs : List (List En)) (node key floor : Int) : List (List En) × En × Bool × Int :=
  if nodeB cs.length node = false ∨ stK key = false ∨ floor < 0 ∨ (l.length : Int) < floor then (cs, ⟨0, 0, 0, false, ⟨#[]⟩⟩, false, 1)
  else match getE (cacheN cs node) key with
    | some x => if floor ≤ x.a then (cs, x, true, 0) else (learnM l cs node key, wasE l key l.length, false, 0)
    | none => (learnM l cs node key, wasE l key l.length, false, 0)
theorem mGet_good {l : List Deed} {cs : List (List En)} (h : GoodM l cs) (node key floor : Int) : GoodM l (mGet l cs node key floor).1 := by
  unfold mGet
  split
  · exact h
  · rename_i hn
    have hk : stK key = true := by
      cases e : stK key
      · exact absurd (.inr (.inl e)) hn
      · rfl
    split
    · split
      · exact h
      · exact h.learn node hk
    · exact h.learn node hk
theorem mGet_len (l : List Deed) (cs : List (List En)) (node key floor : Int) : (mGet l cs node key floor).1.length = cs.length := by
  unfold mGet
  split
  · rfl
  · split
    · split
      · rfl
      · exact learnM_len _ _ _ _
    · exact learnM_len _ _ _ _
end Go.Proofs.YtpcnfoaoajfhlaaGreatDoor

namespace Go.Proofs.YtpcnfoaoajfhlaaGreatDoor
set_option linter.unusedVariables false
set_option linter.unusedSimpArgs false
open Go.RowKit Go.Extern.Stop Go.Stop Go.Extern

theorem as_nil (t : Value) (w : World) :
    Calls Tryz.prog 90 #[.nilIface, t] w fun e w' => e = .returned (.bool false) ∧ w' = w := by
  go_enter Tryz.func90, Tryz.ntmps90
  go_wp2
  go_ret
  exact ⟨rfl, rfl⟩

theorem as_valueOfP (t : Addr) (w : World) : (ReflectliteValue.unpack (.iface 153 (.pointer (some t)))).run Tryz.prog w
    = .ok (.agg #[.pointer (some ⟨7, 153, none⟩), .pointer (some ⟨w.heap.size, 0, none⟩), .int .u64 150]) (w.alloc (.cells #[.pointer (some t)] 153)) := by kernel_rfl
theorem as_typeP (a : Addr) (w : World) : (ReflectliteValue.methodAny (ReflectliteValue.valueError "reflectlite.Value.Type" 0) (fun t _ _ _ => ReflectliteType.toType t) #[.agg #[.pointer (some ⟨7, 153, none⟩), .pointer (some a), .int .u64 150]]).run Tryz.prog w
    = .ok (.iface 242 (.agg #[.pointer (some ⟨7, 153, none⟩)])) w := by kernel_rfl
theorem as_methodKind (h : Value) (w : World) : (Go.method 422 242 (.agg #[h]) "Kind").run Tryz.prog w = .ok (243, h) w := by kernel_rfl
theorem as_kindP (w : World) : ((ReflectliteType.abiMethod fun t => Functor.map (fun a : Nat => Value.int IntKind.u8 (a : Int)) (Rtype.kind t)) #[.pointer (some ⟨7, 153, none⟩)]).run Tryz.prog w = .ok (.int .u8 22) w := by kernel_rfl
theorem as_kindE (w : World) : ((ReflectliteType.abiMethod fun t => Functor.map (fun a : Nat => Value.int IntKind.u8 (a : Int)) (Rtype.kind t)) #[.pointer (some ⟨7, 85, none⟩)]).run Tryz.prog w = .ok (.int .u8 2) w := by kernel_rfl
theorem as_partsP (a : Addr) (w : World) : (ReflectliteValue.parts (.agg #[.pointer (some ⟨7, 153, none⟩), .pointer (some a), .int .u64 150])).run Tryz.prog w = .ok (some (153, a, 150)) w := by kernel_rfl
theorem as_isNilP (a p : Addr) (W : World) (ha : W.cell? a = some (.pointer (some p))) :
    (ReflectliteValue.method (ReflectliteValue.valueError "reflectlite.Value.IsNil" 0) ReflectliteValue.isNil #[.agg #[.pointer (some ⟨7, 153, none⟩), .pointer (some a), .int .u64 150]]).run Tryz.prog W = .ok (.bool false) W := by
  show (ReflectliteValue.parts (.agg #[.pointer (some ⟨7, 153, none⟩), .pointer (some a), .int .u64 150]) >>= _).run Tryz.prog W = _
  rw [Sem.run_bind, as_partsP]
  simp [ReflectliteValue.isNil, loadVar, isAgg, underlying, Tryz.underlying153, ha, Result.andThen]
theorem as_methodElem (h : Value) (w : World) : (Go.method 422 242 (.agg #[h]) "Elem").run Tryz.prog w = .ok (254, .agg #[h]) w := by kernel_rfl
theorem as_methodImplements (h : Value) (w : World) : (Go.method 422 242 (.agg #[h]) "Implements").run Tryz.prog w = .ok (255, .agg #[h]) w := by kernel_rfl
theorem as_methodAssignableTo (h : Value) (w : World) : (Go.method 422 242 (.agg #[h]) "AssignableTo").run Tryz.prog w = .ok (252, .agg #[h]) w := by kernel_rfl
theorem as_elemP (w : World) : (ReflectliteType.method ReflectliteType.elem #[.agg #[.pointer (some ⟨7, 153, none⟩)]]).run Tryz.prog w = .ok (.iface 242 (.agg #[.pointer (some ⟨7, 85, none⟩)])) w := by kernel_rfl
theorem as_implementsE (w : World) : (ReflectliteType.relation "Implements" ReflectliteType.implements_ #[.agg #[.pointer (some ⟨7, 85, none⟩)], .iface 242 (.agg #[.pointer (some ⟨7, 26, none⟩)])]).run Tryz.prog w = .ok (.bool true) w := by kernel_rfl
theorem as_typeOfE (v : Value) (w : World) : (ReflectliteType.typeOf #[.iface 85 v]).run Tryz.prog w = .ok (.iface 242 (.agg #[.pointer (some ⟨7, 85, none⟩)])) w := by kernel_rfl
theorem as_assignableE (w : World) : (ReflectliteType.relation "AssignableTo" ReflectliteType.assignableTo #[.agg #[.pointer (some ⟨7, 85, none⟩)], .iface 242 (.agg #[.pointer (some ⟨7, 85, none⟩)])]).run Tryz.prog w = .ok (.bool true) w := by kernel_rfl
theorem as_valueOfE (n : Int) (w : World) : (ReflectliteValue.unpack (.iface 85 (.int .i64 n))).run Tryz.prog w
    = .ok (.agg #[.pointer (some ⟨7, 85, none⟩), .pointer (some ⟨w.heap.size, 0, none⟩), .int .u64 130]) (w.alloc (.cells #[.int .i64 n] 85)) := by kernel_rfl
theorem as_elemOfP (w : World) : (Rtype.elem? 153).run Tryz.prog w = .ok (some 85) w := by kernel_rfl
theorem as_mkE (p : Addr) (w : World) : (ReflectliteValue.mk 85 p ReflectliteValue.flagAddr).run Tryz.prog w = .ok (.agg #[.pointer (some ⟨7, 85, none⟩), .pointer (some p), .int .u64 386]) w := by kernel_rfl
theorem as_elemVP (a p : Addr) (W : World) (ha : W.cell? a = some (.pointer (some p))) :
    (ReflectliteValue.method (ReflectliteValue.valueError "reflectlite.Value.Elem" 0) ReflectliteValue.elem #[.agg #[.pointer (some ⟨7, 153, none⟩), .pointer (some a), .int .u64 150]]).run Tryz.prog W
      = .ok (.agg #[.pointer (some ⟨7, 85, none⟩), .pointer (some p), .int .u64 386]) W := by
  show (ReflectliteValue.parts (.agg #[.pointer (some ⟨7, 153, none⟩), .pointer (some a), .int .u64 150]) >>= _).run Tryz.prog W = _
  rw [Sem.run_bind, as_partsP]
  simp [ReflectliteValue.elem, loadVar, isAgg, underlying, Tryz.underlying153, ha, Result.andThen, as_elemOfP, as_mkE]
theorem as_partsEa (a : Addr) (w : World) : (ReflectliteValue.parts (.agg #[.pointer (some ⟨7, 85, none⟩), .pointer (some a), .int .u64 386])).run Tryz.prog w = .ok (some (85, a, 386)) w := by kernel_rfl
theorem as_partsE (a : Addr) (w : World) : (ReflectliteValue.parts (.agg #[.pointer (some ⟨7, 85, none⟩), .pointer (some a), .int .u64 130])).run Tryz.prog w = .ok (some (85, a, 130)) w := by kernel_rfl
theorem as_directE (w : World) : (Rtype.directlyAssignable 85 85).run Tryz.prog w = .ok true w := by kernel_rfl
theorem as_setE (ta b : Addr) (n : Int) (old : Value) (W : World) (hb : W.cell? b = some (.int .i64 n)) (ht : W.cell? ta = some old) (hf : W.frozen? ta = false) :
    (ReflectliteValue.set #[.agg #[.pointer (some ⟨7, 85, none⟩), .pointer (some ta), .int .u64 386], .agg #[.pointer (some ⟨7, 85, none⟩), .pointer (some b), .int .u64 130]]).run Tryz.prog W
      = .ok (.tuple #[]) (W.setCell ta (.int .i64 n)) := by
  show (ReflectliteValue.parts (.agg #[.pointer (some ⟨7, 85, none⟩), .pointer (some ta), .int .u64 386]) >>= fun r => ReflectliteValue.parts (.agg #[.pointer (some ⟨7, 85, none⟩), .pointer (some b), .int .u64 130]) >>= _).run Tryz.prog W = _
  simp only [Sem.run_bind, as_partsEa, as_partsE, Result.andThen]
  simp [ReflectliteValue.flagAddr, loadVar, isAgg, underlying, Tryz.underlying85, hb, Result.andThen, as_directE, storeVar, Value.cells, storeCells, Addr.add]
  rw [run_store Tryz.prog W ta _ _ (by rfl)]
  simp [ht, hf]

end Go.Proofs.YtpcnfoaoajfhlaaGreatDoor
