/-
  A swap of two caches on lists: each is given what the other one has of some keys.
-/
import Derived.Test.YtippdgmgmenboagDoorCaJ
namespace Go.Proofs.YtippdgmgmenboagDoor
set_option linter.unusedVariables false
set_option linter.unusedSimpArgs false
open Go.RowKit

/-- the entries of some keys -/
def someE (l : List En) (K : List Int) : List En := l.filter (fun e => K.contains e.k)
theorem someE_good {l : List En} {K : List Int} (h : GoodL l) : GoodL (someE l K) :=
  GoodL.of (List.Pairwise.sublist List.filter_sublist h.rise) (fun e he => h.all e (List.mem_filter.1 he).1)
theorem someE_at {l : List En} {K : List Int} (h : GoodL l) (k : Int) : getE (someE l K) k = if K.contains k = true then getE l k else none := by
  apply opt_ext
  intro x
  rw [getE_iff (someE_good h).rise]
  unfold someE
  rw [List.mem_filter]
  by_cases hc : K.contains k = true
  · rw [if_pos hc, getE_iff h.rise]
    constructor
    · rintro ⟨⟨h1, _⟩, h2⟩
      exact ⟨h1, h2⟩
    · rintro ⟨h1, h2⟩
      exact ⟨⟨h1, by rw [h2]; exact hc⟩, h2⟩
  · rw [if_neg hc]
    constructor
    · rintro ⟨⟨_, h1⟩, h2⟩
      rw [h2] at h1
      exact absurd h1 hc
    · intro h1
      cases h1
theorem someE_nil (l : List En) : someE l [] = [] := by
  unfold someE
  rw [List.filter_eq_nil_iff]
  intro e _
  simp
theorem someE_none (K : List Int) : someE [] K = [] := rfl
theorem known_fun {a b c d : En} (hc : Known a b c) (hd : Known a b d) : c = d := by
  obtain ⟨_, hc⟩ := hc
  obtain ⟨_, hd⟩ := hd
  rcases hc with ⟨h1, h2, h3, h4, rfl⟩ | ⟨h1, h2, h3, h4, rfl⟩ | ⟨h1, h2, rfl⟩ | ⟨h1, h2, rfl⟩ <;> rcases hd with ⟨g1, g2, g3, g4, rfl⟩ | ⟨g1, g2, g3, g4, rfl⟩ | ⟨g1, g2, rfl⟩ | ⟨g1, g2, rfl⟩ <;> first | rfl | (exfalso; omega)
theorem bad_time {e : En} (h : e.bad = 0) : e.v ≤ e.a := by
  unfold En.bad bad at h
  split at h
  · omega
  · rename_i h1
    simp [inR] at h1
    omega
theorem known_one {a b x y : Option En} (hx : KnownAt a b x) (hy : KnownAt a b y) : x = y := by
  cases a with
  | none =>
    cases b with
    | none => simp only [KnownAt] at hx hy; rw [hx, hy]
    | some b => simp only [KnownAt] at hx hy; rw [hx, hy]
  | some a =>
    cases b with
    | none => simp only [KnownAt] at hx hy; rw [hx, hy]
    | some b =>
      simp only [KnownAt] at hx hy
      obtain ⟨c, rfl, hc⟩ := hx
      obtain ⟨d, rfl, hd⟩ := hy
      rw [known_fun hc hd]
/-- what one has behind it -/
def giveE (a b : List En) (K : List Int) : List En × Int := allE a (someE b K)
theorem give_good {a b x : List En} {K : List Int} (ha : GoodL a) (hb : GoodL b) (h : giveE a b K = (x, 0)) : GoodL x ∧ ∀ k, KnownAt (getE a k) (if K.contains k = true then getE b k else none) (getE x k) := by
  have h1 : cacheBoth a (someE b K) = (x, 0) := by
    rw [cacheBoth, if_neg (by simpa using ha.bad), if_neg (by simpa using (someE_good hb).bad)]
    exact h
  obtain ⟨_, _, gx, hm⟩ := both_good h1
  refine ⟨gx, fun k => ?_⟩
  have := hm k
  rw [someE_at hb k] at this
  exact this
theorem known_none {a x : Option En} (h : KnownAt a none x) : x = a := by
  cases a <;> simpa [KnownAt] using h
/-- of a key that is not told each has what it had -/
theorem give_off {a b x : List En} {K : List Int} (ha : GoodL a) (hb : GoodL b) (h : giveE a b K = (x, 0)) {k : Int} (hk : ¬ K.contains k = true) : getE x k = getE a k := by
  have := (give_good ha hb h).2 k
  rw [if_neg hk] at this
  exact known_none this
/-- of a key that is told both have the same -/
theorem give_on {a b x y : List En} {K : List Int} (ha : GoodL a) (hb : GoodL b) (hx : giveE a b K = (x, 0)) (hy : giveE b a K = (y, 0)) {k : Int} (hk : K.contains k = true) : getE x k = getE y k := by
  have h1 := (give_good ha hb hx).2 k
  have h2 := (give_good hb ha hy).2 k
  rw [if_pos hk] at h1 h2
  exact known_one h1 h2.comm
/-- .. which is what both know -/
theorem give_both {a b x z : List En} {K : List Int} (ha : GoodL a) (hb : GoodL b) (hx : giveE a b K = (x, 0)) (hz : cacheBoth a b = (z, 0)) {k : Int} (hk : K.contains k = true) : getE z k = getE x k := by
  have h1 := (give_good ha hb hx).2 k
  rw [if_pos hk] at h1
  exact known_one ((both_good hz).2.2.2 k) h1
/-- .. and is there, if one of both had it -/
theorem give_some {a b x : List En} {K : List Int} (ha : GoodL a) (hb : GoodL b) (hx : giveE a b K = (x, 0)) {k : Int} (hk : K.contains k = true) (h : getE a k ≠ none ∨ getE b k ≠ none) : ∃ u, getE x k = some u := by
  have h1 := (give_good ha hb hx).2 k
  rw [if_pos hk] at h1
  cases h2 : getE a k with
  | none =>
    cases h3 : getE b k with
    | none =>
      rcases h with h | h
      · exact absurd h2 h
      · exact absurd h3 h
    | some v => rw [h2, h3] at h1; exact ⟨v, h1⟩
  | some u =>
    cases h3 : getE b k with
    | none => rw [h2, h3] at h1; exact ⟨u, h1⟩
    | some v =>
      rw [h2, h3] at h1
      obtain ⟨c, hc, _⟩ := h1
      exact ⟨c, hc⟩
/-- nothing is older than it was -/
theorem give_newer {a b x : List En} {K : List Int} (ha : GoodL a) (hb : GoodL b) (hx : giveE a b K = (x, 0)) {k : Int} {u : En} (hu : getE a k = some u) : ∃ v, getE x k = some v ∧ u.v ≤ v.v ∧ u.a ≤ v.a := by
  have h1 := (give_good ha hb hx).2 k
  rw [hu] at h1
  cases h2 : (if K.contains k = true then getE b k else none) with
  | none =>
    rw [h2] at h1
    exact ⟨u, h1, Int.le_refl _, Int.le_refl _⟩
  | some v =>
    rw [h2] at h1
    obtain ⟨c, hc, hk⟩ := h1
    have ba : u.bad = 0 := ha.all u ((getE_iff ha.rise).1 hu).1
    have bb : v.bad = 0 := by
      split at h2
      · exact hb.all v ((getE_iff hb.rise).1 h2).1
      · cases h2
    have := hk.new (bad_time ba) (bad_time bb)
    exact ⟨c, hc, this.1, this.2.2.1⟩
theorem give_none (a b : List En) : giveE a b [] = (a, 0) := by
  unfold giveE
  rw [someE_nil]
  rfl
end Go.Proofs.YtippdgmgmenboagDoor
