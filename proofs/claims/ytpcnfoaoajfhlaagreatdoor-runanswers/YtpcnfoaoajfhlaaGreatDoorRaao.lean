/-
  A swap of two caches on lists: each is given what the other one has of some keys.
  Two trees whose ends were made alike where they parted are alike, whatever numbers are alike.
  What TreeParts says of two trees, on lists.
  A swap on lists: which keys may be asked for, what each gives, what both have then, and that their trees part no more.
-/
import Derived.Test.YtpcnfoaoajfhlaaGreatDoorRaag
import Derived.Test.YtpcnfoaoajfhlaaGreatDoorRaam
import Derived.Test.YtpcnfoaoajfhlaaGreatDoorRaan
namespace Go.Proofs.YtpcnfoaoajfhlaaGreatDoor
set_option linter.unusedVariables false
set_option linter.unusedSimpArgs false
set_option linter.unusedVariables false
set_option linter.unusedSimpArgs false
open Go.RowKit

/-- the entries of some keys -/
def someE (l : List En) (K : List Int) : List En := l.filter (fun e => K.contains e.k)
theorem someE_good {l : List En} {K : List Int} (h : GoodL l) : GoodL (someE l K) :=
  GoodL.of (List.Pairwise.sublist List.filter_sublist h.rise) (fun e he => h.all e (List.mem_filter.1 he).1)
theorem someE_at {l : List En} {K : List Int} (h : GoodL l) (k : Int) : getE (someE l K) k = if K.contains k = true then getE l k else none := by
  apply opt_ext
  intro x
  rw [getE_iff (someE_good h).rise]
  unfold someE
  rw [List.mem_filter]
  by_cases hc : K.contains k = true
  · rw [if_pos hc, getE_iff h.rise]
    constructor
    · rintro ⟨⟨h1, _⟩, h2⟩
      exact ⟨h1, h2⟩
    · rintro ⟨h1, h2⟩
      exact ⟨⟨h1, by rw [h2]; exact hc⟩, h2⟩
  · rw [if_neg hc]
    constructor
    · rintro ⟨⟨_, h1⟩, h2⟩
      rw [h2] at h1
      exact absurd h1 hc
    · intro h1
      cases h1
theorem someE_nil (l : List En) : someE l [] = [] := by
  unfold someE
  rw [List.filter_eq_nil_iff]
  intro e _
  simp
theorem someE_none (K : List Int) : someE [] K = [] := rfl
theorem known_fun {a b c d : En} (hc : Known a b c) (hd : Known a b d) : c = d := by
  obtain ⟨_, hc⟩ := hc
  obtain ⟨_, hd⟩ := hd
  rcases hc with ⟨h1, h2, h3, h4, rfl⟩ | ⟨h1, h2, h3, h4, rfl⟩ | ⟨h1, h2, rfl⟩ | ⟨h1, h2, rfl⟩ <;> rcases hd with ⟨g1, g2, g3, g4, rfl⟩ | ⟨g1, g2, g3, g4, rfl⟩ | ⟨g1, g2, rfl⟩ | ⟨g1, g2, rfl⟩ <;> first | rfl | (exfalso; omega)
theorem bad_time {e : En} (h : e.bad = 0) : e.v ≤ e.a := by
  unfold En.bad bad at h
  split at h
  · omega
  · rename_i h1
    simp [inR] at h1
    omega
theorem known_one {a b x y : Option En} (hx : KnownAt a b x) (hy : KnownAt a b y) : x = y := by
  cases a with
  | none =>
    cases b with
    | none => simp only [KnownAt] at hx hy; rw [hx, hy]
    | some b => simp only [KnownAt] at hx hy; rw [hx, hy]
  | some a =>
    cases b with
    | none => simp only [KnownAt] at hx hy; rw [hx, hy]
    | some b =>
      simp only [KnownAt] at hx hy
      obtain ⟨c, rfl, hc⟩ := hx
      obtain ⟨d, rfl, hd⟩ := hy
      rw [known_fun hc hd]
/-- what one has behind it -/
def giveE (a b : List En) (K : List Int) : List En × Int := allE a (someE b K)
theorem give_good {a b x : List En} {K : List Int} (ha : GoodL a) (hb : GoodL b) (h : giveE a b K = (x, 0)) : GoodL x ∧ ∀ k, KnownAt (getE a k) (if K.contains k = true then getE b k else none) (getE x k) := by
  have h1 : cacheBoth a (someE b K) = (x, 0) := by
    rw [cacheBoth, if_neg (by simpa using ha.bad), if_neg (by simpa using (someE_good hb).bad)]
    exact h
  obtain ⟨_, _, gx, hm⟩ := both_good h1
  refine ⟨gx, fun k => ?_⟩
  have := hm k
  rw [someE_at hb k] at this
  exact this
theorem known_none {a x : Option En} (h : KnownAt a none x) : x = a := by
  cases a <;> simpa [KnownAt] using h
/-- of a key that is not told each has what it had -/
theorem give_off {a b x : List En} {K : List Int} (ha : GoodL a) (hb : GoodL b) (h : giveE a b K = (x, 0)) {k : Int} (hk : ¬ K.contains k = true) : getE x k = getE a k := by
  have := (give_good ha hb h).2 k
  rw [if_neg hk] at this
  exact known_none this
/-- of a key that is told both have the same -/
theorem give_on {a b x y : List En} {K : List Int} (ha : GoodL a) (hb : GoodL b) (hx : giveE a b K = (x, 0)) (hy : giveE b a K = (y, 0)) {k : Int} (hk : K.contains k = true) : getE x k = getE y k := by
  have h1 := (give_good ha hb hx).2 k
  have h2 := (give_good hb ha hy).2 k
  rw [if_pos hk] at h1 h2
  exact known_one h1 h2.comm
/-- .. which is what both know -/
theorem give_both {a b x z : List En} {K : List Int} (ha : GoodL a) (hb : GoodL b) (hx : giveE a b K = (x, 0)) (hz : cacheBoth a b = (z, 0)) {k : Int} (hk : K.contains k = true) : getE z k = getE x k := by
  have h1 := (give_good ha hb hx).2 k
  rw [if_pos hk] at h1
  exact known_one ((both_good hz).2.2.2 k) h1
/-- .. and is there, if one of both had it -/
theorem give_some {a b x : List En} {K : List Int} (ha : GoodL a) (hb : GoodL b) (hx : giveE a b K = (x, 0)) {k : Int} (hk : K.contains k = true) (h : getE a k ≠ none ∨ getE b k ≠ none) : ∃ u, getE x k = some u := by
  have h1 := (give_good ha hb hx).2 k
  rw [if_pos hk] at h1
  cases h2 : getE a k with
  | none =>
    cases h3 : getE b k with
    | none =>
      rcases h with h | h
      · exact absurd h2 h
      · exact absurd h3 h
    | some v => rw [h2, h3] at h1; exact ⟨v, h1⟩
  | some u =>
    cases h3 : getE b k with
    | none => rw [h2, h3] at h1; exact ⟨u, h1⟩
    | some v =>
      rw [h2, h3] at h1
      obtain ⟨c, hc, _⟩ := h1
      exact ⟨c, hc⟩
/-- nothing is older than it was -/
theorem give_newer {a b x : List En} {K : List Int} (ha : GoodL a) (hb : GoodL b) (hx : giveE a b K = (x, 0)) {k : Int} {u : En} (hu : getE a k = some u) : ∃ v, getE x k = some v ∧ u.v ≤ v.v ∧ u.a ≤ v.a := by
  have h1 := (give_good ha hb hx).2 k
  rw [hu] at h1
  cases h2 : (if K.contains k = true then getE b k else none) with
  | none =>
    rw [h2] at h1
    exact ⟨u, h1, Int.le_refl _, Int.le_refl _⟩
  | some v =>
    rw [h2] at h1
    obtain ⟨c, hc, hk⟩ := h1
    have ba : u.bad = 0 := ha.all u ((getE_iff ha.rise).1 hu).1
    have bb : v.bad = 0 := by
      split at h2
      · exact hb.all v ((getE_iff hb.rise).1 h2).1
      · cases h2
    have := hk.new (bad_time ba) (bad_time bb)
    exact ⟨c, hc, this.1, this.2.2.1⟩
theorem give_none (a b : List En) : giveE a b [] = (a, 0) := by
  unfold giveE
  rw [someE_nil]
  rfl
end Go.Proofs.YtpcnfoaoajfhlaaGreatDoor

namespace Go.Proofs.YtpcnfoaoajfhlaaGreatDoor
set_option linter.unusedVariables false
set_option linter.unusedSimpArgs false
open Go.RowKit

/-- off the keys told each tree has what it had, on them both have the same: then their nodes are the same -/
theorem nd_swapped (P : Nat → Nat → Nat) (f g f' g' : Nat → Nat) : ∀ d i, 8 ≤ i * 2 ^ d → (∀ k, under d i k → (k ∈ ptK P f g d i → f' k = g' k) ∧ (k ∉ ptK P f g d i → f' k = f k ∧ g' k = g k)) → nd P f' d i = nd P g' d i := by
  intro d
  induction d with
  | zero =>
    intro i h8 h
    have hu : under 0 i (i - 8) := by
      constructor <;> simp only [Nat.pow_zero, Nat.mul_one] at h8 ⊢ <;> omega
    obtain ⟨h1, h2⟩ := h (i - 8) hu
    show f' (i - 8) = g' (i - 8)
    by_cases e : f (i - 8) = g (i - 8)
    · obtain ⟨e1, e2⟩ := h2 (by rw [ptK, if_pos e]; simp)
      rw [e1, e2, e]
    · exact h1 (by rw [ptK, if_neg e]; simp)
  | succ d ih =>
    intro i h8 h
    have e : 2 ^ (d + 1) = 2 * 2 ^ d := by rw [Nat.pow_succ, Nat.mul_comm]
    have hl : 8 ≤ 2 * i * 2 ^ d := by rw [Nat.mul_comm 2 i, Nat.mul_assoc, ← e]; exact h8
    have hr : 8 ≤ (2 * i + 1) * 2 ^ d := Nat.le_trans hl (Nat.mul_le_mul_right _ (by omega))
    by_cases hn : nd P f (d + 1) i = nd P g (d + 1) i
    · have h0 : ptK P f g (d + 1) i = [] := ptK_alike hn
      have hf : nd P f' (d + 1) i = nd P f (d + 1) i := nd_ext P f' f (d + 1) i h8 (fun k hk => ((h k hk).2 (by rw [h0]; simp)).1)
      have hg : nd P g' (d + 1) i = nd P g (d + 1) i := nd_ext P g' g (d + 1) i h8 (fun k hk => ((h k hk).2 (by rw [h0]; simp)).2)
      rw [hf, hg, hn]
    · have hK : ptK P f g (d + 1) i = ptK P f g d (2 * i) ++ ptK P f g d (2 * i + 1) := by rw [ptK, if_neg hn]
      have e1 : nd P f' d (2 * i) = nd P g' d (2 * i) := ih (2 * i) hl (fun k hk => by
        obtain ⟨h1, h2⟩ := h k (under_left hk)
        rw [hK] at h1 h2
        refine ⟨fun hm => h1 (List.mem_append_left _ hm), fun hm => h2 (fun hm' => ?_)⟩
        rcases List.mem_append.1 hm' with h3 | h3
        · exact hm h3
        · have := (ptK_under P f g d (2 * i + 1) k hr h3).1
          have := under_part hk this
          omega)
      have e2 : nd P f' d (2 * i + 1) = nd P g' d (2 * i + 1) := ih (2 * i + 1) hr (fun k hk => by
        obtain ⟨h1, h2⟩ := h k (under_right hk)
        rw [hK] at h1 h2
        refine ⟨fun hm => h1 (List.mem_append_right _ hm), fun hm => h2 (fun hm' => ?_)⟩
        rcases List.mem_append.1 hm' with h3 | h3
        · have := (ptK_under P f g d (2 * i) k hl h3).1
          have := under_part this hk
          omega
        · exact hm h3)
      rw [nd, nd, e1, e2]
end Go.Proofs.YtpcnfoaoajfhlaaGreatDoor

namespace Go.Proofs.YtpcnfoaoajfhlaaGreatDoor
set_option linter.unusedVariables false
set_option linter.unusedSimpArgs false
open Go.RowKit

theorem part_turn (f g : Nat → Nat) (i : Nat) : partK g f i = partK f g i ∧ partN g f i = partN f g i := by
  unfold partK partN
  rw [ptK_turn, ptN_turn]
  exact ⟨rfl, rfl⟩
theorem part_few (f g : Nat → Nat) : partN f g 1 ≤ 1 + 6 * (partK f g 1).length := by
  have h := ptN_few pairH f g 3 1
  unfold partN partK
  rw [List.length_map]
  exact h
theorem part_pos (f g : Nat → Nat) (i : Nat) : 1 ≤ partN f g i := ptN_pos _ _ _ _ _
theorem part_mem {f g : Nat → Nat} {k : Int} (h : k ∈ partK f g 1) : ∃ q : Nat, k = (q : Int) ∧ q < 8 ∧ f q ≠ g q := by
  obtain ⟨q, hq, rfl⟩ := List.mem_map.1 h
  obtain ⟨hu, hn⟩ := ptK_under pairH f g 3 1 q (by decide) hq
  have h2 : q + 8 < (1 + 1) * 2 ^ 3 := hu.2
  exact ⟨q, rfl, by omega, hn⟩
theorem part_rise (f g : Nat → Nat) : (partK f g 1).Pairwise (· < ·) := by
  unfold partK
  rw [List.pairwise_map]
  exact (ptK_rise pairH f g 3 1 (by decide)).imp (fun h => by omega)
theorem part_mended (f g h : Nat → Nat) (hh : ∀ q, q < 8 → h q = if (partK f g 1).contains (q : Int) = true then f q else g q) : trN h 1 = trN f 1 := by
  have hm : ∀ q : Nat, (partK f g 1).contains (q : Int) = true ↔ q ∈ ptK pairH f g 3 1 := fun q => by
    rw [List.contains_iff_mem]
    unfold partK
    rw [List.mem_map]
    constructor
    · rintro ⟨x, hx, hxq⟩
      have : x = q := by omega
      subst this
      exact hx
    · exact fun hq => ⟨q, hq, rfl⟩
  refine nd_mended pairH f g h 3 1 (by decide) (fun k hk => ?_)
  have h2 : k + 8 < (1 + 1) * 2 ^ 3 := hk.2
  have e := hh k (by omega)
  constructor
  · intro hx
    rw [if_pos ((hm k).2 hx)] at e
    exact e
  · intro hx
    rw [if_neg (fun hc => hx ((hm k).1 hc))] at e
    exact e

/-- the one entry of the law's first row -/
def oneE : En := ⟨6, 1, 1, false, ⟨#[120]⟩⟩
theorem one_good : badL [oneE] = 0 := by decide +kernel
theorem leaf_one : leafN [oneE] = oneF := by
  funext k
  unfold oneF
  by_cases h : k = 6
  · subst h
    rw [if_pos rfl]
    have e : getE [oneE] ((6 : Nat) : Int) = some oneE := rfl
    rw [leafN_some e]
    exact entH_eq 6 1 false ⟨#[120]⟩
  · rw [if_neg h]
    refine leafN_none ?_
    unfold getE
    rw [List.find?_cons_of_neg (by
      show ¬ (((6 : Int) == (k : Int)) = true)
      simp
      omega)]
    rfl
theorem leaf_nil : leafN [] = fun _ => 0 := by
  funext k
  rfl
theorem part_one : partK (leafN [oneE]) (leafN []) 1 = [6] ∧ partN (leafN [oneE]) (leafN []) 1 = 7 := by
  obtain ⟨h1, h2⟩ := one_part
  rw [leaf_one, leaf_nil]
  unfold partK partN
  rw [pairH_eq, show dep 1 = 3 from rfl, h1, h2]
  exact ⟨rfl, rfl⟩

/-- where two numbers are unlike, how the entries are -/
theorem unlike_how {a b : List En} (ha : badL a = 0) (hb : badL b = 0) {q : Nat} (h : leafN a q ≠ leafN b q) :
    (∃ x, getE a (q : Int) = some x ∧ getE b (q : Int) = none) ∨ (∃ y, getE a (q : Int) = none ∧ getE b (q : Int) = some y) ∨
    ∃ x y, getE a (q : Int) = some x ∧ getE b (q : Int) = some y ∧ (x.v ≠ y.v ∨ (x.v = y.v ∧ x.g ≠ y.g) ∨ (x.v = y.v ∧ x.g = y.g ∧ x.t ≠ y.t)) := by
  cases h1 : getE a (q : Int) with
  | none =>
    cases h2 : getE b (q : Int) with
    | none => exact absurd (by rw [leafN_none h1, leafN_none h2]) h
    | some y => exact .inr (.inl ⟨y, rfl, rfl⟩)
  | some x =>
    cases h2 : getE b (q : Int) with
    | none => exact .inl ⟨x, rfl, rfl⟩
    | some y =>
      refine .inr (.inr ⟨x, y, rfl, rfl, ?_⟩)
      obtain ⟨_, _, kx⟩ := getE_some (badL_good ha).rise h1
      obtain ⟨_, _, ky⟩ := getE_some (badL_good hb).rise h2
      by_cases e1 : x.v = y.v
      · by_cases e2 : x.g = y.g
        · by_cases e3 : x.t = y.t
          · refine absurd ?_ h
            rw [leafN_some h1, leafN_some h2, numE, numE, kx, ky, e1, e2, e3]
          · exact .inr (.inr ⟨e1, e2, e3⟩)
        · exact .inr (.inl ⟨e1, e2⟩)
      · exact .inl e1

/-- b's entries, but a's of some keys, below j -/
def mixU (a b : List En) (K : List Int) : Nat → List En
  | 0 => []
  | j + 1 => mixU a b K j ++ (match getE (if K.contains (j : Int) = true then a else b) (j : Int) with
    | none => []
    | some x => [x])
/-- where a key's entry is taken from -/
def fromU (a b : List En) (K : List Int) (j : Nat) : List En := if K.contains (j : Int) = true then a else b
theorem mixU_none {a b : List En} {K : List Int} {j : Nat} (h : getE (fromU a b K j) (j : Int) = none) : mixU a b K (j + 1) = mixU a b K j := by
  unfold fromU at h
  rw [mixU, h, List.append_nil]
theorem mixU_some {a b : List En} {K : List Int} {j : Nat} {x : En} (h : getE (fromU a b K j) (j : Int) = some x) : mixU a b K (j + 1) = mixU a b K j ++ [x] := by
  unfold fromU at h
  rw [mixU, h]
theorem fromU_good {a b : List En} {K : List Int} {j : Nat} (ha : badL a = 0) (hb : badL b = 0) : badL (fromU a b K j) = 0 := by
  unfold fromU
  split
  · exact ha
  · exact hb
theorem mixU_props {a b : List En} (K : List Int) (ha : badL a = 0) (hb : badL b = 0) : ∀ j, (mixU a b K j).length ≤ j ∧ Rising (mixU a b K j) ∧ (∀ e ∈ mixU a b K j, e.bad = 0 ∧ e.k < (j : Int)) ∧
    ∀ q : Nat, getE (mixU a b K j) (q : Int) = if q < j then getE (fromU a b K q) (q : Int) else none := by
  intro j
  induction j with
  | zero => exact ⟨Nat.le_refl _, List.Pairwise.nil, fun e he => (by cases he), fun q => rfl⟩
  | succ j ih =>
    obtain ⟨h1, h2, h3, h4⟩ := ih
    cases hg : getE (fromU a b K j) (j : Int) with
    | none =>
      rw [mixU_none hg]
      refine ⟨by omega, h2, fun e he => ⟨(h3 e he).1, by have := (h3 e he).2; omega⟩, fun q => ?_⟩
      rw [h4 q]
      by_cases e1 : q < j
      · rw [if_pos e1, if_pos (by omega)]
      · by_cases e2 : q = j
        · subst e2
          rw [if_neg e1, if_pos (by omega), hg]
        · rw [if_neg e1, if_neg (by omega)]
    | some x =>
      have G := badL_good (fromU_good (K := K) (j := j) ha hb)
      obtain ⟨hj, hx, hk⟩ := getE_some G.rise hg
      have hxb : x.bad = 0 := G.all x (by rw [← hx]; exact List.getElem_mem _)
      rw [mixU_some hg]
      refine ⟨by rw [List.length_append]; simp; omega, ?_, ?_, fun q => ?_⟩
      · unfold Rising
        rw [List.pairwise_append]
        refine ⟨h2, by simp, fun u hu v hv => ?_⟩
        rw [List.mem_singleton.1 hv, hk]
        exact (h3 u hu).2
      · intro e he
        rcases List.mem_append.1 he with he | he
        · exact ⟨(h3 e he).1, by have := (h3 e he).2; omega⟩
        · rw [List.mem_singleton.1 he]
          exact ⟨hxb, by rw [hk]; omega⟩
      · have e0 : getE (mixU a b K j ++ [x]) (q : Int) = (getE (mixU a b K j) (q : Int)).or (getE [x] (q : Int)) := by
          unfold getE
          exact List.find?_append
        rw [e0, h4 q]
        by_cases e1 : q < j
        · rw [if_pos e1, if_pos (by omega)]
          have e2 : getE [x] (q : Int) = none := by
            unfold getE
            rw [List.find?_cons_of_neg (by rw [hk]; simp; omega)]
            rfl
          rw [e2]
          cases getE (fromU a b K q) (q : Int) <;> rfl
        · by_cases e2 : q = j
          · subst e2
            rw [if_neg e1, if_pos (by omega), hg]
            have e3 : getE [x] (q : Int) = some x := by
              unfold getE
              exact List.find?_cons_of_pos (by rw [hk]; simp)
            rw [e3]
            rfl
          · rw [if_neg e1, if_neg (by omega)]
            have e3 : getE [x] (q : Int) = none := by
              unfold getE
              rw [List.find?_cons_of_neg (by rw [hk]; simp; omega)]
              rfl
            rw [e3]
            rfl
theorem mixU_good {a b : List En} (K : List Int) (ha : badL a = 0) (hb : badL b = 0) : badL (mixU a b K 8) = 0 := by
  obtain ⟨h1, h2, h3, _⟩ := mixU_props K ha hb 8
  exact GoodL.bad ⟨h1, fun e he => (h3 e he).1, h2⟩
theorem mixU_leaf {a b : List En} (K : List Int) (ha : badL a = 0) (hb : badL b = 0) (q : Nat) (hq : q < 8) : leafN (mixU a b K 8) q = if K.contains (q : Int) = true then leafN a q else leafN b q := by
  obtain ⟨_, _, _, h4⟩ := mixU_props K ha hb 8
  have h5 := h4 q
  rw [if_pos hq] at h5
  unfold leafN
  rw [h5]
  unfold fromU
  by_cases hc : K.contains (q : Int) = true
  · rw [if_pos hc, if_pos hc]
  · rw [if_neg hc, if_neg hc]
/-- with a's entries of the keys told they part no more -/
theorem mixU_alike {a b : List En} (ha : badL a = 0) (hb : badL b = 0) : partK (leafN a) (leafN (mixU a b (partK (leafN a) (leafN b) 1) 8)) 1 = [] :=
  (part_alike (part_mended (leafN a) (leafN b) _ (fun q hq => mixU_leaf _ ha hb q hq)).symm).1
end Go.Proofs.YtpcnfoaoajfhlaaGreatDoor

namespace Go.Proofs.YtpcnfoaoajfhlaaGreatDoor
set_option linter.unusedVariables false
set_option linter.unusedSimpArgs false
open Go.RowKit

/-- what is wrong with keys, behind such as were named -/
def badKF : List Int → List Int → Int
  | _, [] => 0
  | seen, k :: l => if isKeyB k = false then 1 else if seen.contains k = true then 7 else badKF (seen ++ [k]) l
/-- what is wrong with keys that are asked for -/
def badK (l : List Int) : Int := if 8 < l.length then 4 else badKF [] l
theorem badKF_step {l : List Int} {j : Nat} (h : j < l.length) : badKF (l.take j) (l.drop j) = if isKeyB l[j] = false then 1 else if (l.take j).contains l[j] = true then 7 else badKF (l.take (j + 1)) (l.drop (j + 1)) := by
  rw [List.drop_eq_getElem_cons h, badKF, List.take_succ_eq_append_getElem h]
theorem badK_full {l : List Int} (h : 8 < l.length) : badK l = 4 := by rw [badK, if_pos h]
theorem badK_else {l : List Int} (h : ¬ 8 < l.length) : badK l = badKF (l.take 0) (l.drop 0) := by rw [badK, if_neg h]; rfl
theorem badKF_range {l : List Int} {j : Nat} (h : j < l.length) (hr : isKeyB l[j] = false) : badKF (l.take j) (l.drop j) = 1 := by rw [badKF_step h, if_pos hr]
theorem badKF_clash {l : List Int} {j : Nat} (h : j < l.length) (hr : isKeyB l[j] = true) (hc : (l.take j).contains l[j] = true) : badKF (l.take j) (l.drop j) = 7 := by rw [badKF_step h, if_neg (by rw [hr]; simp), if_pos hc]
theorem badKF_next {l : List Int} {j : Nat} (h : j < l.length) (hr : isKeyB l[j] = true) (hc : (l.take j).contains l[j] = false) : badKF (l.take j) (l.drop j) = badKF (l.take (j + 1)) (l.drop (j + 1)) := by rw [badKF_step h, if_neg (by rw [hr]; simp), if_neg (by rw [hc]; simp)]
theorem badKF_end (l : List Int) : badKF (l.take l.length) (l.drop l.length) = 0 := by
  rw [List.drop_length]
  rfl
theorem badKF_zero : ∀ (l seen : List Int), l.Pairwise (· < ·) → (∀ k ∈ l, isKeyB k = true) → (∀ k ∈ l, k ∉ seen) → badKF seen l = 0 := by
  intro l
  induction l with
  | nil => intro seen _ _ _; rfl
  | cons k l ih =>
    intro seen h1 h2 h3
    rw [List.pairwise_cons] at h1
    rw [badKF, if_neg (by rw [h2 k (by simp)]; simp), if_neg (by simpa using h3 k (by simp))]
    refine ih _ h1.2 (fun q hq => h2 q (by simp [hq])) (fun q hq hm => ?_)
    rcases List.mem_append.1 hm with h | h
    · exact h3 q (by simp [hq]) h
    · have := h1.1 q hq
      simp at h
      omega
/-- the keys in which two trees part may be asked for -/
theorem partK_right (f g : Nat → Nat) : badK (partK f g 1) = 0 := by
  rw [badK, if_neg (by have := partK_len f g 1; omega)]
  refine badKF_zero _ _ (part_rise f g) (fun k hk => ?_) (by simp)
  obtain ⟨q, rfl, hq, _⟩ := part_mem hk
  simp [isKeyB]
  omega

theorem partK_has (f g : Nat → Nat) (q : Nat) : (partK f g 1).contains (q : Int) = true ↔ q ∈ ptK pairH f g 3 1 := by
  rw [List.contains_iff_mem]
  unfold partK
  rw [List.mem_map]
  constructor
  · rintro ⟨x, hx, hxq⟩
    have : x = q := by omega
    subst this
    exact hx
  · exact fun hq => ⟨q, hq, rfl⟩
/-- two trees whose ends were made alike where they parted part no more -/
theorem part_swapped (f g f' g' : Nat → Nat) (h : ∀ q : Nat, ((partK f g 1).contains (q : Int) = true → f' q = g' q) ∧ (¬ (partK f g 1).contains (q : Int) = true → f' q = f q ∧ g' q = g q)) : partK f' g' 1 = [] ∧ partN f' g' 1 = 1 := by
  refine part_alike (show nd pairH f' 3 1 = nd pairH g' 3 1 from ?_)
  refine nd_swapped pairH f g f' g' 3 1 (by decide) (fun k _ => ?_)
  obtain ⟨h1, h2⟩ := h k
  rw [partK_has] at h1 h2
  exact ⟨h1, h2⟩

/-- the keys in which two caches part -/
def lackK (a b : List En) : List Int := partK (leafN a) (leafN b) 1
theorem lackK_turn (a b : List En) : lackK b a = lackK a b := (part_turn _ _ 1).1
theorem lackK_right (a b : List En) : badK (lackK a b) = 0 := partK_right _ _
theorem lackK_mem {a b : List En} {k : Int} (h : k ∈ lackK a b) : ∃ q : Nat, k = (q : Int) ∧ q < 8 ∧ leafN a q ≠ leafN b q := part_mem h
theorem leafN_get {a b : List En} {q : Nat} (h : getE a (q : Int) = getE b (q : Int)) : leafN a q = leafN b q := by unfold leafN; rw [h]
/-- behind a swap they part no more -/
theorem swap_alike {a b x y : List En} (ha : GoodL a) (hb : GoodL b) (hx : giveE a b (lackK a b) = (x, 0)) (hy : giveE b a (lackK a b) = (y, 0)) : lackK x y = [] ∧ partN (leafN x) (leafN y) 1 = 1 := by
  refine part_swapped (leafN a) (leafN b) (leafN x) (leafN y) (fun q => ⟨fun hc => ?_, fun hc => ?_⟩)
  · exact leafN_get (give_on ha hb hx hy hc)
  · exact ⟨leafN_get (give_off ha hb hx hc), leafN_get (give_off hb ha hy hc)⟩

/-- what Give answers -/
def giveW (l : List En) (K : List Int) : List En × Int := if badL l ≠ 0 then ([], badL l) else if badK K ≠ 0 then ([], badK K) else (someE l K, 0)
theorem giveW_one {l : List En} {K : List Int} {n : Int} (h : badL l = n) (hn : n ≠ 0) : giveW l K = ([], n) := by rw [giveW, if_pos (by rw [h]; exact hn), h]
theorem giveW_two {l : List En} {K : List Int} {n : Int} (h : badL l = 0) (hK : badK K = n) (hn : n ≠ 0) : giveW l K = ([], n) := by rw [giveW, if_neg (by simpa using h), if_pos (by rw [hK]; exact hn), hK]
theorem giveW_ok {l : List En} {K : List Int} (h : badL l = 0) (hK : badK K = 0) : giveW l K = (someE l K, 0) := by rw [giveW, if_neg (by simpa using h), if_neg (by simpa using hK)]
theorem someE_yes {l : List En} {K : List Int} {j : Nat} (h : j < l.length) (hc : K.contains l[j].k = true) : someE (l.take (j + 1)) K = someE (l.take j) K ++ [l[j]] := by
  unfold someE
  rw [List.take_succ_eq_append_getElem h, List.filter_append, List.filter_cons_of_pos (by exact hc)]
  rfl
theorem someE_no {l : List En} {K : List Int} {j : Nat} (h : j < l.length) (hc : K.contains l[j].k = false) : someE (l.take (j + 1)) K = someE (l.take j) K := by
  unfold someE
  rw [List.take_succ_eq_append_getElem h, List.filter_append, List.filter_cons_of_neg (by rw [hc]; simp)]
  simp
theorem someE_len (l : List En) (K : List Int) : (someE l K).length ≤ l.length := List.length_filter_le _ _
theorem give_as_both {a b : List En} {K : List Int} (ha : GoodL a) (hb : GoodL b) : cacheBoth a (someE b K) = giveE a b K := by
  rw [cacheBoth, if_neg (by simpa using ha.bad), if_neg (by simpa using (someE_good hb).bad)]
  rfl
theorem all_err {l b R1 : List En} {R2 : Int} (h : allE l b = (R1, R2)) (hn : R2 ≠ 0) : R1 = [] := by
  induction b generalizing l with
  | nil => rw [allE] at h; simp at h; exact absurd h.2.symm hn
  | cons e b ih =>
    rw [allE] at h
    split at h
    · simp at h; exact h.1
    · exact ih h
theorem give_err {a b x : List En} {K : List Int} {n : Int} (h : giveE a b K = (x, n)) (hn : n ≠ 0) : x = [] := all_err h hn

/-- what Pair answers -/
def pairW (a b : List En) : List En × List En × Int :=
  if bad2 (badL a) (badL b) ≠ 0 then ([], [], bad2 (badL a) (badL b))
  else if (giveE a b (lackK a b)).2 ≠ 0 then ([], [], (giveE a b (lackK a b)).2)
  else if (giveE b a (lackK a b)).2 ≠ 0 then ([], [], (giveE b a (lackK a b)).2)
  else ((giveE a b (lackK a b)).1, (giveE b a (lackK a b)).1, 0)
theorem pairW_bad {a b : List En} {n : Int} (h : bad2 (badL a) (badL b) = n) (hn : n ≠ 0) : pairW a b = ([], [], n) := by rw [pairW, if_pos (by rw [h]; exact hn), h]
theorem bad2_good {m n : Int} (h : bad2 m n = 0) : m = 0 ∧ n = 0 := by
  unfold bad2 at h
  split at h
  · exact ⟨by assumption, h⟩
  · exact absurd h (by assumption)
theorem bad2_both {m n : Int} (h : m = 0) (h' : n = 0) : bad2 m n = 0 := by rw [bad2, if_pos h, h']
theorem pairW_one {a b x : List En} {n : Int} (h : bad2 (badL a) (badL b) = 0) (hx : giveE a b (lackK a b) = (x, n)) (hn : n ≠ 0) : pairW a b = ([], [], n) := by rw [pairW, if_neg (by simpa using h), hx, if_pos hn]
theorem pairW_two {a b x y : List En} {n : Int} (h : bad2 (badL a) (badL b) = 0) (hx : giveE a b (lackK a b) = (x, 0)) (hy : giveE b a (lackK a b) = (y, n)) (hn : n ≠ 0) : pairW a b = ([], [], n) := by rw [pairW, if_neg (by simpa using h), hx, if_neg (by simp), hy, if_pos hn]
theorem pairW_ok {a b x y : List En} (h : bad2 (badL a) (badL b) = 0) (hx : giveE a b (lackK a b) = (x, 0)) (hy : giveE b a (lackK a b) = (y, 0)) : pairW a b = (x, y, 0) := by rw [pairW, if_neg (by simpa using h), hx, if_neg (by simp), hy, if_neg (by simp)]
/-- what there is where nothing is wrong -/
theorem pairW_fine {a b x y : List En} (h : pairW a b = (x, y, 0)) : badL a = 0 ∧ badL b = 0 ∧ giveE a b (lackK a b) = (x, 0) ∧ giveE b a (lackK a b) = (y, 0) := by
  obtain ⟨n, hn⟩ : ∃ n, bad2 (badL a) (badL b) = n := ⟨_, rfl⟩
  by_cases h0 : n = 0
  · subst h0
    obtain ⟨h1, h2⟩ := bad2_good hn
    obtain ⟨⟨x', m⟩, hx⟩ : ∃ R, giveE a b (lackK a b) = R := ⟨_, rfl⟩
    obtain ⟨⟨y', m'⟩, hy⟩ : ∃ R, giveE b a (lackK a b) = R := ⟨_, rfl⟩
    by_cases hm : m = 0
    · subst hm
      by_cases hm' : m' = 0
      · subst hm'
        rw [pairW_ok hn hx hy] at h
        simp at h
        rw [hx, hy, h.1, h.2]
        exact ⟨h1, h2, rfl, rfl⟩
      · rw [pairW_two hn hx hy hm'] at h
        simp at h
        exact absurd h.2.2 hm'
    · rw [pairW_one hn hx hm] at h
      simp at h
      exact absurd h.2.2 hm
  · rw [pairW_bad hn h0] at h
    simp at h
    exact absurd h.2.2 h0
theorem pairW_fault {a b x y : List En} {n : Int} (h : pairW a b = (x, y, n)) (hn : n ≠ 0) : x = [] ∧ y = [] := by
  unfold pairW at h
  split at h
  · simp at h; exact ⟨h.1, h.2.1⟩
  · split at h
    · simp at h; exact ⟨h.1, h.2.1⟩
    · split at h
      · simp at h; exact ⟨h.1, h.2.1⟩
      · simp at h; exact absurd h.2.2.symm hn

/-- a swap with one that has nothing -/
theorem give_to_none {l : List En} {K : List Int} (h : GoodL l) : giveE [] l K = (someE l K, 0) :=
  merged_allE goodL_nil (someE_good h).rise (someE_good h).all (someE_good h).rise (fun k => show KnownAt none _ _ from by
    cases getE (someE l K) k <;> simp [KnownAt])
theorem give_from_none (l : List En) (K : List Int) : giveE l [] K = (l, 0) := rfl
theorem pair_none {l : List En} (h : badL l = 0) : pairW l [] = (l, someE l (lackK l []), 0) :=
  pairW_ok (bad2_both h rfl) (give_from_none _ _) (give_to_none (badL_good h))
theorem rise_same : ∀ {x y : List Int}, x.Pairwise (· < ·) → y.Pairwise (· < ·) → (∀ k, k ∈ x ↔ k ∈ y) → x = y := by
  intro x
  induction x with
  | nil =>
    intro y _ _ h
    cases y with
    | nil => rfl
    | cons k y => exact absurd ((h k).2 (by simp)) (by simp)
  | cons k x ih =>
    intro y hx hy h
    cases y with
    | nil => exact absurd ((h k).1 (by simp)) (by simp)
    | cons q y =>
      rw [List.pairwise_cons] at hx hy
      have hkq : k = q := by
        have h1 := (h k).1 (by simp)
        have h2 := (h q).2 (by simp)
        rcases List.mem_cons.1 h1 with e | e
        · exact e
        · rcases List.mem_cons.1 h2 with e' | e'
          · exact e'.symm
          · have := hy.1 k e
            have := hx.1 q e'
            omega
      subst hkq
      rw [ih hx.2 hy.2 (fun z => ?_)]
      constructor
      · intro hz
        have h1 := (h z).1 (by simp [hz])
        rcases List.mem_cons.1 h1 with e | e
        · have := hx.1 z hz
          omega
        · exact e
      · intro hz
        have h1 := (h z).2 (by simp [hz])
        rcases List.mem_cons.1 h1 with e | e
        · have := hy.1 z hz
          omega
        · exact e
theorem none_keys {l : List En} (h : badL l = 0) : (someE l (lackK l [])).map (fun e => e.k) = lackK l [] := by
  have hg := badL_good h
  refine rise_same ?_ (part_rise _ _) (fun k => ?_)
  · rw [List.pairwise_map]
    exact (someE_good hg).rise
  · rw [List.mem_map]
    constructor
    · rintro ⟨e, he, rfl⟩
      have := (List.mem_filter.1 he).2
      simpa using this
    · intro hk
      obtain ⟨q, rfl, _, hu⟩ := lackK_mem hk
      cases hg' : getE l (q : Int) with
      | none =>
        refine absurd ?_ hu
        rw [leafN_none hg', leafN_none rfl]
      | some x =>
        obtain ⟨hm, hx⟩ := (getE_iff hg.rise).1 hg'
        refine ⟨x, List.mem_filter.2 ⟨hm, ?_⟩, hx⟩
        rw [hx]
        simpa using hk
theorem none_len {l : List En} (h : badL l = 0) : (lackK l []).length = (someE l (lackK l [])).length := by
  have e := congrArg List.length (none_keys h)
  rw [List.length_map] at e
  exact e.symm
end Go.Proofs.YtpcnfoaoajfhlaaGreatDoor
