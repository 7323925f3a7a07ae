/-
  Rumors on lists: which are told next, and what is left.
-/
import Derived.Test.YtpelbmhhppcmeafVwP
namespace Go.Proofs.Ytpelbmhhppcmeaf
set_option linter.unusedVariables false
set_option linter.unusedSimpArgs false
open Go.RowKit

/-- a rumor: of a member, and how often it was told -/
structure Ru where
  m : Mm
  t : Int
theorem ru_ext {x y : Ru} (h1 : x.m = y.m) (h2 : x.t = y.t) : x = y := by
  cases x
  cases y
  cases h1
  cases h2
  rfl
/-- by nodes, rising -/
def RiseR (l : List Ru) : Prop := l.Pairwise (fun x y => x.m.n < y.m.n)
/-- is a told ahead of b? -/
def lexB (a b : Ru) : Bool := decide (a.t < b.t) || (decide (a.t = b.t) && decide (a.m.n < b.m.n))
theorem lexB_iff (a b : Ru) : lexB a b = true ↔ a.t < b.t ∨ (a.t = b.t ∧ a.m.n < b.m.n) := by simp [lexB]
theorem lexB_irr (a : Ru) : lexB a a = false := by simp [lexB]
theorem lexB_trans {a b c : Ru} (h1 : lexB a b = true) (h2 : lexB b c = true) : lexB a c = true := by
  rw [lexB_iff] at *
  omega
theorem lexB_total {a b : Ru} (h : a.m.n ≠ b.m.n) : lexB a b = true ∨ lexB b a = true := by
  rw [lexB_iff, lexB_iff]
  omega
theorem rise_inj {l : List Ru} (hr : RiseR l) {a b : Ru} (ha : a ∈ l) (hb : b ∈ l) (h : a.m.n = b.m.n) : a = b := by
  induction l with
  | nil => cases ha
  | cons x l ih =>
    obtain ⟨h1, h2⟩ := List.pairwise_cons.1 hr
    rcases List.mem_cons.1 ha with ea | ha' <;> rcases List.mem_cons.1 hb with eb | hb'
    · rw [ea, eb]
    · have := h1 b hb'
      rw [ea] at h
      omega
    · have := h1 a ha'
      rw [eb] at h
      omega
    · exact ih h2 ha' hb'
/-- how many are told ahead of one -/
def rkR (l : List Ru) (r : Ru) : Nat := l.countP (fun s => lexB s r)
theorem countP_lt {α : Type} {p q : α → Bool} : ∀ {l : List α}, (∀ x ∈ l, p x = true → q x = true) → (∃ x ∈ l, p x = false ∧ q x = true) → l.countP p < l.countP q := by
  intro l
  induction l with
  | nil => rintro _ ⟨x, hx, _⟩; cases hx
  | cons y l ih =>
    intro h1 h2
    obtain ⟨x, hx, hp, hq⟩ := h2
    have hle : l.countP p ≤ l.countP q := List.countP_mono_left (fun x hx => h1 x (List.mem_cons_of_mem _ hx))
    rcases List.mem_cons.1 hx with rfl | hx
    · rw [List.countP_cons_of_neg (by rw [hp]; simp), List.countP_cons_of_pos hq]
      omega
    · have := ih (fun x hx => h1 x (List.mem_cons_of_mem _ hx)) ⟨x, hx, hp, hq⟩
      cases hy : p y
      · rw [List.countP_cons_of_neg (by rw [hy]; simp)]
        have : l.countP q ≤ (y :: l).countP q := by
          rw [List.countP_cons]
          omega
        omega
      · rw [List.countP_cons_of_pos hy, List.countP_cons_of_pos (h1 y (by simp) hy)]
        omega
theorem rk_mono {l : List Ru} {a b : Ru} (ha : a ∈ l) (h : lexB a b = true) : rkR l a < rkR l b :=
  countP_lt (fun _ _ hx => lexB_trans hx h) ⟨a, ha, lexB_irr a, h⟩
theorem rk_lex {l : List Ru} (hr : RiseR l) {a b : Ru} (ha : a ∈ l) (hb : b ∈ l) : rkR l a < rkR l b ↔ lexB a b = true := by
  refine ⟨fun h => ?_, rk_mono ha⟩
  by_cases e : a.m.n = b.m.n
  · rw [rise_inj hr ha hb e] at h
    omega
  · rcases lexB_total e with h1 | h1
    · exact h1
    · have := rk_mono (l := l) hb h1
      omega
theorem rk_inj {l : List Ru} (hr : RiseR l) {a b : Ru} (ha : a ∈ l) (hb : b ∈ l) (h : rkR l a = rkR l b) : a = b := by
  by_cases e : a.m.n = b.m.n
  · exact rise_inj hr ha hb e
  · rcases lexB_total e with h1 | h1
    · have := rk_mono (l := l) ha h1
      omega
    · have := rk_mono (l := l) hb h1
      omega
/-- is it among so many that are told next? -/
def gotR (l : List Ru) (k : Nat) (r : Ru) : Bool := decide (rkR l r < k)
theorem gotR_iff (l : List Ru) (k : Nat) (r : Ru) : gotR l k r = true ↔ rkR l r < k := by simp [gotR]
/-- one that is least -/
theorem least_of {p : Ru → Bool} : ∀ {l : List Ru}, (∃ r ∈ l, p r = true) → ∃ b ∈ l, p b = true ∧ ∀ s ∈ l, p s = true → lexB s b = false := by
  intro l
  induction l with
  | nil => rintro ⟨r, hr, _⟩; cases hr
  | cons x l ih =>
    intro h
    by_cases h1 : ∃ r ∈ l, p r = true
    · obtain ⟨b, hb, hp, hs⟩ := ih h1
      cases hx : p x
      · refine ⟨b, List.mem_cons_of_mem _ hb, hp, fun s hs' hps => ?_⟩
        rcases List.mem_cons.1 hs' with rfl | hs'
        · rw [hx] at hps
          cases hps
        · exact hs s hs' hps
      · cases hl : lexB x b
        · refine ⟨b, List.mem_cons_of_mem _ hb, hp, fun s hs' hps => ?_⟩
          rcases List.mem_cons.1 hs' with rfl | hs'
          · exact hl
          · exact hs s hs' hps
        · refine ⟨x, by simp, hx, fun s hs' hps => ?_⟩
          rcases List.mem_cons.1 hs' with rfl | hs'
          · exact lexB_irr _
          · cases hsx : lexB s x
            · rfl
            · have := hs s hs' hps
              rw [lexB_trans hsx hl] at this
              cases this
    · obtain ⟨r, hr, hp⟩ := h
      rcases List.mem_cons.1 hr with rfl | hr
      · refine ⟨r, by simp, hp, fun s hs hps => ?_⟩
        rcases List.mem_cons.1 hs with rfl | hs
        · exact lexB_irr _
        · exact absurd ⟨s, hs, hps⟩ h1
      · exact absurd ⟨r, hr, hp⟩ h1
theorem count_split {α : Type} (f : α → Nat) (k : Nat) : ∀ l : List α, l.countP (fun x => decide (f x < k + 1)) = l.countP (fun x => decide (f x < k)) + l.countP (fun x => decide (f x = k)) := by
  intro l
  induction l with
  | nil => rfl
  | cons x l ih =>
    rw [List.countP_cons, List.countP_cons, List.countP_cons, ih]
    by_cases h1 : f x < k
    · simp [h1, show f x < k + 1 by omega, show ¬ f x = k by omega]
      omega
    · by_cases h2 : f x = k
      · simp [h2]
        omega
      · simp [h1, h2, show ¬ f x < k + 1 by omega]
theorem count_one {l : List Ru} (hr : RiseR l) {b : Ru} (hb : b ∈ l) (p : Ru → Bool) (hp : ∀ s ∈ l, p s = true ↔ s = b) : l.countP p = 1 := by
  induction l with
  | nil => cases hb
  | cons x l ih =>
    obtain ⟨h1, h2⟩ := List.pairwise_cons.1 hr
    rcases List.mem_cons.1 hb with rfl | hb
    · rw [List.countP_cons_of_pos ((hp b (by simp)).2 rfl), List.countP_eq_zero.2]
      intro s hs hps
      have := (hp s (List.mem_cons_of_mem _ hs)).1 hps
      have := h1 s hs
      subst s
      omega
    · rw [List.countP_cons_of_neg]
      · exact ih h2 hb (fun s hs => hp s (List.mem_cons_of_mem _ hs))
      · intro hps
        have := (hp x (by simp)).1 hps
        have := h1 b hb
        subst x
        omega
/-- the least of those that are not among k has k ahead of it, if k are -/
theorem rk_next {l : List Ru} (hr : RiseR l) {k : Nat} (hc : l.countP (gotR l k) = k) {b : Ru} (hb : b ∈ l) (hn : gotR l k b = false) (hs : ∀ s ∈ l, gotR l k s = false → lexB s b = false) : rkR l b = k := by
  have hbk : ¬ rkR l b < k := by simpa [gotR] using hn
  rw [← hc]
  unfold rkR
  refine List.countP_congr (fun s hsl => ?_)
  constructor
  · intro h
    cases hg : gotR l k s
    · rw [hs s hsl hg] at h
      cases h
    · rfl
  · intro h
    have := (gotR_iff l k s).1 h
    exact (rk_lex hr hsl hb).1 (by omega)
theorem got_count {l : List Ru} (hr : RiseR l) : ∀ {k : Nat}, k ≤ l.length → l.countP (gotR l k) = k := by
  intro k
  induction k with
  | zero => intro _; rw [List.countP_eq_zero.2]; intro s _ h; simp [gotR] at h
  | succ k ih =>
    intro hk
    have hc := ih (by omega)
    have hex : ∃ r ∈ l, (fun r => !gotR l k r) r = true := by
      refine Classical.byContradiction fun h => ?_
      have : l.countP (gotR l k) = l.length := List.countP_eq_length.2 (fun a ha => by
        cases hg : gotR l k a
        · exact absurd ⟨a, ha, by simp [hg]⟩ h
        · rfl)
      omega
    obtain ⟨b, hb, hnb, hs⟩ := least_of hex
    have hrk := rk_next hr hc hb (by simpa using hnb) (fun s hsl hg => hs s hsl (by simp [hg]))
    have h1 : l.countP (fun s => decide (rkR l s = k)) = 1 := count_one hr hb _ (fun s hsl => by
      simp only [decide_eq_true_eq]
      exact ⟨fun h => rk_inj hr hsl hb (h.trans hrk.symm), fun h => by rw [h]; exact hrk⟩)
    have h2 := count_split (rkR l) k l
    rw [h1] at h2
    show l.countP (fun s => decide (rkR l s < k + 1)) = k + 1
    rw [h2]
    show l.countP (gotR l k) + 1 = k + 1
    rw [hc]
theorem rk_lt {l : List Ru} {r : Ru} (hr : r ∈ l) : rkR l r < l.length := by
  have h : l.countP (fun s => lexB s r) < l.countP (fun _ => true) := countP_lt (fun _ _ _ => rfl) ⟨r, hr, lexB_irr r, rfl⟩
  simpa [rkR] using h
theorem got_all {l : List Ru} {k : Nat} (hk : l.length ≤ k) {r : Ru} (hr : r ∈ l) : gotR l k r = true := by
  rw [gotR_iff]
  have := rk_lt hr
  omega
theorem got_few {l : List Ru} (hr : RiseR l) (k : Nat) : l.countP (gotR l k) = min k l.length := by
  by_cases h : k ≤ l.length
  · rw [got_count hr h, Nat.min_eq_left h]
  · rw [Nat.min_eq_right (by omega)]
    exact List.countP_eq_length.2 (fun a ha => got_all (by omega) ha)
/-- one more is told: the least of the others -/
theorem got_next {l : List Ru} (hr : RiseR l) {k : Nat} {b : Ru} (hb : b ∈ l) (hn : gotR l k b = false) (hs : ∀ s ∈ l, gotR l k s = false → lexB s b = false) {r : Ru} (hrl : r ∈ l) : gotR l (k + 1) r = (gotR l k r || decide (r.m.n = b.m.n)) := by
  have hk : k ≤ l.length := by
    refine Classical.byContradiction fun h => ?_
    rw [got_all (by omega) hb] at hn
    cases hn
  have hrk := rk_next hr (got_count hr hk) hb hn hs
  unfold gotR
  by_cases e : r.m.n = b.m.n
  · have := rise_inj hr hrl hb e
    subst this
    simp [hrk]
  · have : rkR l r ≠ k := fun h => e (by rw [rk_inj hr hrl hb (h.trans hrk.symm)])
    simp [e]
    omega
/-- who is told -/
def toldR (l : List Ru) (k : Nat) : List Mm := (l.filter (gotR l k)).map Ru.m
/-- what becomes of one -/
def bumpR (g : Bool) (limit : Int) (r : Ru) : Option Ru := if g = true then (if limit ≤ r.t + 1 then none else some ⟨r.m, r.t + 1⟩) else some r
/-- what is left -/
def leftR (l : List Ru) (k : Nat) (limit : Int) : List Ru := l.filterMap (fun r => bumpR (gotR l k r) limit r)
theorem told_len {l : List Ru} (hr : RiseR l) (k : Nat) : (toldR l k).length = min k l.length := by
  rw [toldR, List.length_map, ← List.countP_eq_length_filter]
  exact got_few hr k
end Go.Proofs.Ytpelbmhhppcmeaf
