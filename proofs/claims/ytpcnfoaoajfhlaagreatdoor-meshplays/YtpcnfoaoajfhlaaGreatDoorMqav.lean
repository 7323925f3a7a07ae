/-
  A tree over eight keys, on functions: f tells a key's number, P that of two numbers. Where two trees part, and how many nodes are asked.
  Two trees whose ends were made alike where they parted are alike, whatever numbers are alike.
  The number of a text, on lists of bytes: a step, how it is undone, and the exclusive or bit by bit.
  Package hash by its contracts: the number of a text.
-/
import Derived.Test.YtpcnfoaoajfhlaaGreatDoorMqaa
import Derived.BigRegion
import Derived.BigQuiet
namespace Go.Proofs.YtpcnfoaoajfhlaaGreatDoor
set_option linter.unusedVariables false
set_option linter.unusedSimpArgs false
set_option linter.unusedVariables false
set_option linter.unusedSimpArgs false
open Go.RowKit

/-- the node i, d rows above the ends -/
def nd (P : Nat → Nat → Nat) (f : Nat → Nat) : Nat → Nat → Nat
  | 0, i => f (i - 8)
  | d + 1, i => P (nd P f d (2 * i)) (nd P f d (2 * i + 1))
/-- the keys where two trees part from a node on -/
def ptK (P : Nat → Nat → Nat) (f g : Nat → Nat) : Nat → Nat → List Nat
  | 0, i => if f (i - 8) = g (i - 8) then [] else [i - 8]
  | d + 1, i => if nd P f (d + 1) i = nd P g (d + 1) i then [] else ptK P f g d (2 * i) ++ ptK P f g d (2 * i + 1)
/-- how many nodes are asked -/
def ptN (P : Nat → Nat → Nat) (f g : Nat → Nat) : Nat → Nat → Nat
  | 0, _ => 1
  | d + 1, i => if nd P f (d + 1) i = nd P g (d + 1) i then 1 else ptN P f g d (2 * i) + ptN P f g d (2 * i + 1) + 1

theorem ptK_alike {P : Nat → Nat → Nat} {f g : Nat → Nat} {d i : Nat} (h : nd P f d i = nd P g d i) : ptK P f g d i = [] := by
  cases d with
  | zero => exact if_pos h
  | succ d => exact if_pos h
theorem ptN_alike {P : Nat → Nat → Nat} {f g : Nat → Nat} {d i : Nat} (h : nd P f d i = nd P g d i) : ptN P f g d i = 1 := by
  cases d with
  | zero => rfl
  | succ d => exact if_pos h
theorem ptK_turn (P : Nat → Nat → Nat) (f g : Nat → Nat) : ∀ d i, ptK P f g d i = ptK P g f d i := by
  intro d
  induction d with
  | zero => intro i; unfold ptK; split <;> rename_i h <;> first | rw [if_pos h.symm] | rw [if_neg (fun e => h e.symm)]
  | succ d ih => intro i; unfold ptK; rw [ih, ih]; split <;> rename_i h <;> first | rw [if_pos h.symm] | rw [if_neg (fun e => h e.symm)]
theorem ptN_turn (P : Nat → Nat → Nat) (f g : Nat → Nat) : ∀ d i, ptN P f g d i = ptN P g f d i := by
  intro d
  induction d with
  | zero => intro i; rfl
  | succ d ih => intro i; unfold ptN; rw [ih, ih]; split <;> rename_i h <;> first | rw [if_pos h.symm] | rw [if_neg (fun e => h e.symm)]
/-- unlike nodes have an end below that is unlike -/
theorem ptK_some {P : Nat → Nat → Nat} {f g : Nat → Nat} : ∀ {d i : Nat}, nd P f d i ≠ nd P g d i → 1 ≤ (ptK P f g d i).length := by
  intro d
  induction d with
  | zero =>
    intro i h
    have h' : ¬ f (i - 8) = g (i - 8) := h
    rw [ptK, if_neg h']
    exact Nat.le_refl _
  | succ d ih =>
    intro i h
    rw [ptK, if_neg h, List.length_append]
    by_cases h1 : nd P f d (2 * i) = nd P g d (2 * i)
    · by_cases h2 : nd P f d (2 * i + 1) = nd P g d (2 * i + 1)
      · exact absurd (by rw [nd, nd, h1, h2]) h
      · have := ih h2
        omega
    · have := ih h1
      omega
theorem ptN_pos (P : Nat → Nat → Nat) (f g : Nat → Nat) (d i : Nat) : 1 ≤ ptN P f g d i := by
  cases d with
  | zero => exact Nat.le_refl _
  | succ d => unfold ptN; split <;> omega
/-- little is asked -/
theorem ptN_few (P : Nat → Nat → Nat) (f g : Nat → Nat) : ∀ d i, ptN P f g d i ≤ 1 + 2 * d * (ptK P f g d i).length := by
  intro d
  induction d with
  | zero => intro i; exact Nat.le_add_right _ _
  | succ d ih =>
    intro i
    by_cases h : nd P f (d + 1) i = nd P g (d + 1) i
    · rw [ptN_alike h]
      exact Nat.le_add_right _ _
    · have h1 := ptK_some h
      have h2 := ih (2 * i)
      have h3 := ih (2 * i + 1)
      rw [ptK, if_neg h, List.length_append] at h1 ⊢
      rw [ptN, if_neg h]
      obtain ⟨p, hp⟩ : ∃ p, p = (ptK P f g d (2 * i)).length := ⟨_, rfl⟩
      obtain ⟨q, hq⟩ : ∃ q, q = (ptK P f g d (2 * i + 1)).length := ⟨_, rfl⟩
      rw [← hp] at h1 h2 ⊢
      rw [← hq] at h1 h3 ⊢
      have e : 2 * (d + 1) * (p + q) = 2 * d * p + 2 * d * q + 2 * (p + q) := by
        rw [Nat.mul_add 2 d 1, Nat.add_mul, Nat.mul_add (2 * d) p q]
      rw [e]
      omega
/-- the keys below a node -/
def under (d i k : Nat) : Prop := i * 2 ^ d ≤ k + 8 ∧ k + 8 < (i + 1) * 2 ^ d
theorem under_left {d i k : Nat} (h : under d (2 * i) k) : under (d + 1) i k := by
  obtain ⟨h1, h2⟩ := h
  have e : 2 ^ (d + 1) = 2 * 2 ^ d := by rw [Nat.pow_succ, Nat.mul_comm]
  constructor
  · rw [e, ← Nat.mul_assoc, Nat.mul_comm i 2]; exact h1
  · rw [e, ← Nat.mul_assoc, Nat.mul_comm (i + 1) 2]
    refine Nat.lt_of_lt_of_le h2 (Nat.mul_le_mul_right _ (by omega))
theorem under_right {d i k : Nat} (h : under d (2 * i + 1) k) : under (d + 1) i k := by
  obtain ⟨h1, h2⟩ := h
  have e : 2 ^ (d + 1) = 2 * 2 ^ d := by rw [Nat.pow_succ, Nat.mul_comm]
  constructor
  · rw [e, ← Nat.mul_assoc, Nat.mul_comm i 2]
    exact Nat.le_trans (Nat.mul_le_mul_right _ (by omega)) h1
  · rw [e, ← Nat.mul_assoc, Nat.mul_comm (i + 1) 2]
    exact h2
theorem under_part {d i k q : Nat} (h : under d (2 * i) k) (h' : under d (2 * i + 1) q) : k < q := by
  have h1 := h.2
  have h2 := h'.1
  omega
theorem ptK_under (P : Nat → Nat → Nat) (f g : Nat → Nat) : ∀ d i k, 8 ≤ i * 2 ^ d → k ∈ ptK P f g d i → under d i k ∧ f k ≠ g k := by
  intro d
  induction d with
  | zero =>
    intro i k h8 hk
    unfold ptK at hk
    split at hk
    · simp at hk
    · rename_i h
      simp only [List.mem_singleton] at hk
      subst hk
      refine ⟨⟨?_, ?_⟩, h⟩ <;> simp only [Nat.pow_zero, Nat.mul_one] at h8 ⊢ <;> omega
  | succ d ih =>
    intro i k h8 hk
    have e : 2 ^ (d + 1) = 2 * 2 ^ d := by rw [Nat.pow_succ, Nat.mul_comm]
    have hl : 8 ≤ 2 * i * 2 ^ d := by rw [e, ← Nat.mul_assoc, Nat.mul_comm i 2] at h8; exact h8
    have hr : 8 ≤ (2 * i + 1) * 2 ^ d := Nat.le_trans hl (Nat.mul_le_mul_right _ (by omega))
    unfold ptK at hk
    split at hk
    · simp at hk
    · rcases List.mem_append.1 hk with h | h
      · exact ⟨under_left (ih _ _ hl h).1, (ih _ _ hl h).2⟩
      · exact ⟨under_right (ih _ _ hr h).1, (ih _ _ hr h).2⟩
/-- the keys rise -/
theorem ptK_rise (P : Nat → Nat → Nat) (f g : Nat → Nat) : ∀ d i, 8 ≤ i * 2 ^ d → (ptK P f g d i).Pairwise (· < ·) := by
  intro d
  induction d with
  | zero => intro i _; unfold ptK; split <;> simp
  | succ d ih =>
    intro i h8
    have e : 2 ^ (d + 1) = 2 * 2 ^ d := by rw [Nat.pow_succ, Nat.mul_comm]
    have hl : 8 ≤ 2 * i * 2 ^ d := by rw [e, ← Nat.mul_assoc, Nat.mul_comm i 2] at h8; exact h8
    have hr : 8 ≤ (2 * i + 1) * 2 ^ d := Nat.le_trans hl (Nat.mul_le_mul_right _ (by omega))
    unfold ptK
    split
    · exact List.Pairwise.nil
    · rw [List.pairwise_append]
      exact ⟨ih _ hl, ih _ hr, fun a ha b hb => under_part (ptK_under P f g d _ a hl ha).1 (ptK_under P f g d _ b hr hb).1⟩
theorem nd_ext (P : Nat → Nat → Nat) (f g : Nat → Nat) : ∀ d i, 8 ≤ i * 2 ^ d → (∀ k, under d i k → f k = g k) → nd P f d i = nd P g d i := by
  intro d
  induction d with
  | zero =>
    intro i h8 h
    simp only [Nat.pow_zero, Nat.mul_one] at h8
    exact h (i - 8) ⟨by simp only [Nat.pow_zero, Nat.mul_one]; omega, by simp only [Nat.pow_zero, Nat.mul_one]; omega⟩
  | succ d ih =>
    intro i h8 h
    have e : 2 ^ (d + 1) = 2 * 2 ^ d := by rw [Nat.pow_succ, Nat.mul_comm]
    have hl : 8 ≤ 2 * i * 2 ^ d := by rw [e, ← Nat.mul_assoc, Nat.mul_comm i 2] at h8; exact h8
    have hr : 8 ≤ (2 * i + 1) * 2 ^ d := Nat.le_trans hl (Nat.mul_le_mul_right _ (by omega))
    rw [nd, nd, ih _ hl (fun k hk => h k (under_left hk)), ih _ hr (fun k hk => h k (under_right hk))]
/-- with what was told of one of both put into the other one they part no more -/
theorem nd_mended (P : Nat → Nat → Nat) (f g h : Nat → Nat) : ∀ d i, 8 ≤ i * 2 ^ d → (∀ k, under d i k → (k ∈ ptK P f g d i → h k = f k) ∧ (k ∉ ptK P f g d i → h k = g k)) → nd P h d i = nd P f d i := by
  intro d
  induction d with
  | zero =>
    intro i h8 hh
    simp only [Nat.pow_zero, Nat.mul_one] at h8
    have := hh (i - 8) ⟨by simp only [Nat.pow_zero, Nat.mul_one]; omega, by simp only [Nat.pow_zero, Nat.mul_one]; omega⟩
    by_cases e : f (i - 8) = g (i - 8)
    · have h1 := this.2 (by rw [ptK, if_pos e]; simp)
      show h (i - 8) = f (i - 8)
      rw [h1, e]
    · exact this.1 (by rw [ptK, if_neg e]; simp)
  | succ d ih =>
    intro i h8 hh
    have e : 2 ^ (d + 1) = 2 * 2 ^ d := by rw [Nat.pow_succ, Nat.mul_comm]
    have hl : 8 ≤ 2 * i * 2 ^ d := by rw [e, ← Nat.mul_assoc, Nat.mul_comm i 2] at h8; exact h8
    have hr : 8 ≤ (2 * i + 1) * 2 ^ d := Nat.le_trans hl (Nat.mul_le_mul_right _ (by omega))
    by_cases hn : nd P f (d + 1) i = nd P g (d + 1) i
    · rw [hn]
      refine nd_ext P h g (d + 1) i h8 (fun k hk => (hh k hk).2 ?_)
      rw [ptK_alike hn]
      simp
    · have hm : ∀ k, k ∈ ptK P f g (d + 1) i ↔ k ∈ ptK P f g d (2 * i) ∨ k ∈ ptK P f g d (2 * i + 1) := fun k => by
        rw [ptK, if_neg hn, List.mem_append]
      have e1 : nd P h d (2 * i) = nd P f d (2 * i) := by
        refine ih _ hl (fun k hk => ⟨fun hx => (hh k (under_left hk)).1 ((hm k).2 (Or.inl hx)), fun hx => (hh k (under_left hk)).2 (fun hy => ?_)⟩)
        rcases (hm k).1 hy with h1 | h1
        · exact hx h1
        · exact absurd (under_part hk (ptK_under P f g d _ k hr h1).1) (Nat.lt_irrefl _)
      have e2 : nd P h d (2 * i + 1) = nd P f d (2 * i + 1) := by
        refine ih _ hr (fun k hk => ⟨fun hx => (hh k (under_right hk)).1 ((hm k).2 (Or.inr hx)), fun hx => (hh k (under_right hk)).2 (fun hy => ?_)⟩)
        rcases (hm k).1 hy with h1 | h1
        · exact absurd (under_part (ptK_under P f g d _ k hl h1).1 hk) (Nat.lt_irrefl _)
        · exact hx h1
      rw [nd, nd, e1, e2]
end Go.Proofs.YtpcnfoaoajfhlaaGreatDoor

namespace Go.Proofs.YtpcnfoaoajfhlaaGreatDoor
set_option linter.unusedVariables false
set_option linter.unusedSimpArgs false
open Go.RowKit

/-- off the keys told each tree has what it had, on them both have the same: then their nodes are the same -/
theorem nd_swapped (P : Nat → Nat → Nat) (f g f' g' : Nat → Nat) : ∀ d i, 8 ≤ i * 2 ^ d → (∀ k, under d i k → (k ∈ ptK P f g d i → f' k = g' k) ∧ (k ∉ ptK P f g d i → f' k = f k ∧ g' k = g k)) → nd P f' d i = nd P g' d i := by
  intro d
  induction d with
  | zero =>
    intro i h8 h
    have hu : under 0 i (i - 8) := by
      constructor <;> simp only [Nat.pow_zero, Nat.mul_one] at h8 ⊢ <;> omega
    obtain ⟨h1, h2⟩ := h (i - 8) hu
    show f' (i - 8) = g' (i - 8)
    by_cases e : f (i - 8) = g (i - 8)
    · obtain ⟨e1, e2⟩ := h2 (by rw [ptK, if_pos e]; simp)
      rw [e1, e2, e]
    · exact h1 (by rw [ptK, if_neg e]; simp)
  | succ d ih =>
    intro i h8 h
    have e : 2 ^ (d + 1) = 2 * 2 ^ d := by rw [Nat.pow_succ, Nat.mul_comm]
    have hl : 8 ≤ 2 * i * 2 ^ d := by rw [Nat.mul_comm 2 i, Nat.mul_assoc, ← e]; exact h8
    have hr : 8 ≤ (2 * i + 1) * 2 ^ d := Nat.le_trans hl (Nat.mul_le_mul_right _ (by omega))
    by_cases hn : nd P f (d + 1) i = nd P g (d + 1) i
    · have h0 : ptK P f g (d + 1) i = [] := ptK_alike hn
      have hf : nd P f' (d + 1) i = nd P f (d + 1) i := nd_ext P f' f (d + 1) i h8 (fun k hk => ((h k hk).2 (by rw [h0]; simp)).1)
      have hg : nd P g' (d + 1) i = nd P g (d + 1) i := nd_ext P g' g (d + 1) i h8 (fun k hk => ((h k hk).2 (by rw [h0]; simp)).2)
      rw [hf, hg, hn]
    · have hK : ptK P f g (d + 1) i = ptK P f g d (2 * i) ++ ptK P f g d (2 * i + 1) := by rw [ptK, if_neg hn]
      have e1 : nd P f' d (2 * i) = nd P g' d (2 * i) := ih (2 * i) hl (fun k hk => by
        obtain ⟨h1, h2⟩ := h k (under_left hk)
        rw [hK] at h1 h2
        refine ⟨fun hm => h1 (List.mem_append_left _ hm), fun hm => h2 (fun hm' => ?_)⟩
        rcases List.mem_append.1 hm' with h3 | h3
        · exact hm h3
        · have := (ptK_under P f g d (2 * i + 1) k hr h3).1
          have := under_part hk this
          omega)
      have e2 : nd P f' d (2 * i + 1) = nd P g' d (2 * i + 1) := ih (2 * i + 1) hr (fun k hk => by
        obtain ⟨h1, h2⟩ := h k (under_right hk)
        rw [hK] at h1 h2
        refine ⟨fun hm => h1 (List.mem_append_right _ hm), fun hm => h2 (fun hm' => ?_)⟩
        rcases List.mem_append.1 hm' with h3 | h3
        · have := (ptK_under P f g d (2 * i) k hl h3).1
          have := under_part this hk
          omega
        · exact hm h3)
      rw [nd, nd, e1, e2]
end Go.Proofs.YtpcnfoaoajfhlaaGreatDoor

namespace Go.Proofs.YtpcnfoaoajfhlaaGreatDoor
set_option linter.unusedVariables false
set_option linter.unusedSimpArgs false
open Go.RowKit

/-- one byte more -/
def stepH (n c : Nat) : Nat := ((n ^^^ c) * 16777619) % 4294967296
/-- the number of a text -/
def hashL (l : List Nat) : Nat := l.foldl stepH 2166136261
theorem stepH_lt (n c : Nat) : stepH n c < 4294967296 := Nat.mod_lt _ (by omega)
theorem hashL_lt (l : List Nat) : hashL l < 4294967296 := by
  have key : ∀ (l : List Nat) (n : Nat), n < 4294967296 → l.foldl stepH n < 4294967296 := by
    intro l
    induction l with
    | nil => intro n h; exact h
    | cons c l ih => intro n _; exact ih _ (stepH_lt n c)
  exact key l _ (by omega)
theorem foldl_more {α β : Type} (f : β → α → β) (b : β) (l : List α) (c : α) : (l ++ [c]).foldl f b = f (l.foldl f b) c := by simp
theorem hashL_more (l : List Nat) (c : Nat) : hashL (l ++ [c]) = stepH (hashL l) c := foldl_more stepH 2166136261 l c
theorem mul_undo {a b : Nat} (ha : a < 4294967296) (hb : b < 4294967296) (h : (a * 16777619) % 4294967296 = (b * 16777619) % 4294967296) : a = b := by
  have e : ∀ x : Nat, x < 4294967296 → ((x * 16777619) % 4294967296 * 899433627) % 4294967296 = x := by
    intro x hx
    rw [Nat.mod_mul_mod, Nat.mul_assoc]
    have : 16777619 * 899433627 = 1 + 4294967296 * 3513497 := by decide
    rw [this, Nat.mul_add, Nat.mul_one, Nat.mul_left_comm, Nat.add_mul_mod_self_left]
    exact Nat.mod_eq_of_lt hx
  rw [← e a ha, ← e b hb, h]
theorem xor_lt32 {n c : Nat} (hn : n < 4294967296) (hc : c < 256) : n ^^^ c < 4294967296 :=
  Nat.xor_lt_two_pow (n := 32) hn (by omega)
/-- unlike bytes behind make unlike numbers -/
theorem stepH_inj {n c d : Nat} (hn : n < 4294967296) (hc : c < 256) (hd : d < 256) (h : stepH n c = stepH n d) : c = d := by
  have h1 := mul_undo (xor_lt32 hn hc) (xor_lt32 hn hd) h
  have h2 : n ^^^ (n ^^^ c) = n ^^^ (n ^^^ d) := by rw [h1]
  rwa [← Nat.xor_assoc, ← Nat.xor_assoc, Nat.xor_self, Nat.zero_xor, Nat.zero_xor] at h2
/-- the exclusive or of the low k bits, as the document sums it -/
def bitsX (a b : Nat) : Nat → Nat
  | 0 => 0
  | k + 1 => bitsX a b k + (if a / 2 ^ k % 2 ≠ b / 2 ^ k % 2 then 2 ^ k else 0)
theorem xor_bit (a b k : Nat) : (a ^^^ b) / 2 ^ k % 2 = if a / 2 ^ k % 2 ≠ b / 2 ^ k % 2 then 1 else 0 := by
  rw [← Nat.shiftRight_eq_div_pow, Nat.shiftRight_xor_distrib, Nat.shiftRight_eq_div_pow, Nat.shiftRight_eq_div_pow]
  have h := Nat.xor_mod_two_eq_one (a := a / 2 ^ k) (b := b / 2 ^ k)
  have h0 := Nat.mod_two_eq_zero_or_one (a / 2 ^ k ^^^ b / 2 ^ k)
  split
  · rename_i hne
    exact h.2 (by omega)
  · rename_i hne
    rcases h0 with h0 | h0
    · exact h0
    · have := h.1 h0
      omega
theorem bitsX_mod (a b k : Nat) : bitsX a b k = (a ^^^ b) % 2 ^ k := by
  induction k with
  | zero => simp [bitsX, Nat.mod_one]
  | succ k ih =>
    rw [bitsX, ih, Nat.mod_pow_succ, xor_bit]
    split <;> simp
theorem bitsX_eight {a b : Nat} (ha : a < 256) (hb : b < 256) : bitsX a b 8 = a ^^^ b := by
  rw [bitsX_mod]
  exact Nat.mod_eq_of_lt (Nat.xor_lt_two_pow (n := 8) ha hb)
/-- the low byte alone is changed -/
theorem low_xor {n c : Nat} (hc : c < 256) : n - n % 256 + bitsX (n % 256) c 8 = n ^^^ c := by
  rw [bitsX_eight (Nat.mod_lt _ (by omega)) hc]
  have h1 : (n ^^^ c) % 256 = (n % 256) ^^^ c := by
    have := Nat.xor_mod_two_pow (a := n) (b := c) (n := 8)
    rw [show (2 : Nat) ^ 8 = 256 from rfl] at this
    rw [this, Nat.mod_eq_of_lt hc]
  have h2 : (n ^^^ c) / 256 = n / 256 := by
    rw [show (256 : Nat) = 2 ^ 8 from rfl, ← Nat.shiftRight_eq_div_pow, Nat.shiftRight_xor_distrib, Nat.shiftRight_eq_div_pow, Nat.shiftRight_eq_div_pow, Nat.div_eq_of_lt (a := c) hc, Nat.xor_zero]
  rw [← h1]
  have h3 := Nat.div_add_mod (n ^^^ c) 256
  have h4 := Nat.div_add_mod n 256
  omega
end Go.Proofs.YtpcnfoaoajfhlaaGreatDoor

namespace Go.Proofs.YtpcnfoaoajfhlaaGreatDoor
set_option linter.unusedVariables false
set_option linter.unusedSimpArgs false
open Go.RowKit

/-- a text's bytes as numbers -/
def byN (s : ByteArray) : List Nat := s.data.toList.map UInt8.toNat
theorem byN_len (s : ByteArray) : (byN s).length = s.size := by
  rw [byN, List.length_map, Array.length_toList]
  rfl

theorem xor_u32 (a b : Nat) (ha : a < 4294967296) (hb : b < 4294967296) : bits .xor .u32 (a : Int) (b : Int) = ((a ^^^ b : Nat) : Int) := by
  have hx : a ^^^ b < 4294967296 := Nat.xor_lt_two_pow (n := 32) ha hb
  have e : ∀ x : Nat, x < 4294967296 → (BitVec.ofInt 32 (x : Int)).toNat = x := fun x h => by
    rw [BitVec.ofInt_natCast, BitVec.toNat_ofNat]
    exact Nat.mod_eq_of_lt h
  show IntKind.u32.wrap ((BitVec.ofInt 32 (a : Int) ^^^ BitVec.ofInt 32 (b : Int)).toNat : Int) = _
  rw [BitVec.toNat_xor, e a ha, e b hb]
  have hw : ∀ n : Int, IntKind.u32.wrap n = n % 4294967296 := fun n => by simp [IntKind.wrap, IntKind.bits, IntKind.signed]
  rw [hw]
  omega
/-- a step, as the program makes it -/
theorem step_u32 (m c : Nat) (hm : m < 4294967296) (hc : c < 256) : bits BinOp.xor IntKind.u32 (m : Int) ((c : Int) % 4294967296) * 16777619 % 4294967296 = (stepH m c : Nat) := by
  rw [show ((c : Int) % 4294967296) = (c : Int) by omega, xor_u32 m c hm (by omega)]
  obtain ⟨x, hx⟩ : ∃ x, x = m ^^^ c := ⟨_, rfl⟩
  have e : stepH m c = (x * 16777619) % 4294967296 := by rw [hx, stepH]
  rw [e, ← hx]
  omega
/-- one byte more of a text -/
theorem hash_take (s : ByteArray) (j : Nat) (h : j < s.size) : hashL ((byN s).take (j + 1)) = stepH (hashL ((byN s).take j)) s[j].toNat := by
  have hl : j < (byN s).length := by rw [byN_len]; exact h
  have e : (byN s)[j] = s[j].toNat := by simp [byN]; rfl
  rw [List.take_succ_eq_append_getElem hl, hashL_more, e]
theorem hash_all (s : ByteArray) (j : Nat) (h : ¬ j < s.size) : hashL ((byN s).take j) = hashL (byN s) := by
  rw [List.take_of_length_le (by rw [byN_len]; omega)]

set_option maxHeartbeats 4000000 in
theorem number_c (s : ByteArray) (w : World) (hs : s.size ≤ 9223372036854775807) :
    Calls Tryz.prog 145 #[.string s] w fun e w' => e = .returned (.int .i64 (hashL (byN s) : Nat)) ∧ w' = w := by
  obtain ⟨R, HR⟩ : ∃ R : Nat, Hid (hashL (byN s) = R) := ⟨_, rfl⟩
  rw [HR.out]
  go_enter Tryz.func145, Tryz.ntmps145
  go_wp2_with fail
  go_loopw [3, 7] (fun x i wr => ∃ (j : Nat) (m : Nat), j ≤ s.size ∧ i = .int .i64 j ∧ x = .int .u32 m ∧ m < 4294967296 ∧ wr = w ∧ Hid (m = hashL ((byN s).take j))) (fun _ i _ => s.size - (intOf i).toNat)
  case atStart => exact ⟨0, 2166136261, Nat.zero_le _, rfl, rfl, by omega, rfl, by rw [List.take_zero]; rfl⟩
  case round =>
    obtain ⟨j, m, hj, rfl, rfl, hm, rfl, HE⟩ := hrel
    by_cases hlt : j < s.size
    · go_wp2_with fail
      go_roundw
      case rel =>
        refine ⟨j + 1, stepH m s[j].toNat, by omega, by go_num, ?_, stepH_lt _ _, trivial, ?_⟩
        · rw [step_u32 m s[j].toNat hm (UInt8.toNat_lt _)]
        · show _ = _
          rw [hash_take s j hlt, ← HE.out]
      case measure => simp [intOf]; omega
    · go_wp2_with fail
      go_ret
      have e : m = R := by rw [HE.out, hash_all s j hlt]; exact HR.out
      exact ⟨by rw [← e]; rfl, rfl⟩
end Go.Proofs.YtpcnfoaoajfhlaaGreatDoor
