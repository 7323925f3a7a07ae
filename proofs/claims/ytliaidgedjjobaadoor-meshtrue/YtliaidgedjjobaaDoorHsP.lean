/-
  The number of a text, on lists of bytes: a step, how it is undone, and the exclusive or bit by bit.
-/
import Derived.Test.YtliaidgedjjobaaDoorEn
namespace Go.Proofs.YtliaidgedjjobaaDoor
set_option linter.unusedVariables false
set_option linter.unusedSimpArgs false
open Go.RowKit

/-- one byte more -/
def stepH (n c : Nat) : Nat := ((n ^^^ c) * 16777619) % 4294967296
/-- the number of a text -/
def hashL (l : List Nat) : Nat := l.foldl stepH 2166136261
theorem stepH_lt (n c : Nat) : stepH n c < 4294967296 := Nat.mod_lt _ (by omega)
theorem hashL_lt (l : List Nat) : hashL l < 4294967296 := by
  have key : ∀ (l : List Nat) (n : Nat), n < 4294967296 → l.foldl stepH n < 4294967296 := by
    intro l
    induction l with
    | nil => intro n h; exact h
    | cons c l ih => intro n _; exact ih _ (stepH_lt n c)
  exact key l _ (by omega)
theorem foldl_more {α β : Type} (f : β → α → β) (b : β) (l : List α) (c : α) : (l ++ [c]).foldl f b = f (l.foldl f b) c := by simp
theorem hashL_more (l : List Nat) (c : Nat) : hashL (l ++ [c]) = stepH (hashL l) c := foldl_more stepH 2166136261 l c
theorem mul_undo {a b : Nat} (ha : a < 4294967296) (hb : b < 4294967296) (h : (a * 16777619) % 4294967296 = (b * 16777619) % 4294967296) : a = b := by
  have e : ∀ x : Nat, x < 4294967296 → ((x * 16777619) % 4294967296 * 899433627) % 4294967296 = x := by
    intro x hx
    rw [Nat.mod_mul_mod, Nat.mul_assoc]
    have : 16777619 * 899433627 = 1 + 4294967296 * 3513497 := by decide
    rw [this, Nat.mul_add, Nat.mul_one, Nat.mul_left_comm, Nat.add_mul_mod_self_left]
    exact Nat.mod_eq_of_lt hx
  rw [← e a ha, ← e b hb, h]
theorem xor_lt32 {n c : Nat} (hn : n < 4294967296) (hc : c < 256) : n ^^^ c < 4294967296 :=
  Nat.xor_lt_two_pow (n := 32) hn (by omega)
/-- unlike bytes behind make unlike numbers -/
theorem stepH_inj {n c d : Nat} (hn : n < 4294967296) (hc : c < 256) (hd : d < 256) (h : stepH n c = stepH n d) : c = d := by
  have h1 := mul_undo (xor_lt32 hn hc) (xor_lt32 hn hd) h
  have h2 : n ^^^ (n ^^^ c) = n ^^^ (n ^^^ d) := by rw [h1]
  rwa [← Nat.xor_assoc, ← Nat.xor_assoc, Nat.xor_self, Nat.zero_xor, Nat.zero_xor] at h2
/-- the exclusive or of the low k bits, as the document sums it -/
def bitsX (a b : Nat) : Nat → Nat
  | 0 => 0
  | k + 1 => bitsX a b k + (if a / 2 ^ k % 2 ≠ b / 2 ^ k % 2 then 2 ^ k else 0)
theorem xor_bit (a b k : Nat) : (a ^^^ b) / 2 ^ k % 2 = if a / 2 ^ k % 2 ≠ b / 2 ^ k % 2 then 1 else 0 := by
  rw [← Nat.shiftRight_eq_div_pow, Nat.shiftRight_xor_distrib, Nat.shiftRight_eq_div_pow, Nat.shiftRight_eq_div_pow]
  have h := Nat.xor_mod_two_eq_one (a := a / 2 ^ k) (b := b / 2 ^ k)
  have h0 := Nat.mod_two_eq_zero_or_one (a / 2 ^ k ^^^ b / 2 ^ k)
  split
  · rename_i hne
    exact h.2 (by omega)
  · rename_i hne
    rcases h0 with h0 | h0
    · exact h0
    · have := h.1 h0
      omega
theorem bitsX_mod (a b k : Nat) : bitsX a b k = (a ^^^ b) % 2 ^ k := by
  induction k with
  | zero => simp [bitsX, Nat.mod_one]
  | succ k ih =>
    rw [bitsX, ih, Nat.mod_pow_succ, xor_bit]
    split <;> simp
theorem bitsX_eight {a b : Nat} (ha : a < 256) (hb : b < 256) : bitsX a b 8 = a ^^^ b := by
  rw [bitsX_mod]
  exact Nat.mod_eq_of_lt (Nat.xor_lt_two_pow (n := 8) ha hb)
/-- the low byte alone is changed -/
theorem low_xor {n c : Nat} (hc : c < 256) : n - n % 256 + bitsX (n % 256) c 8 = n ^^^ c := by
  rw [bitsX_eight (Nat.mod_lt _ (by omega)) hc]
  have h1 : (n ^^^ c) % 256 = (n % 256) ^^^ c := by
    have := Nat.xor_mod_two_pow (a := n) (b := c) (n := 8)
    rw [show (2 : Nat) ^ 8 = 256 from rfl] at this
    rw [this, Nat.mod_eq_of_lt hc]
  have h2 : (n ^^^ c) / 256 = n / 256 := by
    rw [show (256 : Nat) = 2 ^ 8 from rfl, ← Nat.shiftRight_eq_div_pow, Nat.shiftRight_xor_distrib, Nat.shiftRight_eq_div_pow, Nat.shiftRight_eq_div_pow, Nat.div_eq_of_lt (a := c) hc, Nat.xor_zero]
  rw [← h1]
  have h3 := Nat.div_add_mod (n ^^^ c) 256
  have h4 := Nat.div_add_mod n 256
  omega
end Go.Proofs.YtliaidgedjjobaaDoor
