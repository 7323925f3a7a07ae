/-
  Whom a node asks, on numbers: each of the others in its turn.
-/
import Derived.Test.YtagboglgpdponafDoorEn2
namespace Go.Proofs.YtagboglgpdponafDoor
set_option linter.unusedVariables false
set_option linter.unusedSimpArgs false
open Go.RowKit

/-- one on, and round -/
def onN (n a : Nat) : Nat := if a + 1 = n then 0 else a + 1
/-- the next one that is not me -/
def stepN (me n a : Nat) : Nat := if onN n a = me then onN n (onN n a) else onN n a
/-- whom at the r-th turn of a round -/
def tgR (me n r : Nat) : Nat := if me + 1 + r < n then me + 1 + r else me + 1 + r - n
/-- whom at a turn -/
def tgN (me n t : Nat) : Nat := tgR me n (t % (n - 1))
/-- the turn of a round at which one is asked -/
def whR (me n a : Nat) : Nat := if me < a then a - me - 1 else a + n - me - 1
theorem mod_succ {t k : Nat} (hk : 0 < k) : (t + 1) % k = if t % k + 1 = k then 0 else t % k + 1 := by
  have h := Nat.mod_lt t hk
  have e : t + 1 = k * (t / k) + (t % k + 1) := by have := Nat.div_add_mod t k; omega
  split
  · rename_i h1
    rw [e, h1, Nat.mul_add_mod, Nat.mod_self]
  · rw [e, Nat.mul_add_mod, Nat.mod_eq_of_lt (by omega)]
theorem tgR_lt {me n r : Nat} (hm : me < n) (hr : r < n - 1) : tgR me n r < n := by
  unfold tgR
  split <;> omega
theorem tgR_ne {me n r : Nat} (hm : me < n) (hr : r < n - 1) : tgR me n r ≠ me := by
  unfold tgR
  split <;> omega
theorem tgR_inj {me n r s : Nat} (hm : me < n) (hr : r < n - 1) (hs : s < n - 1) (h : tgR me n r = tgR me n s) : r = s := by
  unfold tgR at h
  split at h <;> split at h <;> omega
theorem tgR_step {me n r : Nat} (hm : me < n) (hr : r < n - 1) : stepN me n (tgR me n r) = tgR me n (if r + 1 = n - 1 then 0 else r + 1) := by
  unfold stepN onN tgR
  split <;> split <;> split <;> (try split) <;> (try split) <;> (try split) <;> omega
theorem tgR_first {me n : Nat} (hm : me < n) (hn : 2 ≤ n) : stepN me n me = tgR me n 0 := by
  unfold stepN onN tgR
  split <;> split <;> (try split) <;> (try split) <;> omega
theorem tgN_first {me n : Nat} (hm : me < n) (hn : 2 ≤ n) : stepN me n me = tgN me n 0 := by
  unfold tgN
  rw [Nat.zero_mod]
  exact tgR_first hm hn
theorem tgN_step {me n t : Nat} (hm : me < n) (hn : 2 ≤ n) : stepN me n (tgN me n t) = tgN me n (t + 1) := by
  unfold tgN
  rw [tgR_step hm (Nat.mod_lt _ (by omega)), mod_succ (by omega)]
theorem tgN_lt {me n t : Nat} (hm : me < n) (hn : 2 ≤ n) : tgN me n t < n := tgR_lt hm (Nat.mod_lt _ (by omega))
theorem tgN_ne {me n t : Nat} (hm : me < n) (hn : 2 ≤ n) : tgN me n t ≠ me := tgR_ne hm (Nat.mod_lt _ (by omega))
theorem whR_lt {me n a : Nat} (hm : me < n) (ha : a < n) (hne : a ≠ me) : whR me n a < n - 1 := by
  unfold whR
  split <;> omega
theorem tgR_wh {me n a : Nat} (hm : me < n) (ha : a < n) (hne : a ≠ me) : tgR me n (whR me n a) = a := by
  unfold tgR whR
  split <;> split <;> omega
theorem whR_tg {me n r : Nat} (hm : me < n) (hr : r < n - 1) : whR me n (tgR me n r) = r := tgR_inj hm (whR_lt hm (tgR_lt hm hr) (tgR_ne hm hr)) hr (tgR_wh hm (tgR_lt hm hr) (tgR_ne hm hr))
theorem tgN_small {me n r : Nat} (hr : r < n - 1) : tgN me n r = tgR me n r := by
  unfold tgN
  rw [Nat.mod_eq_of_lt hr]
/-- the first turn at which one is asked -/
theorem tgN_wh {me n a : Nat} (hm : me < n) (ha : a < n) (hne : a ≠ me) : tgN me n (whR me n a) = a := by
  rw [tgN_small (whR_lt hm ha hne), tgR_wh hm ha hne]
theorem tgN_early {me n a t : Nat} (hm : me < n) (ha : a < n) (hne : a ≠ me) (ht : t < whR me n a) : tgN me n t ≠ a := by
  intro h
  have h1 := whR_lt hm ha hne
  rw [tgN_small (by omega)] at h
  have := whR_tg hm (show t < n - 1 by omega)
  rw [h] at this
  omega
theorem wh_tgN {me n t : Nat} (hm : me < n) (hn : 2 ≤ n) : whR me n (tgN me n t) = t % (n - 1) := whR_tg hm (Nat.mod_lt _ (by omega))
/-- as a remainder -/
theorem tgN_mod {me n t : Nat} (hm : me < n) (hn : 2 ≤ n) : tgN me n t = (me + 1 + t % (n - 1)) % n := by
  unfold tgN tgR
  have := Nat.mod_lt t (show 0 < n - 1 by omega)
  generalize t % (n - 1) = r at *
  split
  · rename_i h
    rw [Nat.mod_eq_of_lt h]
  · rename_i h
    rw [Nat.mod_eq_sub_mod (show n ≤ me + 1 + r by omega), Nat.mod_eq_of_lt (show me + 1 + r - n < n by omega)]
/-- a row of turns -/
def rowN (me n t many : Nat) : List Nat := (List.range many).map (fun i => tgN me n (t + i))
theorem rowN_len (me n t many : Nat) : (rowN me n t many).length = many := by simp [rowN]
theorem rowN_at {me n t many i : Nat} (hi : i < (rowN me n t many).length) : (rowN me n t many)[i] = tgN me n (t + i) := by simp [rowN]
theorem rowN_succ (me n t many : Nat) : rowN me n t (many + 1) = rowN me n t many ++ [tgN me n (t + many)] := by simp [rowN, List.range_succ]
theorem mod_unlike {t i j k : Nat} (hij : i < j) (hj : j < k) : (t + i) % k ≠ (t + j) % k := by
  intro h
  have h1 := Nat.div_add_mod (t + i) k
  have h2 := Nat.div_add_mod (t + j) k
  rw [h] at h1
  have h3 : k * ((t + j) / k) = k * ((t + i) / k) + (j - i) := by omega
  have h4 : (k * ((t + j) / k)) % k = 0 := Nat.mul_mod_right _ _
  rw [h3, Nat.mul_add_mod, Nat.mod_eq_of_lt (by omega)] at h4
  omega
/-- within a round each is another -/
theorem rowN_unlike {me n t i j : Nat} (hm : me < n) (hn : 2 ≤ n) (hij : i < j) (hj : j < n - 1) : tgN me n (t + i) ≠ tgN me n (t + j) := fun h =>
  mod_unlike hij hj (tgR_inj hm (Nat.mod_lt _ (by omega)) (Nat.mod_lt _ (by omega)) h)
end Go.Proofs.YtagboglgpdponafDoor
