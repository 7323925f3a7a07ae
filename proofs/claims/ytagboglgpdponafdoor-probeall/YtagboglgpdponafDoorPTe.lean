/-
  Package probe's Target, Row and When, whatever comes in; their answers with letters.
-/
import Derived.Test.YtagboglgpdponafDoorPrR
import Derived.Test.YtagboglgpdponafDoorErrA
namespace Go.Proofs.YtagboglgpdponafDoor
set_option linter.unusedVariables false
set_option linter.unusedSimpArgs false
open Go.RowKit

def prE (me n : Int) : Int := if isOfB me n = true then 0 else 1
def tgE (me n t : Int) : Int := if (isOfB me n && inR t 0 60) = true then 0 else 1
def tgV (me n t : Int) : Int := if (isOfB me n && inR t 0 60) = true then ((tgN me.toNat n.toNat t.toNat : Nat) : Int) else 0
def rwE (me n t k : Int) : Int := if (isOfB me n && inR t 0 60 && inR k 0 60) = true then 0 else 1
def rwL (me n t k : Int) : List Int := if (isOfB me n && inR t 0 60 && inR k 0 60) = true then rowZ me.toNat n.toNat t.toNat k.toNat else []
def whE (me n a : Int) : Int := if isOfB me n = true then (if isOfB a n = true then (if a = me then 5 else 0) else 1) else 1
def whV (me n a : Int) : Int := if whE me n a = 0 then ((whR me.toNat n.toNat a.toNat : Nat) : Int) else 0
theorem in_nat {t : Int} {m : Nat} (h : inR t 0 m = true) : ∃ k : Nat, t = k ∧ k ≤ m := by
  have : 0 ≤ t ∧ t ≤ (m : Int) := by simpa [inR] using h
  exact ⟨t.toNat, by omega, by omega⟩
theorem target_e (me n t E V : Int) (w : World) (hE : tgE me n t = E) (hV : tgV me n t = V) :
    Calls Tryd.prog 13 #[.int .i64 me, .int .i64 n, .int .i64 t] w fun e w' => e = .returned (.tuple #[.int .i64 V, eV E]) ∧ w' = w := by
  subst hE hV
  unfold tgE tgV
  split
  · rename_i h
    rw [Bool.and_eq_true] at h
    obtain ⟨me, n, rfl, rfl, hm, hn, hn6⟩ := isOf_nat h.1
    obtain ⟨t, rfl, ht⟩ := in_nat (m := 60) h.2
    rw [eV_zero]
    exact target_ok me n t w hm hn hn6 ht
  · rename_i h
    rw [eV_err (by omega)]
    exact target_bad me n t w (by simpa using h)
theorem row_e (me n t k E : Int) (L : List Int) (w : World) (hE : rwE me n t k = E) (hL : rwL me n t k = L) :
    Calls Tryd.prog 14 #[.int .i64 me, .int .i64 n, .int .i64 t, .int .i64 k] w fun e w' => ∃ v, e = .returned (.tuple #[v, eV E]) ∧ IntsIs w' v L ∧ Below w.heap.size w w' := by
  subst hE hL
  unfold rwE rwL
  split
  · rename_i h
    rw [Bool.and_eq_true, Bool.and_eq_true] at h
    obtain ⟨me, n, rfl, rfl, hm, hn, hn6⟩ := isOf_nat h.1.1
    obtain ⟨t, rfl, ht⟩ := in_nat (m := 60) h.1.2
    obtain ⟨k, rfl, hk⟩ := in_nat (m := 60) h.2
    rw [eV_zero]
    refine (row_ok me n t k w hm hn hn6 ht hk).mono ?_
    rintro e w' ⟨rfl, h1, h2⟩
    exact ⟨_, rfl, h1.ints (by unfold maxLen; omega), h2⟩
  · rename_i h
    rw [eV_err (by omega)]
    refine (row_bad me n t k w (by simpa using h)).mono ?_
    rintro e w' ⟨rfl, rfl⟩
    exact ⟨_, rfl, IntsIs.nil _, Below.refl _ _⟩
theorem when_e (me n a E V : Int) (w : World) (hE : whE me n a = E) (hV : whV me n a = V) :
    Calls Tryd.prog 16 #[.int .i64 me, .int .i64 n, .int .i64 a] w fun e w' => e = .returned (.tuple #[.int .i64 V, eV E]) ∧ w' = w := by
  subst hE hV
  unfold whV
  by_cases h1 : isOfB me n = true
  · by_cases h2 : isOfB a n = true
    · obtain ⟨me, n, rfl, rfl, hm, hn, hn6⟩ := isOf_nat h1
      obtain ⟨a, m, rfl, hnm, ha, _, _⟩ := isOf_nat h2
      obtain rfl : n = m := by omega
      by_cases h3 : (a : Int) = (me : Int)
      · obtain rfl : a = me := by omega
        have e : whE (a : Int) (n : Int) (a : Int) = 5 := by unfold whE; rw [if_pos h1, if_pos h2, if_pos rfl]
        rw [e, if_neg (by omega), eV_err (by omega)]
        exact when_me a n w hm hn hn6
      · have e : whE (me : Int) (n : Int) (a : Int) = 0 := by unfold whE; rw [if_pos h1, if_pos h2, if_neg h3]
        rw [e, if_pos rfl, eV_zero]
        exact when_ok me n a w hm hn hn6 ha (by omega)
    · have e : whE me n a = 1 := by unfold whE; rw [if_pos h1, if_neg h2]
      rw [e, if_neg (by omega), eV_err (by omega)]
      exact when_bad me n a w (by simp at h2; rw [h2]; simp)
  · have e : whE me n a = 1 := by unfold whE; rw [if_neg h1]
    rw [e, if_neg (by omega), eV_err (by omega)]
    exact when_bad me n a w (by simp at h1; rw [h1]; simp)
theorem ints_same {va vb : Value} {l : List Int} (w : World) (ha : IntsIs w va l) (hb : IntsIs w vb l) :
    Calls Tryd.prog 15 #[va, vb] w fun e w' => e = .returned (.bool true) ∧ Below w.heap.size w w' := by
  have c := ints_c va vb l l w ha hb
  rw [show (l == l) = true by simp] at c
  exact c
theorem isOf_no {a n : Int} (h : n < 2 ∨ 6 < n ∨ a < 0 ∨ n ≤ a) : isOfB a n = false := by
  cases h2 : isOfB a n
  · rfl
  · have := (isOf_iff a n).1 h2
    omega
theorem isOf_yes {a n : Int} (h1 : ¬ n < 2) (h2 : ¬ 6 < n) (h3 : ¬ a < 0) (h4 : ¬ n ≤ a) : isOfB a n = true := (isOf_iff a n).2 (by omega)
theorem in_no {t m : Int} (h : t < 0 ∨ m < t) : inR t 0 m = false := by
  simp [inR]
  omega
theorem in_yes {t m : Int} (h1 : ¬ t < 0) (h2 : ¬ m < t) : inR t 0 m = true := by
  simp [inR]
  omega
theorem tgE_pr {me n t : Int} : tgE me n t = if inR t 0 60 = true then prE me n else 1 := by
  unfold tgE prE
  cases isOfB me n <;> cases inR t 0 60 <;> rfl
theorem rwE_tg {me n t k : Int} : rwE me n t k = if inR k 0 60 = true then tgE me n t else 1 := by
  unfold rwE tgE
  cases isOfB me n <;> cases inR t 0 60 <;> cases inR k 0 60 <;> rfl
theorem tgE_zero {me n t : Int} (h : tgE me n t = 0) : ∃ a m k : Nat, me = a ∧ n = m ∧ t = k ∧ a < m ∧ 2 ≤ m ∧ m ≤ 6 ∧ k ≤ 60 ∧ tgV me n t = ((tgN a m k : Nat) : Int) := by
  unfold tgE at h
  split at h
  · rename_i h0
    have h1 := h0
    rw [Bool.and_eq_true] at h0
    obtain ⟨a, m, rfl, rfl, hm, hn, hn6⟩ := isOf_nat h0.1
    obtain ⟨k, rfl, hk⟩ := in_nat (m := 60) h0.2
    exact ⟨a, m, k, rfl, rfl, rfl, hm, hn, hn6, hk, by unfold tgV; rw [if_pos h1]; rfl⟩
  · cases h
theorem tgE_not {me n t : Int} (h : tgE me n t ≠ 0) : tgV me n t = 0 := by
  unfold tgE at h
  unfold tgV
  split
  · rename_i h0
    rw [if_pos h0] at h
    exact absurd rfl h
  · rfl
theorem rwE_zero {me n t k : Int} (h : rwE me n t k = 0) : ∃ a m u q : Nat, me = a ∧ n = m ∧ t = u ∧ k = q ∧ a < m ∧ 2 ≤ m ∧ m ≤ 6 ∧ u ≤ 60 ∧ q ≤ 60 ∧ rwL me n t k = rowZ a m u q := by
  unfold rwE at h
  split at h
  · rename_i h0
    have h1 := h0
    rw [Bool.and_eq_true, Bool.and_eq_true] at h0
    obtain ⟨a, m, rfl, rfl, hm, hn, hn6⟩ := isOf_nat h0.1.1
    obtain ⟨u, rfl, hu⟩ := in_nat (m := 60) h0.1.2
    obtain ⟨q, rfl, hq⟩ := in_nat (m := 60) h0.2
    exact ⟨a, m, u, q, rfl, rfl, rfl, rfl, hm, hn, hn6, hu, hq, by unfold rwL; rw [if_pos h1]; rfl⟩
  · cases h
theorem rwE_not {me n t k : Int} (h : rwE me n t k ≠ 0) : rwL me n t k = [] := by
  unfold rwE at h
  unfold rwL
  split
  · rename_i h0
    rw [if_pos h0] at h
    exact absurd rfl h
  · rfl
theorem prE_zero {me n : Int} (h : prE me n = 0) : isOfB me n = true := by
  unfold prE at h
  split at h
  · assumption
  · cases h
theorem prE_not {me n : Int} (h : prE me n ≠ 0) : prE me n = 1 ∧ ∀ a, whE me n a = 1 := by
  unfold prE at *
  split
  · rename_i h0
    rw [if_pos h0] at h
    exact absurd rfl h
  · rename_i h0
    exact ⟨rfl, fun a => by unfold whE; rw [if_neg h0]⟩
theorem whE_zero {me n a : Int} (h : whE me n a = 0) : ∃ b m c : Nat, me = b ∧ n = m ∧ a = c ∧ b < m ∧ 2 ≤ m ∧ m ≤ 6 ∧ c < m ∧ c ≠ b ∧ whV me n a = ((whR b m c : Nat) : Int) := by
  have h' := h
  unfold whE at h
  split at h
  · rename_i h1
    split at h
    · rename_i h2
      split at h
      · cases h
      · rename_i h3
        obtain ⟨b, m, rfl, rfl, hm, hn, hn6⟩ := isOf_nat h1
        obtain ⟨c, m2, rfl, hnm, hc, _, _⟩ := isOf_nat h2
        obtain rfl : m = m2 := by omega
        exact ⟨b, m, c, rfl, rfl, rfl, hm, hn, hn6, hc, by omega, by unfold whV; rw [if_pos h']; rfl⟩
    · cases h
  · cases h
theorem whE_not {me n a : Int} (h : whE me n a ≠ 0) : whV me n a = 0 := by unfold whV; rw [if_neg h]
end Go.Proofs.YtagboglgpdponafDoor
