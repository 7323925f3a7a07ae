/-
  Package probe by its contracts: within, isOf, round, asked.
-/
import Derived.Test.YtagboglgpdponafDoorPrP
import Derived.Test.YtagboglgpdponafDoorRgJ
import Derived.Test.YtagboglgpdponafDoorRgO
import Derived.BigRegion
import Derived.BigQuiet
import Derived.Deep.RegionHeld3
namespace Go.Proofs.YtagboglgpdponafDoor
set_option linter.unusedVariables false
set_option linter.unusedSimpArgs false
open Go.RowKit

theorem eV_zero : eV 0 = .nilIface := by rw [eV, if_pos rfl]
theorem eV_err {n : Int} (h : n ≠ 0) : eV n = .iface 48 (.int .i64 n) := by rw [eV, if_neg h]
theorem withinP_c (n lo hi : Int) (w : World) : Calls Tryd.prog 27 #[.int .i64 n, .int .i64 lo, .int .i64 hi] w fun e w' => e = .returned (.bool (inR n lo hi)) ∧ w' = w := by
  go_enter Tryd.func27, Tryd.ntmps27
  go_wp2_with fail
  · go_ret
    refine ⟨?_, rfl⟩
    rename_i h
    simp [inR, h]
  · go_ret
    refine ⟨?_, rfl⟩
    rename_i h
    have h2 : ¬ lo ≤ n := by omega
    simp [inR, h2]
theorem withinP_b (n lo hi : Int) (b : Bool) (w : World) (hb : inR n lo hi = b) : Calls Tryd.prog 27 #[.int .i64 n, .int .i64 lo, .int .i64 hi] w fun e w' => e = .returned (.bool b) ∧ w' = w := by
  subst hb
  exact withinP_c n lo hi w
/-- are there n nodes, and is one of them? -/
def isOfB (a n : Int) : Bool := inR n 2 6 && inR a 0 (n - 1)
theorem isOf_iff (a n : Int) : isOfB a n = true ↔ (2 ≤ n ∧ n ≤ 6) ∧ 0 ≤ a ∧ a < n := by
  simp only [isOfB, inR, Bool.and_eq_true, decide_eq_true_eq]
  omega
theorem isOf_c (a n : Int) (w : World) : Calls Tryd.prog 26 #[.int .i64 a, .int .i64 n] w fun e w' => e = .returned (.bool (isOfB a n)) ∧ w' = w := by
  cases h : inR n 2 6
  · have H : Hid (inR n 2 6 = false) := h
    have e : isOfB a n = false := by rw [isOfB, h, Bool.false_and]
    rw [e]
    clear h e
    go_enter Tryd.func26, Tryd.ntmps26
    go_wp2_with fail
    refine (withinP_b _ _ _ false _ H.out).mono ?_
    rintro e w' ⟨rfl, rfl⟩
    go_wp2_with fail
    go_ret
    exact ⟨rfl, rfl⟩
  · have H : Hid (inR n 2 6 = true) := h
    have hn : 2 ≤ n ∧ n ≤ 6 := by simpa [inR] using h
    obtain ⟨hn2, hn6⟩ := hn
    obtain ⟨b, HB⟩ : ∃ b, Hid (inR a 0 (n - 1) = b) := ⟨_, rfl⟩
    have e : isOfB a n = b := by rw [isOfB, h, Bool.true_and, HB.out]
    rw [e]
    clear h e
    go_enter Tryd.func26, Tryd.ntmps26
    go_wp2_with fail
    refine (withinP_b _ _ _ true _ H.out).mono ?_
    rintro e w' ⟨rfl, rfl⟩
    go_wp2_with fail
    refine (withinP_b _ _ _ b _ HB.out).mono ?_
    rintro e w' ⟨rfl, rfl⟩
    go_wp2_with fail
    go_ret
    exact ⟨rfl, rfl⟩
theorem isOf_b (a n : Int) (b : Bool) (w : World) (hb : isOfB a n = b) : Calls Tryd.prog 26 #[.int .i64 a, .int .i64 n] w fun e w' => e = .returned (.bool b) ∧ w' = w := by
  subst hb
  exact isOf_c a n w
theorem round_c (n : Nat) (w : World) (hn : 1 ≤ n) (hn6 : n ≤ 6) : Calls Tryd.prog 29 #[.int .i64 (n : Nat)] w fun e w' => e = .returned (.int .i64 ((n - 1 : Nat) : Int)) ∧ w' = w := by
  have e : ((n - 1 : Nat) : Int) = (n : Int) - 1 := by omega
  rw [e]
  clear e
  go_enter Tryd.func29, Tryd.ntmps29
  go_wp2_with fail
  go_ret
  exact ⟨rfl, rfl⟩
theorem asked_c (me n t : Nat) (w : World) (hm : me < n) (hn : 2 ≤ n) (hn6 : n ≤ 6) (ht : t ≤ 1000) :
    Calls Tryd.prog 28 #[.int .i64 (me : Nat), .int .i64 (n : Nat), .int .i64 (t : Nat)] w fun e w' => e = .returned (.int .i64 (tgN me n t : Nat)) ∧ w' = w := by
  have HT : Hid (tgN me n t = (me + 1 + t % (n - 1)) % n) := tgN_mod hm hn
  rw [HT.out]
  have hr : t % (n - 1) < n - 1 := Nat.mod_lt _ (by omega)
  obtain ⟨k, HK⟩ : ∃ k, Hid (n - 1 = k) := ⟨_, rfl⟩
  rw [HK.out] at hr ⊢
  have HRd : Hid (∀ w, Calls Tryd.prog 29 #[.int .i64 (n : Nat)] w fun e w' => e = .returned (.int .i64 (k : Int)) ∧ w' = w) := fun w => by rw [← HK.out]; exact round_c n w (by omega) hn6
  have hk : 1 ≤ k := by rw [← HK.out]; omega
  have hk5 : k ≤ 5 := by rw [← HK.out]; omega
  go_enter Tryd.func28, Tryd.ntmps28
  go_wp2_with fail
  refine (HRd.out _).mono ?_
  rintro e w' ⟨rfl, rfl⟩
  go_wp2_with fail
  go_ret
  exact ⟨rfl, rfl⟩
end Go.Proofs.YtagboglgpdponafDoor
