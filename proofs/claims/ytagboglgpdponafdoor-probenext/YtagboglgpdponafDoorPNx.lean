/-
  ProbeNext: the next one first.
-/
import Derived.Test.YtagboglgpdponafDoorPrD
import Derived.Test.YtagboglgpdponafDoorErrA
namespace Go.Proofs.YtagboglgpdponafDoor
set_option linter.unusedVariables false
set_option linter.unusedSimpArgs false
open Go.RowKit

theorem not_isOf {a n : Int} (h : isOfB a n = false) : ¬ ((2 ≤ n ∧ n ≤ 6) ∧ 0 ≤ a ∧ a < n) := fun h2 => by
  rw [(isOf_iff a n).2 h2] at h
  cases h
set_option maxRecDepth 100000 in
set_option maxHeartbeats 8000000 in
theorem probeNext_w (me n : Int) (w : World) (hg : HasErr w) :
    Calls Tryd.prog 6 #[.int .i64 me, .int .i64 n] w fun e w' => e = .returned (.bool true) ∧ Below w.heap.size w w' := by
  cases hof : isOfB me n
  · have HC : Hid (∀ w, Calls Tryd.prog 13 #[.int .i64 me, .int .i64 n, .int .i64 0] w fun e w' => e = .returned (.tuple #[.int .i64 0, .iface 48 (.int .i64 1)]) ∧ w' = w) := fun w => target_bad me n 0 w (by rw [hof]; rfl)
    have hno := not_isOf hof
    clear hof hg
    by_cases h1 : n < 2
    · clear hno
      go_enter Tryd.func6, Tryd.ntmps6
      go_wp2_with fail
      refine (HC.out _).mono ?_
      rintro e w' ⟨rfl, rfl⟩
      go_wp2_with fail
      go_ret
      exact ⟨rfl, Below.refl _ _⟩
    by_cases h2 : 6 < n
    · clear hno
      go_enter Tryd.func6, Tryd.ntmps6
      go_wp2_with fail
      refine (HC.out _).mono ?_
      rintro e w' ⟨rfl, rfl⟩
      go_wp2_with fail
      go_ret
      exact ⟨rfl, Below.refl _ _⟩
    by_cases h3 : me < 0
    · clear hno
      go_enter Tryd.func6, Tryd.ntmps6
      go_wp2_with fail
      refine (HC.out _).mono ?_
      rintro e w' ⟨rfl, rfl⟩
      go_wp2_with fail
      go_ret
      exact ⟨rfl, Below.refl _ _⟩
    have h4 : n ≤ me := by omega
    clear hno
    go_enter Tryd.func6, Tryd.ntmps6
    go_wp2_with fail
    refine (HC.out _).mono ?_
    rintro e w' ⟨rfl, rfl⟩
    go_wp2_with fail
    go_ret
    exact ⟨rfl, Below.refl _ _⟩
  · obtain ⟨me, n, rfl, rfl, hm, hn, hn6⟩ := isOf_nat hof
    clear hof
    have HG : Hid (HasErr w) := hg
    clear hg
    obtain ⟨a, HTa⟩ : ∃ a, Hid (tgN me n 0 = a) := ⟨_, rfl⟩
    have hT1 : tgN me n (n - 1) = a := by
      rw [← HTa.out]
      unfold tgN
      rw [Nat.mod_self, Nat.zero_mod]
    have HC1 : Hid (∀ w, Calls Tryd.prog 13 #[.int .i64 (me : Nat), .int .i64 (n : Nat), .int .i64 0] w fun e w' => e = .returned (.tuple #[.int .i64 (a : Nat), .nilIface]) ∧ w' = w) := fun w => by
      have := target_ok me n 0 w hm hn hn6 (by omega)
      rw [HTa.out] at this
      exact this
    have HC2 : Hid (∀ w, Calls Tryd.prog 13 #[.int .i64 (me : Nat), .int .i64 (n : Nat), .int .i64 ((n : Int) - 1)] w fun e w' => e = .returned (.tuple #[.int .i64 (a : Nat), .nilIface]) ∧ w' = w) := fun w => by
      have := target_ok me n (n - 1) w hm hn hn6 (by omega)
      rw [hT1, show ((n - 1 : Nat) : Int) = (n : Int) - 1 by omega] at this
      exact this
    have ha : a < n := by rw [← HTa.out]; exact tgN_lt hm hn
    have hne : a ≠ me := by rw [← HTa.out]; exact tgN_ne hm hn
    have hw0 : whR me n a = 0 := by
      rw [← HTa.out, wh_tgN hm hn, Nat.zero_mod]
    have HC3 : Hid (∀ w, Calls Tryd.prog 16 #[.int .i64 (me : Nat), .int .i64 (n : Nat), .int .i64 (a : Nat)] w fun e w' => e = .returned (.tuple #[.int .i64 0, .nilIface]) ∧ w' = w) := fun w => by
      have := when_ok me n a w hm hn hn6 ha hne
      rw [hw0] at this
      exact this
    have HC4 : Hid (∀ w, Calls Tryd.prog 16 #[.int .i64 (me : Nat), .int .i64 (n : Nat), .int .i64 (me : Nat)] w fun e w' => e = .returned (.tuple #[.int .i64 0, eV 5]) ∧ w' = w) := fun w => by
      rw [eV_err (by omega)]
      exact when_me me n w hm hn hn6
    have hab : ((a : Int) == ((me : Int) + 1) % (n : Int)) = true := by
      have h := tgN_mod (t := 0) hm hn
      rw [HTa.out, Nat.zero_mod, Nat.add_zero] at h
      have h2 : (a : Int) = ((me : Int) + 1) % (n : Int) := by
        rw [h]
        simp
      simp [h2]
    have HEr : Hid (Calls Tryd.prog 10 #[eV 5, .int .i64 5] w fun e w' => e = .returned (.bool true) ∧ Below w.heap.size w w') := err_same 5 w HG.out
    clear hT1 ha hne hw0 HTa HG
    go_enter Tryd.func6, Tryd.ntmps6
    go_wp2_with fail
    refine (HC1.out _).mono ?_
    rintro e w' ⟨rfl, rfl⟩
    go_wp2_with fail
    refine (HC2.out _).mono ?_
    rintro e w' ⟨rfl, rfl⟩
    go_wp2_with fail
    refine (HC3.out _).mono ?_
    rintro e w' ⟨rfl, rfl⟩
    go_wp2_with fail
    refine (HC4.out _).mono ?_
    rintro e w' ⟨rfl, rfl⟩
    go_wp2_with fail
    refine Calls.mono HEr.out ?_
    rintro e w2 ⟨rfl, hb⟩
    have HB : Hid (Below w'.heap.size w' w2) := hb
    clear hb
    go_wp2_with fail
    go_ret
    exact ⟨rfl, HB.out⟩
end Go.Proofs.YtagboglgpdponafDoor
