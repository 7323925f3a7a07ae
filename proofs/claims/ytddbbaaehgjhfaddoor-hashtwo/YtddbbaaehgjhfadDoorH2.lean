/-
  HashTwo: the number of two numbers is that of their text: every road.
-/
import Derived.Test.YtddbbaaehgjhfadDoorHsE
namespace Go.Proofs.YtddbbaaehgjhfadDoor
set_option linter.unusedVariables false
set_option linter.unusedSimpArgs false
open Go.RowKit

theorem isN_nat {n : Int} (h : isN n = true) : ∃ m : Nat, n = (m : Int) ∧ m ≤ 4294967295 := by
  simp only [isN, Bool.and_eq_true, decide_eq_true_eq] at h
  exact ⟨n.toNat, by omega, by omega⟩
theorem isN_not {a b : Int} (h : (isN a && isN b) = false) : a < 0 ∨ (¬ a < 0 ∧ b < 0) ∨ (¬ a < 0 ∧ ¬ b < 0 ∧ a > 4294967295) ∨ (¬ a < 0 ∧ ¬ b < 0 ∧ ¬ a > 4294967295 ∧ b > 4294967295) := by
  simp only [isN, Bool.and_eq_false_iff, decide_eq_false_iff_not] at h
  omega

set_option maxHeartbeats 4000000 in
theorem hashTwo_w (a b : Int) (w : World) (hT : Lib.TabIs Tryd.prog w powName .u64 Lib.pow10Tab) :
    Calls Tryd.prog 5 #[.int .i64 a, .int .i64 b] w fun e w' => e = .returned (.bool true) ∧ Below w.heap.size w w' := by
  cases hn : (isN a && isN b) with
  | false =>
    have HN : Hid ((isN a && isN b) = false) := hn
    clear hn
    rcases isN_not HN.out with h1 | ⟨h1, h2⟩ | ⟨h1, h2, h3⟩ | ⟨h1, h2, h3, h4⟩
    all_goals
      go_enter Tryd.func5, Tryd.ntmps5
      go_wp2_with fail
      refine (two_bad a b _ HN.out).mono ?_
      rintro e w1 ⟨rfl, rfl⟩
      go_wp2_with fail
      go_ret
      exact ⟨rfl, Below.refl _ _⟩
  | true =>
    obtain ⟨h1, h2⟩ : isN a = true ∧ isN b = true := by simpa using hn
    obtain ⟨x, rfl, hx⟩ := isN_nat h1
    obtain ⟨y, rfl, hy⟩ := isN_nat h2
    clear h1 h2 hn
    have hlt := hashL_lt (byN (str2 x y))
    have HC : Hid (Calls Tryd.prog 13 #[.int .i64 (x : Nat), .int .i64 (y : Nat)] w fun e w' => e = .returned (.tuple #[.int .i64 (hashL (byN (str2 x y)) : Nat), .nilIface]) ∧ Below w.heap.size w w') := two_ok x y w hx hy hT
    clear hT
    by_cases h9 : 9 < x
    · obtain ⟨R, HR⟩ : ∃ R, Hid (hashL (byN (str2 x y)) = R) := ⟨_, rfl⟩
      rw [HR.out] at hlt HC
      have h9i : (9 : Int) < (x : Int) := by omega
      have hle : (R : Int) ≤ 4294967295 := by omega
      go_enter Tryd.func5, Tryd.ntmps5
      go_wp2_with fail
      refine HC.out.mono ?_
      rintro e w1 ⟨rfl, hb⟩
      have HB := (show Hid (Below w.heap.size w w1) from hb)
      clear hb
      go_wp2_with fail
      go_ret
      exact ⟨by simp [hle], HB.out⟩
    · by_cases h9y : 9 < y
      · obtain ⟨R, HR⟩ : ∃ R, Hid (hashL (byN (str2 x y)) = R) := ⟨_, rfl⟩
        rw [HR.out] at hlt HC
        have h9i : (9 : Int) < (y : Int) := by omega
        have hle : (R : Int) ≤ 4294967295 := by omega
        go_enter Tryd.func5, Tryd.ntmps5
        go_wp2_with fail
        refine HC.out.mono ?_
        rintro e w1 ⟨rfl, hb⟩
        have HB := (show Hid (Below w.heap.size w w1) from hb)
        clear hb
        go_wp2_with fail
        go_ret
        exact ⟨by simp [hle], HB.out⟩
      · have hsx := digS_size x (by omega)
        have hsy := digS_size y (by omega)
        have hE : str2 x y = digS x ++ ⟨#[47]⟩ ++ digS y := rfl
        have hS : ¬ 60 < (digS x ++ ⟨#[47]⟩ ++ digS y).size := by
          rw [← hE]
          have := str2_size x y (by omega) (by omega)
          omega
        have HSx : Hid (∀ w : World, (Instr.slice 9 (Value.string ⟨#[48, 49, 50, 51, 52, 53, 54, 55, 56, 57]⟩) (some (Value.int IntKind.i64 (x : Int))) (some (Value.int IntKind.i64 ((x : Int) + 1))) none).run Tryd.prog w = .ok (.string (digS x)) w) := slice_dig x (by omega)
        have HSy : Hid (∀ w : World, (Instr.slice 9 (Value.string ⟨#[48, 49, 50, 51, 52, 53, 54, 55, 56, 57]⟩) (some (Value.int IntKind.i64 (y : Int))) (some (Value.int IntKind.i64 ((y : Int) + 1))) none).run Tryd.prog w = .ok (.string (digS y)) w) := slice_dig y (by omega)
        rw [hE] at hlt HC
        clear hE
        obtain ⟨d, HD⟩ : ∃ d, Hid (digS x = d) := ⟨_, rfl⟩
        obtain ⟨f, HF⟩ : ∃ f, Hid (digS y = f) := ⟨_, rfl⟩
        rw [HD.out] at hsx HSx
        rw [HF.out] at hsy HSy
        rw [HD.out, HF.out] at hS HC hlt
        have hs1 : ¬ 9223372036854775807 < d.size + 1 := by omega
        have hs2 : ¬ 9223372036854775807 < d.size + 1 + f.size := by omega
        have HS : Hid (¬ 60 < (d ++ ⟨#[47]⟩ ++ f).size) := hS
        clear hS
        obtain ⟨R, HR⟩ : ∃ R, Hid (hashL (byN (d ++ ⟨#[47]⟩ ++ f)) = R) := ⟨_, rfl⟩
        rw [HR.out] at hlt HC
        have h9i : ¬ (9 : Int) < (x : Int) := by omega
        have h9j : ¬ (9 : Int) < (y : Int) := by omega
        go_enter Tryd.func5, Tryd.ntmps5
        go_wp2_with fail
        refine HC.out.mono ?_
        rintro e w1 ⟨rfl, hb⟩
        have HB := (show Hid (Below w.heap.size w w1) from hb)
        clear hb
        have hSx := HSx.out
        have hSy := HSy.out
        go_upto_region 8 with fail
        go_quiet (fail)
        go_wp2_with fail
        refine (text_ok _ _ HS.out).mono ?_
        rintro e w2 ⟨rfl, rfl⟩
        simp only [HR.out]
        go_wp2_with fail
        go_ret
        exact ⟨rfl, below_drewN HB.out _⟩
end Go.Proofs.YtddbbaaehgjhfadDoor
