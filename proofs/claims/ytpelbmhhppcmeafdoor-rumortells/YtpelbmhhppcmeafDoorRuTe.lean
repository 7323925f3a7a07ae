/-
  What the document asks of rumors, with letters, and package rumor's Limit: for RumorTells.
-/
import Derived.Test.YtpelbmhhppcmeafDoorRuA
import Derived.Test.YtpelbmhhppcmeafDoorRuV
import Derived.Test.YtpelbmhhppcmeafDoorRuN
import Derived.Test.YtpelbmhhppcmeafDoorErrA
namespace Go.Proofs.YtpelbmhhppcmeafDoor
set_option linter.unusedVariables false
set_option linter.unusedSimpArgs false
open Go.RowKit

theorem addR_e {l R1 : List Ru} {m : Mm} {R2 : Bool} {E : Int} (h : addR l m = (R1, R2, E)) : if ((badR l == 0) && !m.ok) = true then E = 1 else E = badR l := by
  unfold addR at h
  by_cases h0 : badR l = 0
  · rw [if_neg (by simpa using h0)] at h
    cases hm : m.ok
    · rw [if_pos hm] at h
      cases h
      rw [if_pos (by simp [h0])]
    · rw [if_neg (by rw [hm]; simp)] at h
      cases h
      rw [if_neg (by simp), h0]
  · rw [if_pos h0] at h
    cases h
    rw [if_neg (by simp [h0])]
theorem addR_zero {l R1 : List Ru} {m : Mm} {R2 : Bool} {E : Int} (h : addR l m = (R1, R2, E)) (hE : E = 0) : GoodR l ∧ hearU m l = R1 ∧ isU m l = R2 := by
  unfold addR at h
  by_cases h0 : badR l = 0
  · rw [if_neg (by simpa using h0)] at h
    cases hm : m.ok
    · rw [if_pos hm] at h
      cases h
      omega
    · rw [if_neg (by rw [hm]; simp)] at h
      cases h
      exact ⟨badR_good h0, rfl, rfl⟩
  · rw [if_pos h0] at h
    cases h
    omega
theorem addR_not {l R1 : List Ru} {m : Mm} {R2 : Bool} {E : Int} (h : addR l m = (R1, R2, E)) (hE : E ≠ 0) : R1 = [] ∧ R2 = false := by
  unfold addR at h
  by_cases h0 : badR l = 0
  · rw [if_neg (by simpa using h0)] at h
    cases hm : m.ok
    · rw [if_pos hm] at h
      cases h
      exact ⟨rfl, rfl⟩
    · rw [if_neg (by rw [hm]; simp)] at h
      cases h
      exact absurd rfl hE
  · rw [if_pos h0] at h
    cases h
    exact ⟨rfl, rfl⟩
theorem pickR_e {l L : List Ru} {T : List Mm} {a b E : Int} (h : pickR l a b = (T, L, E)) : if ((badR l == 0) && !(inR a 0 6 && inR b 1 60)) = true then E = 1 else E = badR l := by
  unfold pickR at h
  by_cases h0 : badR l = 0
  · rw [if_neg (by simpa using h0)] at h
    cases hm : (inR a 0 6 && inR b 1 60)
    · rw [if_pos hm] at h
      cases h
      rw [if_pos (by simp [h0])]
    · rw [if_neg (by rw [hm]; simp)] at h
      cases h
      rw [if_neg (by simp), h0]
  · rw [if_pos h0] at h
    cases h
    rw [if_neg (by simp [h0])]
theorem pickR_zero {l L : List Ru} {T : List Mm} {a b E : Int} (h : pickR l a b = (T, L, E)) (hE : E = 0) : GoodR l ∧ (0 ≤ a ∧ a ≤ 6) ∧ toldR l a.toNat = T ∧ leftR l a.toNat b = L := by
  unfold pickR at h
  by_cases h0 : badR l = 0
  · rw [if_neg (by simpa using h0)] at h
    cases hm : (inR a 0 6 && inR b 1 60)
    · rw [if_pos hm] at h
      cases h
      omega
    · rw [if_neg (by rw [hm]; simp)] at h
      cases h
      rw [Bool.and_eq_true] at hm
      exact ⟨badR_good h0, by simpa [inR] using hm.1, rfl, rfl⟩
  · rw [if_pos h0] at h
    cases h
    omega
theorem pickR_not {l L : List Ru} {T : List Mm} {a b E : Int} (h : pickR l a b = (T, L, E)) (hE : E ≠ 0) : T = [] ∧ L = [] := by
  unfold pickR at h
  by_cases h0 : badR l = 0
  · rw [if_neg (by simpa using h0)] at h
    cases hm : (inR a 0 6 && inR b 1 60)
    · rw [if_pos hm] at h
      cases h
      exact ⟨rfl, rfl⟩
    · rw [if_neg (by rw [hm]; simp)] at h
      cases h
      exact absurd rfl hE
  · rw [if_pos h0] at h
    cases h
    exact ⟨rfl, rfl⟩
/-- what Limit answers -/
def limV (n : Int) : Int × Int := if n < 1 then (0, 1) else if 6 < n then (0, 1) else if n ≤ 1 then (0, 0) else if n ≤ 2 then (3, 0) else if n ≤ 4 then (6, 0) else (9, 0)
set_option maxHeartbeats 4000000 in
theorem limit_1 (w : World) : Calls Tryd.prog 19 #[.int .i64 1] w fun e w' => e = .returned (.tuple #[.int .i64 0, .nilIface]) ∧ w' = w := by
  go_enter Tryd.func19, Tryd.ntmps19
  go_wp2_with fail
  refine (withinR_b 1 1 6 true _ rfl).mono ?_
  rintro e w1 ⟨rfl, rfl⟩
  go_wp2_with fail
  refine wp_loop_rounds 1 ?_
  rw [rounds_succ]
  go_wp2_with fail
  go_ret2
  exact ⟨rfl, rfl⟩
set_option maxHeartbeats 4000000 in
theorem limit_2 (w : World) : Calls Tryd.prog 19 #[.int .i64 2] w fun e w' => e = .returned (.tuple #[.int .i64 3, .nilIface]) ∧ w' = w := by
  go_enter Tryd.func19, Tryd.ntmps19
  go_wp2_with fail
  refine (withinR_b 2 1 6 true _ rfl).mono ?_
  rintro e w1 ⟨rfl, rfl⟩
  go_wp2_with fail
  refine wp_loop_rounds 2 ?_
  rw [rounds_succ]
  go_wp2_with fail
  rw [rounds_succ]
  go_wp2_with fail
  go_ret2
  exact ⟨rfl, rfl⟩
set_option maxHeartbeats 4000000 in
theorem limit_3 (w : World) : Calls Tryd.prog 19 #[.int .i64 3] w fun e w' => e = .returned (.tuple #[.int .i64 6, .nilIface]) ∧ w' = w := by
  go_enter Tryd.func19, Tryd.ntmps19
  go_wp2_with fail
  refine (withinR_b 3 1 6 true _ rfl).mono ?_
  rintro e w1 ⟨rfl, rfl⟩
  go_wp2_with fail
  refine wp_loop_rounds 3 ?_
  rw [rounds_succ]
  go_wp2_with fail
  rw [rounds_succ]
  go_wp2_with fail
  rw [rounds_succ]
  go_wp2_with fail
  go_ret2
  exact ⟨rfl, rfl⟩
set_option maxHeartbeats 4000000 in
theorem limit_4 (w : World) : Calls Tryd.prog 19 #[.int .i64 4] w fun e w' => e = .returned (.tuple #[.int .i64 6, .nilIface]) ∧ w' = w := by
  go_enter Tryd.func19, Tryd.ntmps19
  go_wp2_with fail
  refine (withinR_b 4 1 6 true _ rfl).mono ?_
  rintro e w1 ⟨rfl, rfl⟩
  go_wp2_with fail
  refine wp_loop_rounds 3 ?_
  rw [rounds_succ]
  go_wp2_with fail
  rw [rounds_succ]
  go_wp2_with fail
  rw [rounds_succ]
  go_wp2_with fail
  go_ret2
  exact ⟨rfl, rfl⟩
set_option maxHeartbeats 4000000 in
theorem limit_5 (w : World) : Calls Tryd.prog 19 #[.int .i64 5] w fun e w' => e = .returned (.tuple #[.int .i64 9, .nilIface]) ∧ w' = w := by
  go_enter Tryd.func19, Tryd.ntmps19
  go_wp2_with fail
  refine (withinR_b 5 1 6 true _ rfl).mono ?_
  rintro e w1 ⟨rfl, rfl⟩
  go_wp2_with fail
  refine wp_loop_rounds 4 ?_
  rw [rounds_succ]
  go_wp2_with fail
  rw [rounds_succ]
  go_wp2_with fail
  rw [rounds_succ]
  go_wp2_with fail
  rw [rounds_succ]
  go_wp2_with fail
  go_ret2
  exact ⟨rfl, rfl⟩
set_option maxHeartbeats 4000000 in
theorem limit_6 (w : World) : Calls Tryd.prog 19 #[.int .i64 6] w fun e w' => e = .returned (.tuple #[.int .i64 9, .nilIface]) ∧ w' = w := by
  go_enter Tryd.func19, Tryd.ntmps19
  go_wp2_with fail
  refine (withinR_b 6 1 6 true _ rfl).mono ?_
  rintro e w1 ⟨rfl, rfl⟩
  go_wp2_with fail
  refine wp_loop_rounds 4 ?_
  rw [rounds_succ]
  go_wp2_with fail
  rw [rounds_succ]
  go_wp2_with fail
  rw [rounds_succ]
  go_wp2_with fail
  rw [rounds_succ]
  go_wp2_with fail
  go_ret2
  exact ⟨rfl, rfl⟩
theorem limit_bad (n : Int) (w : World) (h : inR n 1 6 = false) : Calls Tryd.prog 19 #[.int .i64 n] w fun e w' => e = .returned (.tuple #[.int .i64 0, .iface 61 (.int .i64 1)]) ∧ w' = w := by
  have H : Hid (inR n 1 6 = false) := h
  clear h
  go_enter Tryd.func19, Tryd.ntmps19
  go_wp2_with fail
  refine (withinR_b n 1 6 false _ H.out).mono ?_
  rintro e w1 ⟨rfl, rfl⟩
  go_wp2_with fail
  go_ret2
  exact ⟨rfl, rfl⟩
theorem limit_o {n K E : Int} (h : limV n = (K, E)) (w : World) : Calls Tryd.prog 19 #[.int .i64 n] w fun e w' => e = .returned (.tuple #[.int .i64 K, eV E]) ∧ w' = w := by
  by_cases h1 : n < 1 ∨ 6 < n
  · have e : limV n = (0, 1) := by
      unfold limV
      rcases h1 with h1 | h1
      · rw [if_pos h1]
      · rw [if_neg (by omega), if_pos h1]
    rw [e] at h
    cases h
    rw [eV_err (by omega)]
    exact limit_bad n w (by simp [inR]; omega)
  · have h2 : n = 1 ∨ n = 2 ∨ n = 3 ∨ n = 4 ∨ n = 5 ∨ n = 6 := by omega
    rcases h2 with rfl | rfl | rfl | rfl | rfl | rfl <;> cases h <;> rw [eV_zero]
    · exact limit_1 w
    · exact limit_2 w
    · exact limit_3 w
    · exact limit_4 w
    · exact limit_5 w
    · exact limit_6 w
end Go.Proofs.YtpelbmhhppcmeafDoor
