/-
  Package probe by its contracts: Target, When; the document's Target.
-/
import Derived.Test.YtagboglgpdponafDoorPrC
namespace Go.Proofs.YtagboglgpdponafDoor
set_option linter.unusedVariables false
set_option linter.unusedSimpArgs false
open Go.RowKit

theorem isOf_nat {a n : Int} (h : isOfB a n = true) : ∃ b m : Nat, a = b ∧ n = m ∧ b < m ∧ 2 ≤ m ∧ m ≤ 6 := by
  have := (isOf_iff a n).1 h
  exact ⟨a.toNat, n.toNat, by omega, by omega, by omega, by omega, by omega⟩
theorem nat_isOf {a n : Nat} (h : a < n) (h2 : 2 ≤ n) (h6 : n ≤ 6) : isOfB (a : Int) (n : Int) = true := (isOf_iff _ _).2 (by omega)
theorem target_bad (me n t : Int) (w : World) (hb : (isOfB me n && inR t 0 60) = false) :
    Calls Tryd.prog 13 #[.int .i64 me, .int .i64 n, .int .i64 t] w fun e w' => e = .returned (.tuple #[.int .i64 0, .iface 48 (.int .i64 1)]) ∧ w' = w := by
  cases h : isOfB me n
  · have H : Hid (isOfB me n = false) := h
    clear h hb
    go_enter Tryd.func13, Tryd.ntmps13
    go_wp2_with fail
    refine (isOf_b _ _ false _ H.out).mono ?_
    rintro e w' ⟨rfl, rfl⟩
    go_wp2_with fail
    go_ret2
    exact ⟨rfl, rfl⟩
  · have H : Hid (isOfB me n = true) := h
    rw [h, Bool.true_and] at hb
    have H2 : Hid (inR t 0 60 = false) := hb
    clear h hb
    go_enter Tryd.func13, Tryd.ntmps13
    go_wp2_with fail
    refine (isOf_b _ _ true _ H.out).mono ?_
    rintro e w' ⟨rfl, rfl⟩
    go_wp2_with fail
    refine (withinP_b _ _ _ false _ H2.out).mono ?_
    rintro e w' ⟨rfl, rfl⟩
    go_wp2_with fail
    go_ret2
    exact ⟨rfl, rfl⟩
theorem target_ok (me n t : Nat) (w : World) (hm : me < n) (hn : 2 ≤ n) (hn6 : n ≤ 6) (ht : t ≤ 60) :
    Calls Tryd.prog 13 #[.int .i64 (me : Nat), .int .i64 (n : Nat), .int .i64 (t : Nat)] w fun e w' => e = .returned (.tuple #[.int .i64 (tgN me n t : Nat), .nilIface]) ∧ w' = w := by
  have H : Hid (isOfB (me : Int) (n : Int) = true) := nat_isOf hm hn hn6
  have H2 : Hid (inR (t : Int) 0 60 = true) := by
    show inR (t : Int) 0 60 = true
    simp [inR]
    omega
  have HA : Hid (∀ w, Calls Tryd.prog 28 #[.int .i64 (me : Nat), .int .i64 (n : Nat), .int .i64 (t : Nat)] w fun e w' => e = .returned (.int .i64 (tgN me n t : Nat)) ∧ w' = w) := fun w => asked_c me n t w hm hn hn6 (by omega)
  generalize tgN me n t = a at HA ⊢
  go_enter Tryd.func13, Tryd.ntmps13
  go_wp2_with fail
  refine (isOf_b _ _ true _ H.out).mono ?_
  rintro e w' ⟨rfl, rfl⟩
  go_wp2_with fail
  refine (withinP_b _ _ _ true _ H2.out).mono ?_
  rintro e w' ⟨rfl, rfl⟩
  go_wp2_with fail
  refine (HA.out _).mono ?_
  rintro e w' ⟨rfl, rfl⟩
  go_wp2_with fail
  go_ret2
  exact ⟨rfl, rfl⟩
theorem when_bad (me n a : Int) (w : World) (hb : (isOfB me n && isOfB a n) = false) :
    Calls Tryd.prog 16 #[.int .i64 me, .int .i64 n, .int .i64 a] w fun e w' => e = .returned (.tuple #[.int .i64 0, .iface 48 (.int .i64 1)]) ∧ w' = w := by
  cases h : isOfB me n
  · have H : Hid (isOfB me n = false) := h
    clear h hb
    go_enter Tryd.func16, Tryd.ntmps16
    go_wp2_with fail
    refine (isOf_b _ _ false _ H.out).mono ?_
    rintro e w' ⟨rfl, rfl⟩
    go_wp2_with fail
    go_ret2
    exact ⟨rfl, rfl⟩
  · have H : Hid (isOfB me n = true) := h
    rw [h, Bool.true_and] at hb
    have H2 : Hid (isOfB a n = false) := hb
    clear h hb
    go_enter Tryd.func16, Tryd.ntmps16
    go_wp2_with fail
    refine (isOf_b _ _ true _ H.out).mono ?_
    rintro e w' ⟨rfl, rfl⟩
    go_wp2_with fail
    refine (isOf_b _ _ false _ H2.out).mono ?_
    rintro e w' ⟨rfl, rfl⟩
    go_wp2_with fail
    go_ret2
    exact ⟨rfl, rfl⟩
theorem when_me (me n : Nat) (w : World) (hm : me < n) (hn : 2 ≤ n) (hn6 : n ≤ 6) :
    Calls Tryd.prog 16 #[.int .i64 (me : Nat), .int .i64 (n : Nat), .int .i64 (me : Nat)] w fun e w' => e = .returned (.tuple #[.int .i64 0, .iface 48 (.int .i64 5)]) ∧ w' = w := by
  have H : Hid (isOfB (me : Int) (n : Int) = true) := nat_isOf hm hn hn6
  obtain ⟨k, HK⟩ : ∃ k, Hid (n - 1 = k) := ⟨_, rfl⟩
  have HRd : Hid (∀ w, Calls Tryd.prog 29 #[.int .i64 (n : Nat)] w fun e w' => e = .returned (.int .i64 (k : Int)) ∧ w' = w) := fun w => by rw [← HK.out]; exact round_c n w (by omega) hn6
  have hk5 : k ≤ 5 := by rw [← HK.out]; omega
  go_enter Tryd.func16, Tryd.ntmps16
  go_wp2_with fail
  refine (isOf_b _ _ true _ H.out).mono ?_
  rintro e w' ⟨rfl, rfl⟩
  go_wp2_with fail
  refine (isOf_b _ _ true _ H.out).mono ?_
  rintro e w' ⟨rfl, rfl⟩
  go_wp2_with fail
  refine (HRd.out _).mono ?_
  rintro e w' ⟨rfl, rfl⟩
  go_wp2_with fail
  go_loopw [22] (fun i wr => ∃ j : Nat, j ≤ k ∧ i = .int .i64 j ∧ wr = w') (fun i _ => k - (intOf i).toNat)
  case atStart => exact ⟨0, Nat.zero_le _, rfl, rfl⟩
  case round =>
    obtain ⟨j, hj, rfl, rfl⟩ := hrel
    by_cases hlt : j < k
    · have HA : Hid (∀ w, Calls Tryd.prog 28 #[.int .i64 (me : Nat), .int .i64 (n : Nat), .int .i64 (j : Nat)] w fun e w' => e = .returned (.int .i64 (tgN me n j : Nat)) ∧ w' = w) := fun w => asked_c me n j w hm hn hn6 (by omega)
      have hne := tgN_ne (t := j) hm hn
      generalize tgN me n j = a at HA hne
      have hneb : ((a : Int) == (me : Int)) = false := by simp; omega
      clear hne
      have hlti : (j : Int) < (k : Int) := by omega
      go_wp2_with fail
      refine (HA.out _).mono ?_
      rintro e w' ⟨rfl, rfl⟩
      go_wp2_with fail
      go_roundw
      case rel => exact ⟨j + 1, by omega, by go_num, trivial⟩
      case measure => simp [intOf]; omega
    · obtain rfl : j = k := by omega
      go_wp2_with fail
      go_ret2
      exact ⟨rfl, rfl⟩
theorem when_ok (me n a : Nat) (w : World) (hm : me < n) (hn : 2 ≤ n) (hn6 : n ≤ 6) (ha : a < n) (hne : a ≠ me) :
    Calls Tryd.prog 16 #[.int .i64 (me : Nat), .int .i64 (n : Nat), .int .i64 (a : Nat)] w fun e w' => e = .returned (.tuple #[.int .i64 (whR me n a : Nat), .nilIface]) ∧ w' = w := by
  have H : Hid (isOfB (me : Int) (n : Int) = true) := nat_isOf hm hn hn6
  have H2 : Hid (isOfB (a : Int) (n : Int) = true) := nat_isOf ha hn hn6
  obtain ⟨k, HK⟩ : ∃ k, Hid (n - 1 = k) := ⟨_, rfl⟩
  have HRd : Hid (∀ w, Calls Tryd.prog 29 #[.int .i64 (n : Nat)] w fun e w' => e = .returned (.int .i64 (k : Int)) ∧ w' = w) := fun w => by rw [← HK.out]; exact round_c n w (by omega) hn6
  have hk5 : k ≤ 5 := by rw [← HK.out]; omega
  have hr := whR_lt hm ha hne
  have HHit : Hid (tgN me n (whR me n a) = a) := tgN_wh hm ha hne
  have HMiss : Hid (∀ t, t < whR me n a → tgN me n t ≠ a) := fun t ht => tgN_early hm ha hne ht
  rw [HK.out] at hr
  generalize whR me n a = r at hr HHit HMiss ⊢
  clear hne
  go_enter Tryd.func16, Tryd.ntmps16
  go_wp2_with fail
  refine (isOf_b _ _ true _ H.out).mono ?_
  rintro e w' ⟨rfl, rfl⟩
  go_wp2_with fail
  refine (isOf_b _ _ true _ H2.out).mono ?_
  rintro e w' ⟨rfl, rfl⟩
  go_wp2_with fail
  refine (HRd.out _).mono ?_
  rintro e w' ⟨rfl, rfl⟩
  go_wp2_with fail
  go_loopw [22] (fun i wr => ∃ j : Nat, j ≤ r ∧ i = .int .i64 j ∧ wr = w') (fun i _ => k - (intOf i).toNat)
  case atStart => exact ⟨0, Nat.zero_le _, rfl, rfl⟩
  case round =>
    obtain ⟨j, hj, rfl, rfl⟩ := hrel
    have hlti : (j : Int) < (k : Int) := by omega
    have HA : Hid (∀ w, Calls Tryd.prog 28 #[.int .i64 (me : Nat), .int .i64 (n : Nat), .int .i64 (j : Nat)] w fun e w' => e = .returned (.int .i64 (tgN me n j : Nat)) ∧ w' = w) := fun w => asked_c me n j w hm hn hn6 (by omega)
    obtain ⟨b, HTb⟩ : ∃ b, Hid (tgN me n j = b) := ⟨_, rfl⟩
    rw [HTb.out] at HA
    by_cases hlt : j < r
    · have hneb : ((b : Int) == (a : Int)) = false := by
        have := HMiss.out j hlt
        rw [HTb.out] at this
        simp
        omega
      go_wp2_with fail
      refine (HA.out _).mono ?_
      rintro e w' ⟨rfl, rfl⟩
      go_wp2_with fail
      go_roundw
      case rel => exact ⟨j + 1, by omega, by go_num, trivial⟩
      case measure => simp [intOf]; omega
    · obtain rfl : j = r := by omega
      have hneb : ((b : Int) == (a : Int)) = true := by
        have := HHit.out
        rw [HTb.out] at this
        simp [this]
      go_wp2_with fail
      refine (HA.out _).mono ?_
      rintro e w' ⟨rfl, rfl⟩
      go_wp2_with fail
      go_ret2
      exact ⟨rfl, rfl⟩
/-- where the document's loop stands ahead of a turn -/
def atN (me n j : Nat) : Nat := if j = 0 then me else tgN me n (j - 1)
theorem atN_succ {me n j : Nat} (hm : me < n) (hn : 2 ≤ n) : stepN me n (atN me n j) = atN me n (j + 1) := by
  unfold atN
  rw [if_neg (Nat.succ_ne_zero j), Nat.add_sub_cancel]
  split
  · rename_i h
    rw [h]
    exact tgN_first hm hn
  · rename_i h
    rw [tgN_step hm hn]
    congr 1
    omega
theorem atN_lt {me n j : Nat} (hm : me < n) (hn : 2 ≤ n) : atN me n j < n := by
  unfold atN
  split
  · exact hm
  · exact tgN_lt hm hn
set_option maxHeartbeats 2000000 in
theorem rTarget_c (me n t : Nat) (w : World) (hm : me < n) (hn : 2 ≤ n) (hn6 : n ≤ 6) (ht : t ≤ 1000) :
    Calls Tryd.prog 12 #[.int .i64 (me : Nat), .int .i64 (n : Nat), .int .i64 (t : Nat)] w fun e w' => e = .returned (.int .i64 (tgN me n t : Nat)) ∧ w' = w := by
  obtain ⟨R, HR⟩ : ∃ R, Hid (atN me n (t + 1) = R) := ⟨_, rfl⟩
  have HRt : Hid (tgN me n t = R) := HR.out
  rw [HRt.out]
  clear HRt
  have HS : Hid (∀ j, stepN me n (atN me n j) = atN me n (j + 1)) := fun j => atN_succ hm hn
  have HL : Hid (∀ j, atN me n j < n) := fun j => atN_lt hm hn
  have H0 : Hid (atN me n 0 = me) := rfl
  go_enter Tryd.func12, Tryd.ntmps12
  go_wp2_with fail
  go_loopw [7, 8] (fun v i wr => ∃ j a : Nat, j ≤ t + 1 ∧ i = .int .i64 j ∧ v = .int .i64 a ∧ Hid (atN me n j = a) ∧ wr = w) (fun _ i _ => t + 1 - (intOf i).toNat)
  case atStart => exact ⟨0, me, Nat.zero_le _, rfl, rfl, H0, rfl⟩
  case round =>
    obtain ⟨j, a, hj, rfl, rfl, HJ, rfl⟩ := hrel
    have ha : a < n := by rw [← HJ.out]; exact HL.out j
    have HN : Hid (atN me n (j + 1) = stepN me n a) := by
      show atN me n (j + 1) = stepN me n a
      rw [← HS.out j, HJ.out]
    by_cases hlt : j ≤ t
    · have hlti : (j : Int) ≤ (t : Int) := by omega
      by_cases h1 : a + 1 = n
      · have b1 : ((a : Int) + 1 == (n : Int)) = true := by simp; omega
        by_cases h2 : me = 0
        · have b2 : ((0 : Int) == (me : Int)) = true := by simp [h2]
          have b3 : ((1 : Int) == (n : Int)) = false := by simp; omega
          have HV : Hid (stepN me n a = 1) := by
            show stepN me n a = 1
            unfold stepN onN
            rw [if_pos h1, if_pos h2.symm, if_neg (by omega)]
          rw [HV.out] at HN
          clear h1 h2 HV
          go_wp2_with fail
          go_roundw
          case rel => exact ⟨j + 1, 1, by omega, by go_num, by go_num, HN, trivial⟩
          case measure => simp [intOf]; omega
        · have b2 : ((0 : Int) == (me : Int)) = false := by simp; omega
          have HV : Hid (stepN me n a = 0) := by
            show stepN me n a = 0
            unfold stepN onN
            rw [if_pos h1, if_neg (fun h => h2 h.symm)]
          rw [HV.out] at HN
          clear h1 h2 HV
          go_wp2_with fail
          go_roundw
          case rel => exact ⟨j + 1, 0, by omega, by go_num, by go_num, HN, trivial⟩
          case measure => simp [intOf]; omega
      · have b1 : ((a : Int) + 1 == (n : Int)) = false := by simp; omega
        by_cases h2 : a + 1 = me
        · have b2 : ((a : Int) + 1 == (me : Int)) = true := by simp; omega
          by_cases h3 : a + 1 + 1 = n
          · have b3 : ((a : Int) + 1 + 1 == (n : Int)) = true := by simp; omega
            have HV : Hid (stepN me n a = 0) := by
              show stepN me n a = 0
              unfold stepN onN
              rw [if_neg h1, if_pos h2, if_pos h3]
            rw [HV.out] at HN
            clear h1 h2 h3 HV
            go_wp2_with fail
            go_roundw
            case rel => exact ⟨j + 1, 0, by omega, by go_num, by go_num, HN, trivial⟩
            case measure => simp [intOf]; omega
          · have b3 : ((a : Int) + 1 + 1 == (n : Int)) = false := by simp; omega
            have HV : Hid (stepN me n a = a + 1 + 1) := by
              show stepN me n a = a + 1 + 1
              unfold stepN onN
              rw [if_neg h1, if_pos h2, if_neg h3]
            rw [HV.out] at HN
            clear h1 h2 h3 HV
            go_wp2_with fail
            go_roundw
            case rel => exact ⟨j + 1, a + 1 + 1, by omega, by go_num, by go_num, HN, trivial⟩
            case measure => simp [intOf]; omega
        · have b2 : ((a : Int) + 1 == (me : Int)) = false := by simp; omega
          have HV : Hid (stepN me n a = a + 1) := by
            show stepN me n a = a + 1
            unfold stepN onN
            rw [if_neg h1, if_neg h2]
          rw [HV.out] at HN
          clear h1 h2 HV
          go_wp2_with fail
          go_roundw
          case rel => exact ⟨j + 1, a + 1, by omega, by go_num, by go_num, HN, trivial⟩
          case measure => simp [intOf]; omega
    · obtain rfl : j = t + 1 := by omega
      have HE : Hid (a = R) := HJ.out.symm.trans HR.out
      go_wp2_with fail
      go_ret
      exact ⟨by rw [HE.out]; rfl, rfl⟩
end Go.Proofs.YtagboglgpdponafDoor
