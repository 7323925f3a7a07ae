/-
  merelaw4.GossipNone answers true, whatever the number.
-/
import Derived.Test.YtnffnmmhbnljcahGsY
namespace Go.Proofs.Ytnffnmmhbnljcah
set_option linter.unusedVariables false
set_option linter.unusedSimpArgs false
open Go.RowKit

theorem callsE_none (n : Int) : callsE n [] = if inR n 1 6 = true then 0 else 1 := by
  unfold callsE
  split
  · rw [if_neg (by simp)]
    rfl
  · rfl
set_option maxHeartbeats 8000000 in
theorem gnone_w (n : Int) (w : World) : Calls Try.prog 4 #[.int .i64 n] w fun e w' => e = .returned (.bool true) ∧ Below w.heap.size w w' := by
  cases hb : inR n 1 6
  · have HE : Hid (callsE n [] = 1) := by show _ = _; rw [callsE_none, hb]; rfl
    have h16 : n < 1 ∨ 6 < n := by simp [inR] at hb; omega
    clear hb
    rcases h16 with h | h
    · go_enter Try.func4, Try.ntmps4
      go_wp2_with fail
      refine (play_bad n _ [] 1 HE.out (by omega) _ (CallsIs.nil _)).mono ?_
      rintro e w1 ⟨rfl, hb⟩
      have B1 : Hid (Below w.heap.size w w1) := hb
      clear hb
      rw [eV_err (by omega)]
      go_wp2_with fail
      go_ret
      exact ⟨rfl, B1.out⟩
    · have h1 : ¬ n < 1 := by omega
      go_enter Try.func4, Try.ntmps4
      go_wp2_with fail
      refine (play_bad n _ [] 1 HE.out (by omega) _ (CallsIs.nil _)).mono ?_
      rintro e w1 ⟨rfl, hb⟩
      have B1 : Hid (Below w.heap.size w w1) := hb
      clear hb
      rw [eV_err (by omega)]
      go_wp2_with fail
      go_ret
      exact ⟨rfl, B1.out⟩
  · have HE : Hid (callsE n [] = 0) := by show _ = _; rw [callsE_none, hb]; rfl
    obtain ⟨k, rfl, hk1, hk6⟩ := inR_nat hb
    clear hb
    obtain ⟨D, HD⟩ : ∃ D, Hid ((knowG k []).all (fun x => x == fullG k) = D) := ⟨_, rfl⟩
    have HDk : Hid (D = ((k : Int) == 1)) := by
      show _ = _
      rw [← HD.out]
      have h6 : k = 1 ∨ k = 2 ∨ k = 3 ∨ k = 4 ∨ k = 5 ∨ k = 6 := by omega
      rcases h6 with rfl | rfl | rfl | rfl | rfl | rfl <;> decide
    have HKn : Hid (∀ j, j < k → atZ (knowG k []) j = ((2 ^ j : Nat) : Int)) := fun j hj => ownZ k j hj
    go_enter Try.func4, Try.ntmps4
    go_wp2_with fail
    refine (play_ok k _ [] HE.out _ (CallsIs.nil _)).mono ?_
    rintro e w1 ⟨⟨g, rfl, hm, hg⟩, hb⟩
    have B1 : Hid (Below w.heap.size w w1) := hb
    have HM : Hid (ManyAt w1 g k (atZ (knowG k []))) := hm
    clear hb hm hg
    go_wp2_with fail
    go_loopw [5, 6] (fun p i wr => wr = w1 ∧ ∃ j : Nat, j ≤ k ∧ i = .int .i64 j ∧ p = .int .i64 ((2 ^ j : Nat) : Int)) (fun _ i _ => k - (intOf i).toNat)
    case atStart => exact ⟨rfl, 0, Nat.zero_le _, rfl, rfl⟩
    case round =>
      obtain ⟨hwr, j, hj, rfl, rfl⟩ := hrel
      subst hwr
      by_cases hlt : j < k
      · have hlti : (j : Int) < (k : Int) := by omega
        have c0 := HM.out.cell j hlt
        rw [HKn.out j hlt] at c0
        have hp : (2 : Int) * ((2 ^ j : Nat) : Int) = ((2 ^ (j + 1) : Nat) : Int) := by rw [Nat.pow_succ]; omega
        have hle : 2 ^ (j + 1) ≤ 64 := Nat.pow_le_pow_right (n := 2) (by omega) (show j + 1 ≤ 6 by omega)
        obtain ⟨P, HP⟩ : ∃ P, Hid (2 ^ j = P) := ⟨2 ^ j, show 2 ^ j = 2 ^ j from rfl⟩
        obtain ⟨P', HP'⟩ : ∃ P', Hid (2 ^ (j + 1) = P') := ⟨2 ^ (j + 1), show 2 ^ (j + 1) = 2 ^ (j + 1) from rfl⟩
        rw [HP.out] at c0 hp ⊢
        rw [HP'.out] at hp hle
        go_wp2_with fail
        go_roundw
        case rel => exact ⟨by trivial, j + 1, by omega, by go_num, by rw [HP'.out, ← hp] <;> go_num⟩
        case measure => simp [intOf]; omega
      · obtain rfl : j = k := by omega
        obtain ⟨P, HP⟩ : ∃ P, Hid (2 ^ j = P) := ⟨2 ^ j, show 2 ^ j = 2 ^ j from rfl⟩
        rw [HP.out]
        go_wp2_with fail
        refine (done_ok j _ [] HE.out D HD.out _ (CallsIs.nil _)).mono ?_
        rintro e w2 ⟨rfl, hb⟩
        have B2 : Hid (Below w.heap.size w w2) := B1.out.trans (hb.mono B1.out.size)
        clear hb
        go_wp2_with fail
        go_ret
        exact ⟨by rw [HDk.out]; simp, B2.out⟩
end Go.Proofs.Ytnffnmmhbnljcah
