/-
  Package floor by its contracts: New, Raise, Of, All, May.
-/
import Derived.Test.YtbincnajklmnaaaFlP
import Derived.BigQuiet
import Derived.BigRegion
namespace Go.Proofs.Ytbincnajklmnaaa
set_option linter.unusedVariables false
set_option linter.unusedSimpArgs false
open Go.RowKit

theorem flIsKey_c (k : Int) (w : World) : Calls Try.prog 42 #[.int .i64 k] w fun e w' => e = .returned (.bool (flK k)) ∧ w' = w := by
  by_cases h : 0 ≤ k
  · have hd : decide (0 ≤ k) = true := by simpa using h
    go_enter Try.func42, Try.ntmps42
    go_wp2
    go_ret
    exact ⟨by simp [flK, h], rfl⟩
  · have hd : decide (0 ≤ k) = false := by simpa using h
    go_enter Try.func42, Try.ntmps42
    go_wp2
    go_ret
    refine ⟨?_, rfl⟩
    have h' : ¬ 0 ≤ k := by omega
    simp [flK, h']
theorem flIsKey_b {k : Int} {b : Bool} (h : flK k = b) (w : World) : Calls Try.prog 42 #[.int .i64 k] w fun e w' => e = .returned (.bool b) ∧ w = w' := by
  subst h
  exact (flIsKey_c k w).mono fun _ _ h => ⟨h.1, h.2.symm⟩
theorem flIsSeq_c (k : Int) (w : World) : Calls Try.prog 43 #[.int .i64 k] w fun e w' => e = .returned (.bool (flS k)) ∧ w' = w := by
  by_cases h : 0 ≤ k
  · have hd : decide (0 ≤ k) = true := by simpa using h
    go_enter Try.func43, Try.ntmps43
    go_wp2
    go_ret
    exact ⟨by simp [flS, h], rfl⟩
  · have hd : decide (0 ≤ k) = false := by simpa using h
    go_enter Try.func43, Try.ntmps43
    go_wp2
    go_ret
    refine ⟨?_, rfl⟩
    have h' : ¬ 0 ≤ k := by omega
    simp [flS, h']
theorem flIsSeq_b {k : Int} {b : Bool} (h : flS k = b) (w : World) : Calls Try.prog 43 #[.int .i64 k] w fun e w' => e = .returned (.bool b) ∧ w = w' := by
  subst h
  exact (flIsSeq_c k w).mono fun _ _ h => ⟨h.1, h.2.symm⟩
theorem flNew_c (w : World) : Calls Try.prog 18 #[] w fun e w' => e = .returned (.pointer (some ⟨w.heap.size, 0, none⟩)) ∧ w' = w.alloc (.cells #[.int .i64 0, .int .i64 0, .int .i64 0, .int .i64 0, .int .i64 0, .int .i64 0, .int .i64 0, .int .i64 0] 90) := by
  go_enter Try.func18, Try.ntmps18
  go_wp2
  go_ret
  exact ⟨rfl, rfl⟩
theorem flOf_bad {k : Int} (b : Nat) (h : flK k = false) (w : World) :
    Calls Try.prog 20 #[.pointer (some ⟨b, 0, none⟩), .int .i64 k] w fun e w' => e = .returned (.tuple #[.int .i64 0, .iface 65 (.int .i64 1)]) ∧ Below w.heap.size w w' := by
  have HK : Hid (flK k = false) := h
  clear h
  go_enter Try.func20, Try.ntmps20
  go_wp2_with (go_at_call 42; refine (flIsKey_b HK.out _).mono ?_; rintro e w' ⟨rfl, rfl⟩)
  go_ret2
  exact ⟨rfl, by go_grown⟩
theorem flOf_ok (b k : Nat) (hk : k < 8) (o : Nat → Int) (w : World) (h : EightAt w b o) :
    Calls Try.prog 20 #[.pointer (some ⟨b, 0, none⟩), .int .i64 k] w fun e w' => e = .returned (.tuple #[.int .i64 (o k), .nilIface]) ∧ Below w.heap.size w w' := by
  have HK : Hid (flK k = true) := by show _ = _; simp [flK]; omega
  have hc := h.cell k hk
  have hlt := h.lt
  have h1 : (0 : Int) ≤ (k : Int) := by omega
  have h2 : (k : Int) < 8 := by omega
  generalize o k = x at hc ⊢
  clear h
  go_enter Try.func20, Try.ntmps20
  go_wp2_with (go_at_call 42; refine (flIsKey_b HK.out _).mono ?_; rintro e w' ⟨rfl, rfl⟩)
  go_ret2
  exact ⟨rfl, by go_grown⟩
theorem flRaise_bad {k s : Int} (b : Nat) (h : (flK k && flS s) = false) (w : World) :
    Calls Try.prog 19 #[.pointer (some ⟨b, 0, none⟩), .int .i64 k, .int .i64 s] w fun e w' => e = .returned (.tuple #[.bool false, .iface 65 (.int .i64 1)]) ∧ Below w.heap.size w w' := by
  cases hk : flK k
  · have HK : Hid (flK k = false) := hk
    clear h hk
    go_enter Try.func19, Try.ntmps19
    go_wp2_with (go_at_call 42; refine (flIsKey_b HK.out _).mono ?_; rintro e w' ⟨rfl, rfl⟩)
    go_ret2
    exact ⟨rfl, by go_grown⟩
  · have HK : Hid (flK k = true) := hk
    have HS : Hid (flS s = false) := by rw [hk] at h; exact h
    clear h hk
    go_enter Try.func19, Try.ntmps19
    go_wp2_with (first | (go_at_call 42; refine (flIsKey_b HK.out _).mono ?_; rintro e w' ⟨rfl, rfl⟩) | (go_at_call 43; refine (flIsSeq_b HS.out _).mono ?_; rintro e w' ⟨rfl, rfl⟩))
    go_ret2
    exact ⟨rfl, by go_grown⟩
set_option maxHeartbeats 4000000 in
theorem flRaise_ok {s : Int} (b k : Nat) (hk : k < 8) (hs : flS s = true) (o : Nat → Int) (w : World) (h : EightAt w b o) :
    Calls Try.prog 19 #[.pointer (some ⟨b, 0, none⟩), .int .i64 k, .int .i64 s] w fun e w' => e = .returned (.tuple #[.bool (decide (o k < s)), .nilIface]) ∧ EightAt w' b (upd o k (hi (o k) s)) ∧ Only b w w' := by
  have HK : Hid (flK k = true) := by show _ = _; simp [flK]; omega
  have HS : Hid (flS s = true) := hs
  have HE : Hid (EightAt w b o) := h
  have hc := h.cell k hk
  have hf := h.fz k
  have hlt := h.lt
  have h1 : (0 : Int) ≤ (k : Int) := by omega
  have h2 : (k : Int) < 8 := by omega
  obtain ⟨x, HX⟩ : ∃ x, Hid (o k = x) := ⟨_, rfl⟩
  rw [HX.out] at hc ⊢
  clear h hs
  by_cases hx : x < s
  · have hd : decide (x < s) = true := by simpa using hx
    have HH : Hid (hi x s = s) := if_pos hx
    rw [hd, HH.out]
    go_enter Try.func19, Try.ntmps19
    go_wp2_with (first | (go_at_call 42; refine (flIsKey_b HK.out _).mono ?_; rintro e w' ⟨rfl, rfl⟩) | (go_at_call 43; refine (flIsSeq_b HS.out _).mono ?_; rintro e w' ⟨rfl, rfl⟩))
    go_region
    all_goals go_wp2
    all_goals go_ret2
    all_goals exact ⟨rfl, (HE.out.set k hk s).drew, ((Only.refl b w).set k _).drew⟩
  · have hd : decide (x < s) = false := by simpa using hx
    have HH : Hid (hi x s = x) := if_neg hx
    rw [hd, HH.out]
    go_enter Try.func19, Try.ntmps19
    go_wp2_with (first | (go_at_call 42; refine (flIsKey_b HK.out _).mono ?_; rintro e w' ⟨rfl, rfl⟩) | (go_at_call 43; refine (flIsSeq_b HS.out _).mono ?_; rintro e w' ⟨rfl, rfl⟩))
    go_region
    all_goals go_wp2
    all_goals go_ret2
    all_goals exact ⟨rfl, (HE.out.set k hk x).drew, ((Only.refl b w).set k _).drew⟩
end Go.Proofs.Ytbincnajklmnaaa
