/-
  Node, Diff and the document's answers, with letters; mereref1.Two.
-/
import Derived.Test.YtpfljcacdcpojadDoorRfT
import Derived.Test.YtpfljcacdcpojadDoorTbJ
import Derived.Test.YtpfljcacdcpojadDoorErrA
namespace Go.Proofs.YtpfljcacdcpojadDoor
set_option linter.unusedVariables false
set_option linter.unusedSimpArgs false
open Go.RowKit

theorem eV_mk {n : Int} (h : n ≠ 0) : eV n = .iface 54 (.int .i64 n) := by rw [eV, if_neg h]
theorem ints_same (l : List Int) (va vb : Value) (w : World) (ha : IntsIs w va l) (hb : IntsIs w vb l) :
    Calls Tryd.prog 22 #[va, vb] w fun e w' => e = .returned (.bool true) ∧ Below w.heap.size w w' := by
  have c := ints_c va vb l l w ha hb
  rw [beq_self_eq_true] at c
  exact c
theorem rCache_o {v : Value} {l : List En} {w : World} {n : Int} (hr : RowIs w v l) (h : badL l = n) :
    Calls Tryd.prog 16 #[v] w fun e w' => e = .returned (.int .i64 n) ∧ Below w.heap.size w w' := by
  subst h
  exact rCache_c v l w hr
theorem rTwo_c (va vb : Value) (a b : List En) (w : World) (hra : RowIs w va a) (hrb : RowIs w vb b) :
    Calls Tryd.prog 19 #[va, vb] w fun e w' => e = .returned (.int .i64 (bad2 (badL a) (badL b))) ∧ Below w.heap.size w w' := by
  obtain ⟨m, HM⟩ : ∃ m, Hid (badL a = m) := ⟨_, rfl⟩
  obtain ⟨n, HN⟩ : ∃ n, Hid (badL b = n) := ⟨_, rfl⟩
  rw [HM.out, HN.out]
  have HA : Hid (RowIs w va a) := hra
  have HB : Hid (RowIs w vb b) := hrb
  clear hra hrb
  by_cases h : m = 0
  · have hmb : (m == 0) = true := by simp [h]
    have HE : Hid (bad2 m n = n) := if_pos h
    rw [HE.out]
    clear h
    go_enter Tryd.func19, Tryd.ntmps19
    go_wp2_with fail
    refine (rCache_o HA.out HM.out).mono ?_
    rintro e w1 ⟨rfl, hb⟩
    have B1 : Hid (Below w.heap.size w w1) := hb
    clear hb
    go_wp2_with fail
    refine (rCache_o (HB.out.below B1.out) HN.out).mono ?_
    rintro e w2 ⟨rfl, hb⟩
    have B2 : Hid (Below w.heap.size w w2) := B1.out.trans (hb.mono B1.out.size)
    clear hb B1
    go_wp2_with fail
    go_ret
    exact ⟨rfl, B2.out⟩
  · have hmb : (m == 0) = false := by simp [h]
    have HE : Hid (bad2 m n = m) := if_neg h
    rw [HE.out]
    clear h
    go_enter Tryd.func19, Tryd.ntmps19
    go_wp2_with fail
    refine (rCache_o HA.out HM.out).mono ?_
    rintro e w1 ⟨rfl, hb⟩
    have B1 : Hid (Below w.heap.size w w1) := hb
    clear hb
    go_wp2_with fail
    go_ret
    exact ⟨rfl, B1.out⟩
/-- what Node answers, and the document's -/
theorem tnode_e (v : Value) (l : List En) (i : Int) (w0 : World) (hr : RowIs w0 v l) (hT : Lib.TabBelow Tryd.prog w0.heap.size w0 powName .u64 Lib.pow10Tab) : ∃ (N : Nat) (E : Int),
    (∀ w, Below w0.heap.size w0 w → Calls Tryd.prog 18 #[v, .int .i64 i] w fun e w' => e = .returned (.tuple #[.int .i64 (N : Nat), eV E]) ∧ Below w.heap.size w w') ∧ (isNode i = false → E = 1) ∧ (isNode i = true → E = badL l) ∧ (E ≠ 0 → N = 0) ∧
    (E = 0 → ∀ w, Below w0.heap.size w0 w → Calls Tryd.prog 17 #[v, .int .i64 i] w fun e w' => e = .returned (.int .i64 (N : Nat)) ∧ Below w.heap.size w w') := by
  cases hi : isNode i with
  | false =>
    refine ⟨0, 1, fun w hb => ?_, fun _ => rfl, fun h => Bool.noConfusion h, fun _ => rfl, fun h => by omega⟩
    rw [eV_mk (by omega)]
    exact tnode_range v i w hi
  | true =>
    by_cases hn : badL l = 0
    · have hi' := hi
      simp only [isNode, Bool.and_eq_true, decide_eq_true_eq] at hi'
      obtain ⟨j, rfl⟩ : ∃ j : Nat, i = (j : Int) := ⟨i.toNat, by omega⟩
      exact ⟨trN (leafN l) j, 0, fun w hb => tnode_ok v l j w (hr.below hb) hi hn (hT w hb), fun h => Bool.noConfusion h, fun _ => hn.symm, fun h => absurd rfl h, fun _ w hb => rNode_c l v hn (dep j) j rfl (by omega) (by omega) w (hr.below hb)⟩
    · refine ⟨0, badL l, fun w hb => ?_, fun h => Bool.noConfusion h, fun _ => rfl, fun _ => rfl, fun h => absurd h hn⟩
      rw [eV_mk hn]
      exact tnode_bad v l i (badL l) w (hr.below hb) hi rfl hn
/-- what Diff answers, and the document's -/
theorem diff_e (va vb : Value) (a b : List En) (w0 : World) (hra : RowIs w0 va a) (hrb : RowIs w0 vb b) (hT : Lib.TabBelow Tryd.prog w0.heap.size w0 powName .u64 Lib.pow10Tab) : ∃ (K : List Int) (N : Nat),
    (∀ w, Below w0.heap.size w0 w → Calls Tryd.prog 21 #[va, vb] w fun e w' => ∃ v', e = .returned (.tuple #[v', .int .i64 (N : Nat), eV (bad2 (badL a) (badL b))]) ∧ IntsIs w' v' K ∧ Below w.heap.size w w') ∧ (bad2 (badL a) (badL b) ≠ 0 → K = [] ∧ N = 0) ∧
    (bad2 (badL a) (badL b) = 0 → ∀ w, Below w0.heap.size w0 w → Calls Tryd.prog 20 #[va, vb, .int .i64 1] w fun e w' => ∃ v', e = .returned (.tuple #[v', .int .i64 (N : Nat)]) ∧ IntsIs w' v' K ∧ Below w.heap.size w w') := by
  by_cases ha : badL a = 0
  · have e2 : bad2 (badL a) (badL b) = badL b := if_pos ha
    rw [e2]
    by_cases hb : badL b = 0
    · rw [hb]
      refine ⟨partK (leafN a) (leafN b) 1, partN (leafN a) (leafN b) 1, fun w hw => ?_, fun h => absurd rfl h, fun _ w hw => ?_⟩
      · refine (diff_ok va vb a b w (hra.below hw) (hrb.below hw) ha hb (hT w hw)).mono ?_
        rintro e w' ⟨v', he, ho, hb'⟩
        exact ⟨v', he, ho.ints, hb'⟩
      refine (rPart_c a b va vb ha hb w0 hra hrb 3 1 rfl (by omega) (by omega) w hw).mono ?_
      rintro e w' ⟨v', he, ho, hb'⟩
      exact ⟨v', he, ho.ints, hb'⟩
    · refine ⟨[], 0, fun w hw => ?_, fun _ => ⟨rfl, rfl⟩, fun h => absurd h hb⟩
      rw [eV_mk hb]
      refine (diff_other va vb a b _ w (hra.below hw) (hrb.below hw) ha rfl hb (hT w hw)).mono ?_
      rintro e w' ⟨he, hb'⟩
      exact ⟨_, he, IntsIs.nil _, hb'⟩
  · have e2 : bad2 (badL a) (badL b) = badL a := if_neg ha
    rw [e2]
    refine ⟨[], 0, fun w hw => ?_, fun _ => ⟨rfl, rfl⟩, fun h => absurd h ha⟩
    rw [eV_mk ha]
    refine (diff_one va vb a _ w (hra.below hw) rfl ha).mono ?_
    rintro e w' ⟨he, hb'⟩
    exact ⟨_, he, IntsIs.nil _, hb'⟩
end Go.Proofs.YtpfljcacdcpojadDoor
