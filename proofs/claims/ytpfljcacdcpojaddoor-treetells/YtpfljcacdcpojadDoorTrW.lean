/-
  The walk of merelaw1.TreeTells.
-/
import Derived.Test.YtpfljcacdcpojadDoorTrT
import Derived.Deep.CutBlock
namespace Go.Proofs.YtpfljcacdcpojadDoor
set_option linter.unusedVariables false
set_option linter.unusedSimpArgs false
open Go.RowKit

set_option maxHeartbeats 4000000 in
set_option maxRecDepth 100000 in
theorem treeTells_w (va vb : Value) (a b : List En) (i : Int) (w : World) (hra : RowIs w va a) (hrb : RowIs w vb b) (hT : Lib.TabIs Tryd.prog w powName .u64 Lib.pow10Tab) (hg : HasErr w) :
    Calls Tryd.prog 6 #[va, vb, .int .i64 i] w fun e w' => e = .returned (.bool true) ∧ Below w.heap.size w w' := by
  have HT : Hid (Lib.TabBelow Tryd.prog w.heap.size w powName .u64 Lib.pow10Tab) := Lib.tabBelow_of_tabIs hT
  have HG : Hid (∀ w', Below w.heap.size w w' → HasErr w') := fun w' hb => hg.below hg.lt hb
  have HRa : Hid (RowIs w va a) := hra
  have HRb : Hid (RowIs w vb b) := hrb
  clear hT hg
  obtain ⟨N1, E1, c1, p1, p2, p3, p4⟩ := tnode_e va a i w hra HT.out
  have HC1 : Hid (∀ w', Below w.heap.size w w' → Calls Tryd.prog 18 #[va, .int .i64 i] w' fun e w'' => e = .returned (.tuple #[.int .i64 (N1 : Nat), eV E1]) ∧ Below w'.heap.size w' w'') := c1
  have HP1 : Hid (isNode i = false → E1 = 1) := p1
  have HP2 : Hid (isNode i = true → badL a = E1) := fun h => (p2 h).symm
  have HP3 : Hid (E1 ≠ 0 → N1 = 0) := p3
  have HP4 : Hid (E1 = 0 → ∀ w', Below w.heap.size w w' → Calls Tryd.prog 17 #[va, .int .i64 i] w' fun e w'' => e = .returned (.int .i64 (N1 : Nat)) ∧ Below w'.heap.size w' w'') := p4
  clear c1 p1 p2 p3 p4
  obtain ⟨K2, N2, c2, q1, q2⟩ := diff_e va vb a b w hra hrb HT.out
  have c3 : ∀ w', Below w.heap.size w w' → Calls Tryd.prog 19 #[va, vb] w' fun e w'' => e = .returned (.int .i64 (bad2 (badL a) (badL b))) ∧ Below w'.heap.size w' w'' := fun w' hb => rTwo_c va vb a b w' (hra.below hb) (hrb.below hb)
  obtain ⟨E2, HE2⟩ : ∃ E2, Hid (bad2 (badL a) (badL b) = E2) := ⟨_, rfl⟩
  rw [HE2.out] at c2 q1 q2 c3
  have HC2 : Hid (∀ w', Below w.heap.size w w' → Calls Tryd.prog 21 #[va, vb] w' fun e w'' => ∃ v', e = .returned (.tuple #[v', .int .i64 (N2 : Nat), eV E2]) ∧ IntsIs w'' v' K2 ∧ Below w'.heap.size w' w'') := c2
  have HC3 : Hid (∀ w', Below w.heap.size w w' → Calls Tryd.prog 19 #[va, vb] w' fun e w'' => e = .returned (.int .i64 E2) ∧ Below w'.heap.size w' w'') := c3
  have HQ1 : Hid (E2 ≠ 0 → K2 = [] ∧ N2 = 0) := q1
  have HQ2 : Hid (E2 = 0 → ∀ w', Below w.heap.size w w' → Calls Tryd.prog 20 #[va, vb, .int .i64 1] w' fun e w'' => ∃ v', e = .returned (.tuple #[v', .int .i64 (N2 : Nat)]) ∧ IntsIs w'' v' K2 ∧ Below w'.heap.size w' w'') := q2
  clear c2 c3 q1 q2 HE2 hra hrb HT
  go_enter Tryd.func6, Tryd.ntmps6
  go_upto_region 2 with fail
  go_cut [22] (fun v22 wc => ∃ cb : Bool, v22 = .bool cb ∧ Hid (cb = !(isNode i)) ∧ Hid (Below w.heap.size w wc))
  case first =>
    cases hn : isNode i with
    | false =>
      have HN : Hid (isNode i = false) := hn
      rcases (show i < 1 ∨ (¬ i < 1 ∧ 15 < i) by simp only [isNode, Bool.and_eq_false_iff, decide_eq_false_iff_not] at hn; omega) with h1 | ⟨h1, h2⟩
      all_goals
        clear hn
        go_wp2_with fail
        go_meet
        case rel => exact ⟨true, rfl, (show true = !(isNode i) by rw [HN.out]; rfl), Below.refl _ _⟩
    | true =>
      have HN : Hid (isNode i = true) := hn
      obtain ⟨h1, h2⟩ : ¬ i < 1 ∧ ¬ 15 < i := by simp only [isNode, Bool.and_eq_true, decide_eq_true_eq] at hn; omega
      clear hn
      go_wp2_with fail
      go_meet
      case rel => exact ⟨false, rfl, (show false = !(isNode i) by rw [HN.out]; rfl), Below.refl _ _⟩
  case rest =>
    obtain ⟨wa, h⟩ : ∃ x, x = wc := ⟨_, rfl⟩
    subst h
    obtain ⟨cb, rfl, HCB, BA⟩ := hcut
    go_upto_if 22 with fail
    go_cut [7] (fun v7 wc => v7 = .int .i64 E1 ∧ Hid (Below w.heap.size w wc))
    case first =>
      cases cb with
      | true =>
        have HQ : Hid (E1 = 1) := HP1.out (by have := HCB.out; cases h : isNode i; rfl; rw [h] at this; cases this)
        go_wp2_with fail
        go_meet
        case rel => exact ⟨by rw [HQ.out], BA⟩
      | false =>
        have HQ : Hid (badL a = E1) := HP2.out (by have := HCB.out; cases h : isNode i; rw [h] at this; cases this; rfl)
        go_wp2_with fail
        refine (rCache_o (HRa.out.below BA.out) HQ.out).mono ?_
        rintro e w1 ⟨rfl, hb⟩
        have B1 : Hid (Below w.heap.size w w1) := BA.out.trans (hb.mono BA.out.size)
        clear hb
        go_wp2_with fail
        go_meet
        case rel => exact ⟨rfl, B1⟩
    case rest =>
      obtain ⟨wb, h⟩ : ∃ x, x = wc := ⟨_, rfl⟩
      subst h
      obtain ⟨rfl, BB⟩ := hcut
      clear BA HCB HP1 HP2
      go_upto_if 26 with fail
      go_cut [8] (fun v8 wc => v8 = .int .i64 (N1 : Nat) ∧ Hid (Below w.heap.size w wc))
      case first =>
        by_cases h0 : E1 = 0
        · have h0b : (E1 == 0) = true := by simp [h0]
          have HO : Hid (∀ w', Below w.heap.size w w' → Calls Tryd.prog 17 #[va, .int .i64 i] w' fun e w'' => e = .returned (.int .i64 (N1 : Nat)) ∧ Below w'.heap.size w' w'') := HP4.out h0
          clear h0
          go_wp2_with fail
          refine (HO.out _ BB.out).mono ?_
          rintro e w1 ⟨rfl, hb⟩
          have B1 : Hid (Below w.heap.size w w1) := BB.out.trans (hb.mono BB.out.size)
          clear hb
          go_wp2_with fail
          go_meet
          case rel => exact ⟨rfl, B1⟩
        · have h0b : (E1 == 0) = false := by simp [h0]
          have HZ : Hid (N1 = 0) := HP3.out h0
          clear h0
          go_wp2_with fail
          go_meet
          case rel => exact ⟨by rw [HZ.out]; rfl, BB⟩
      case rest =>
        obtain ⟨wd, h⟩ : ∃ x, x = wc := ⟨_, rfl⟩
        subst h
        obtain ⟨rfl, BD⟩ := hcut
        clear BB HP3 HP4
        go_wp2_with fail
        refine (HC1.out _ BD.out).mono ?_
        rintro e w1 ⟨rfl, hb⟩
        have B1 : Hid (Below w.heap.size w w1) := BD.out.trans (hb.mono BD.out.size)
        clear hb BD HC1
        go_wp2_with fail
        refine (err_same E1 _ (HG.out _ B1.out)).mono ?_
        rintro e w2 ⟨rfl, hb⟩
        have B2 : Hid (Below w.heap.size w w2) := B1.out.trans (hb.mono B1.out.size)
        clear hb B1
        go_wp2_with fail
        refine (HC3.out _ B2.out).mono ?_
        rintro e w3 ⟨rfl, hb⟩
        have B3 : Hid (Below w.heap.size w w3) := B2.out.trans (hb.mono B2.out.size)
        clear hb B2 HC3
        go_upto_if 48 with fail
        go_cut [12, 13] (fun v12 v13 wc => ∃ V, v12 = V ∧ v13 = .int .i64 (N2 : Nat) ∧ Hid (IntsIs wc V K2) ∧ Hid (Below w.heap.size w wc))
        case first =>
          by_cases h0 : E2 = 0
          · have h0b : (E2 == 0) = true := by simp [h0]
            have HO : Hid (∀ w', Below w.heap.size w w' → Calls Tryd.prog 20 #[va, vb, .int .i64 1] w' fun e w'' => ∃ v', e = .returned (.tuple #[v', .int .i64 (N2 : Nat)]) ∧ IntsIs w'' v' K2 ∧ Below w'.heap.size w' w'') := HQ2.out h0
            clear h0
            go_wp2_with fail
            refine (HO.out _ B3.out).mono ?_
            rintro e w4 ⟨V, rfl, hi, hb⟩
            have B4 : Hid (Below w.heap.size w w4) := B3.out.trans (hb.mono B3.out.size)
            have I4 : Hid (IntsIs w4 V K2) := hi
            clear hb hi
            go_wp2_with fail
            go_meet
            case rel => exact ⟨V, rfl, rfl, I4, B4⟩
          · have h0b : (E2 == 0) = false := by simp [h0]
            have HZ : Hid (K2 = [] ∧ N2 = 0) := HQ1.out h0
            clear h0
            go_wp2_with fail
            go_meet
            case rel => exact ⟨.slice none 0 0, rfl, by rw [HZ.out.2]; rfl, (by rw [HZ.out.1]; exact IntsIs.nil _), B3⟩
        case rest =>
          obtain ⟨we, h⟩ : ∃ x, x = wc := ⟨_, rfl⟩
          subst h
          obtain ⟨V, rfl, rfl, IE, BE⟩ := hcut
          clear B3 HQ1 HQ2
          go_wp2_with fail
          refine (HC2.out _ BE.out).mono ?_
          rintro e w4 ⟨U, rfl, hi, hb⟩
          have B4 : Hid (Below w.heap.size w w4) := BE.out.trans (hb.mono BE.out.size)
          have I4 : Hid (IntsIs w4 U K2) := hi
          have J4 := (show Hid (IntsIs _ _ _) from IE.out.below hb)
          clear hb hi BE IE HC2
          go_wp2_with fail
          refine (err_same E2 _ (HG.out _ B4.out)).mono ?_
          rintro e w5 ⟨rfl, hb⟩
          have B5 : Hid (Below w.heap.size w w5) := B4.out.trans (hb.mono B4.out.size)
          have I5 : Hid (IntsIs w5 U K2) := I4.out.below hb
          have J5 := (show Hid (IntsIs _ _ _) from J4.out.below hb)
          clear hb B4 I4 J4
          go_wp2_with fail
          refine (ints_same K2 _ _ _ I5.out J5.out).mono ?_
          rintro e w6 ⟨rfl, hb⟩
          have B6 : Hid (Below w.heap.size w w6) := B5.out.trans (hb.mono B5.out.size)
          clear hb B5 I5 J5
          go_wp2_with fail
          go_ret
          exact ⟨rfl, B6.out⟩
end Go.Proofs.YtpfljcacdcpojadDoor
