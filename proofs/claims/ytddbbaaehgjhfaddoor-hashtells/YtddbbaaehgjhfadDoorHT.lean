/-
  HashTells: the number of any text, any entry, and any two: every road.
-/
import Derived.Test.YtddbbaaehgjhfadDoorRfP
import Derived.Test.YtddbbaaehgjhfadDoorErrA
import Derived.Test.YtddbbaaehgjhfadDoorRfE2
import Derived.Deep.CutBlock
namespace Go.Proofs.YtddbbaaehgjhfadDoor
set_option linter.unusedVariables false
set_option linter.unusedSimpArgs false
open Go.RowKit

theorem hN_nat {n : Int} (h : isN n = true) : ∃ m : Nat, n = (m : Int) ∧ m ≤ 4294967295 := by
  simp only [isN, Bool.and_eq_true, decide_eq_true_eq] at h
  exact ⟨n.toNat, by omega, by omega⟩
theorem hN_not {a b : Int} (h : (isN a && isN b) = false) : a < 0 ∨ (¬ a < 0 ∧ 4294967295 < a) ∨ (¬ a < 0 ∧ ¬ 4294967295 < a ∧ b < 0) ∨ (¬ a < 0 ∧ ¬ 4294967295 < a ∧ ¬ b < 0 ∧ 4294967295 < b) := by
  simp only [isN, Bool.and_eq_false_iff, decide_eq_false_iff_not] at h
  omega
theorem good_nat {k v a : Int} {g : Bool} {t : ByteArray} (h : bad k v a g t = 0) : ∃ K V : Nat, k = (K : Int) ∧ v = (V : Int) ∧ K ≤ 1000 ∧ V ≤ 1000 ∧ t.size ≤ 12 := by
  unfold bad at h
  split at h
  · cases h
  · rename_i h1
    split at h
    · cases h
    · rename_i h2
      simp only [inR, Bool.and_eq_true, decide_eq_true_eq, Bool.not_eq_true', Bool.not_eq_false] at h1
      exact ⟨k.toNat, v.toNat, by omega, by omega, by omega, by omega, by omega⟩
theorem eV_of {n : Int} (h : n ≠ 0) : eV n = .iface 38 (.int .i64 n) := by rw [eV, if_neg h]
/-- what Text answers, with letters -/
theorem text_e (s : ByteArray) : ∃ (N : Nat) (E : Int), (∀ w, Calls Tryd.prog 7 #[.string s] w fun e w' => e = .returned (.tuple #[.int .i64 (N : Nat), eV E]) ∧ w' = w) ∧ (60 < s.size → E = 4 ∧ N = 0) ∧ (¬ 60 < s.size → E = 0 ∧ N = hashL (byN s)) := by
  by_cases h : 60 < s.size
  · refine ⟨0, 4, fun w => ?_, fun _ => ⟨rfl, rfl⟩, fun h' => absurd h h'⟩
    rw [eV_of (by omega)]
    exact text_full s w h
  · exact ⟨_, 0, fun w => text_ok s w h, fun h' => absurd h' h, fun _ => ⟨rfl, rfl⟩⟩
/-- what Entry answers, with letters -/
theorem hentry_e (k v a : Int) (g : Bool) (t : ByteArray) : ∃ N : Nat, (∀ w, Lib.TabIs Tryd.prog w powName .u64 Lib.pow10Tab → Calls Tryd.prog 11 #[.agg #[.int .i64 k, .int .i64 v, .int .i64 a, .bool g, .string t]] w fun e w' => e = .returned (.tuple #[.int .i64 (N : Nat), eV (bad k v a g t)]) ∧ Below w.heap.size w w') ∧ (bad k v a g t ≠ 0 → N = 0) ∧
    (bad k v a g t = 0 → ∀ w, Calls Tryd.prog 10 #[.agg #[.int .i64 k, .int .i64 v, .int .i64 a, .bool g, .string t]] w fun e w' => e = .returned (.int .i64 (N : Nat)) ∧ Below w.heap.size w w') := by
  by_cases h : bad k v a g t = 0
  · obtain ⟨K, V, rfl, rfl, hK, hV, ht⟩ := good_nat h
    refine ⟨hashL (byN (strE K V g t)), fun w hT => ?_, fun h' => absurd h h', fun _ w => rOne_c K V a g t hK hV ht w⟩
    rw [h]
    exact hentry_ok K V a g t h hK hV ht w hT
  · refine ⟨0, fun w _ => ?_, fun _ => rfl, fun h' => absurd h' h⟩
    rw [eV_of h]
    exact hentry_bad rfl h w
/-- what Two answers, with letters -/
theorem two_e (a b : Int) : ∃ (N : Nat) (E : Int), (∀ w, Lib.TabIs Tryd.prog w powName .u64 Lib.pow10Tab → Calls Tryd.prog 13 #[.int .i64 a, .int .i64 b] w fun e w' => e = .returned (.tuple #[.int .i64 (N : Nat), eV E]) ∧ Below w.heap.size w w') ∧ ((isN a && isN b) = false → E = 1 ∧ N = 0) ∧
    ((isN a && isN b) = true → E = 0 ∧ ∀ w, Calls Tryd.prog 12 #[.int .i64 a, .int .i64 b] w fun e w' => e = .returned (.int .i64 (N : Nat)) ∧ Below w.heap.size w w') := by
  cases h : (isN a && isN b) with
  | false =>
    refine ⟨0, 1, fun w _ => ?_, fun _ => ⟨rfl, rfl⟩, fun h' => Bool.noConfusion h'⟩
    rw [eV_of (by omega)]
    refine (two_bad a b w h).mono ?_
    rintro e w1 ⟨rfl, rfl⟩
    exact ⟨rfl, Below.refl _ _⟩
  | true =>
    obtain ⟨h1, h2⟩ : isN a = true ∧ isN b = true := by simpa using h
    obtain ⟨x, rfl, hx⟩ := hN_nat h1
    obtain ⟨y, rfl, hy⟩ := hN_nat h2
    exact ⟨hashL (byN (str2 x y)), 0, fun w hT => two_ok x y w hx hy hT, fun h' => Bool.noConfusion h', fun _ => ⟨rfl, fun w => rPair_c x y (by omega) (by omega) w⟩⟩

set_option maxHeartbeats 4000000 in
set_option maxRecDepth 100000 in
theorem hashTells_w (s : ByteArray) (k v a : Int) (g : Bool) (t : ByteArray) (x y : Int) (w : World) (hT : Lib.TabIs Tryd.prog w powName .u64 Lib.pow10Tab) (hg : HasErr w) :
    Calls Tryd.prog 3 #[.string s, .agg #[.int .i64 k, .int .i64 v, .int .i64 a, .bool g, .string t], .int .i64 x, .int .i64 y] w fun e w' => e = .returned (.bool true) ∧ Below w.heap.size w w' := by
  have HT : Hid (Lib.TabBelow Tryd.prog w.heap.size w powName .u64 Lib.pow10Tab) := Lib.tabBelow_of_tabIs hT
  have HG : Hid (∀ w', Below w.heap.size w w' → HasErr w') := fun w' hb => hg.below hg.lt hb
  clear hT hg
  obtain ⟨N1, E1, c1, p1, p2⟩ := text_e s
  have HC1 : Hid (∀ w, Calls Tryd.prog 7 #[.string s] w fun e w' => e = .returned (.tuple #[.int .i64 (N1 : Nat), eV E1]) ∧ w' = w) := c1
  have HP1 : Hid ((60 < s.size → E1 = 4 ∧ N1 = 0) ∧ (¬ 60 < s.size → E1 = 0 ∧ N1 = hashL (byN s))) := ⟨p1, p2⟩
  clear c1 p1 p2
  obtain ⟨N2, c2, p3, p4⟩ := hentry_e k v a g t
  obtain ⟨E2, HE2⟩ : ∃ E2, Hid (bad k v a g t = E2) := ⟨_, rfl⟩
  rw [HE2.out] at c2 p3 p4
  have HC2 : Hid (∀ w, Lib.TabIs Tryd.prog w powName .u64 Lib.pow10Tab → Calls Tryd.prog 11 #[.agg #[.int .i64 k, .int .i64 v, .int .i64 a, .bool g, .string t]] w fun e w' => e = .returned (.tuple #[.int .i64 (N2 : Nat), eV E2]) ∧ Below w.heap.size w w') := c2
  have HP2 : Hid (E2 ≠ 0 → N2 = 0) := p3
  have HO2 : Hid (E2 = 0 → ∀ w, Calls Tryd.prog 10 #[.agg #[.int .i64 k, .int .i64 v, .int .i64 a, .bool g, .string t]] w fun e w' => e = .returned (.int .i64 (N2 : Nat)) ∧ Below w.heap.size w w') := p4
  have HR2 : Hid (∀ w, Calls Tryd.prog 9 #[.agg #[.int .i64 k, .int .i64 v, .int .i64 a, .bool g, .string t]] w fun e w' => e = .returned (.int .i64 E2) ∧ Below w.heap.size w w') := by
    rw [← HE2.out]
    exact fun w => rEntry_c k v a g t w
  clear c2 p3 p4
  obtain ⟨N3, E3, c3, p5, p6⟩ := two_e x y
  have HC3 : Hid (∀ w, Lib.TabIs Tryd.prog w powName .u64 Lib.pow10Tab → Calls Tryd.prog 13 #[.int .i64 x, .int .i64 y] w fun e w' => e = .returned (.tuple #[.int .i64 (N3 : Nat), eV E3]) ∧ Below w.heap.size w w') := c3
  have HP3 : Hid ((isN x && isN y) = false → E3 = 1 ∧ N3 = 0) := p5
  have HO3 : Hid ((isN x && isN y) = true → E3 = 0 ∧ ∀ w, Calls Tryd.prog 12 #[.int .i64 x, .int .i64 y] w fun e w' => e = .returned (.int .i64 (N3 : Nat)) ∧ Below w.heap.size w w') := p6
  clear c3 p5 p6
  go_enter Tryd.func3, Tryd.ntmps3
  go_upto_region 1 with fail
  obtain ⟨wa, HWA⟩ : ∃ wa, wa = w.alloc (.cells #[.int .i64 k, .int .i64 v, .int .i64 a, .bool g, .string t] 23) := ⟨_, rfl⟩
  have XA : Hid (BoxAt wa w.heap.size k v a g t) := by
    rw [HWA]
    exact box_new w k v a g t w.heap.size rfl
  have BA : Hid (Below w.heap.size w wa) := by
    rw [HWA]
    show Below _ _ _
    go_grown
  rw [← HWA]
  clear HWA
  go_upto_if 18 with fail
  go_cut [9, 10] (fun v9 v10 wc => v9 = .int .i64 E1 ∧ v10 = .int .i64 (N1 : Nat) ∧ Hid (Below w.heap.size w wc) ∧ Hid (BoxAt wc w.heap.size k v a g t))
  case first =>
    by_cases h60 : 60 < s.size
    · have h60i : (60 : Int) < (s.size : Int) := by omega
      have HQ : Hid (E1 = 4 ∧ N1 = 0) := HP1.out.1 h60
      go_wp2_with fail
      go_meet
      case rel => exact ⟨by rw [HQ.out.1], by rw [HQ.out.2]; rfl, BA, XA⟩
    · have h60i : ¬ (60 : Int) < (s.size : Int) := by omega
      have HQ : Hid (E1 = 0 ∧ N1 = hashL (byN s)) := HP1.out.2 h60
      go_wp2_with fail
      refine (rHash_c s _ (by omega)).mono ?_
      rintro e w1 ⟨rfl, hb⟩
      have B1 : Hid (Below w.heap.size w w1) := BA.out.trans (hb.mono BA.out.size)
      have X1 : Hid (BoxAt w1 w.heap.size k v a g t) := XA.out.below hb XA.out.lt
      clear hb
      go_wp2_with fail
      go_meet
      case rel => exact ⟨by rw [HQ.out.1], by rw [HQ.out.2], B1, X1⟩
  case rest =>
    obtain ⟨wb, h⟩ : ∃ x, x = wc := ⟨_, rfl⟩
    subst h
    obtain ⟨rfl, rfl, BB, XB⟩ := hcut
    clear BA XA HP1
    go_wp2_with fail
    refine (HC1.out _).mono ?_
    rintro e w1 ⟨rfl, hw1⟩
    subst hw1
    go_wp2_with fail
    refine (err_same E1 _ (HG.out _ BB.out)).mono ?_
    rintro e wd ⟨rfl, hb⟩
    have BD : Hid (Below w.heap.size w wd) := BB.out.trans (hb.mono BB.out.size)
    have XD : Hid (BoxAt wd w.heap.size k v a g t) := XB.out.below hb XB.out.lt
    clear hb BB XB
    -- the entry
    obtain ⟨a0, a1, a2, a3, a4, af⟩ := XD.out
    go_wp2_with fail
    refine (HR2.out _).mono ?_
    rintro e we ⟨rfl, hb⟩
    have BE : Hid (Below w.heap.size w we) := BD.out.trans (hb.mono BD.out.size)
    have XE : Hid (BoxAt we w.heap.size k v a g t) := XD.out.below hb XD.out.lt
    clear hb BD XD a0 a1 a2 a3 a4 af
    go_upto_if 37 with fail
    go_cut [10] (fun v10 wc => v10 = .int .i64 (N2 : Nat) ∧ Hid (Below w.heap.size w wc) ∧ Hid (BoxAt wc w.heap.size k v a g t))
    case first =>
      by_cases h0 : E2 = 0
      · have h0b : (E2 == 0) = true := by simp [h0]
        have HO : Hid (∀ w, Calls Tryd.prog 10 #[.agg #[.int .i64 k, .int .i64 v, .int .i64 a, .bool g, .string t]] w fun e w' => e = .returned (.int .i64 (N2 : Nat)) ∧ Below w.heap.size w w') := HO2.out h0
        clear h0
        obtain ⟨a0, a1, a2, a3, a4, af⟩ := XE.out
        go_wp2_with fail
        refine (HO.out _).mono ?_
        rintro e wf ⟨rfl, hb⟩
        have BF : Hid (Below w.heap.size w wf) := BE.out.trans (hb.mono BE.out.size)
        have XF : Hid (BoxAt wf w.heap.size k v a g t) := XE.out.below hb XE.out.lt
        clear hb a0 a1 a2 a3 a4 af
        go_wp2_with fail
        go_meet
        case rel => exact ⟨rfl, BF, XF⟩
      · have h0b : (E2 == 0) = false := by simp [h0]
        have HZ : Hid (N2 = 0) := HP2.out h0
        clear h0
        go_wp2_with fail
        go_meet
        case rel => exact ⟨by rw [HZ.out]; rfl, BE, XE⟩
    case rest =>
      obtain ⟨wg, h⟩ : ∃ x, x = wc := ⟨_, rfl⟩
      subst h
      obtain ⟨rfl, BG, XG⟩ := hcut
      clear BE XE HP2 HO2 HR2
      obtain ⟨a0, a1, a2, a3, a4, af⟩ := XG.out
      go_wp2_with fail
      refine (HC2.out _ (HT.out _ BG.out)).mono ?_
      rintro e wh ⟨rfl, hb⟩
      have BH : Hid (Below w.heap.size w wh) := BG.out.trans (hb.mono BG.out.size)
      clear hb BG XG a0 a1 a2 a3 a4 af
      go_wp2_with fail
      refine (err_same E2 _ (HG.out _ BH.out)).mono ?_
      rintro e wi ⟨rfl, hb⟩
      have BI : Hid (Below w.heap.size w wi) := BH.out.trans (hb.mono BH.out.size)
      clear hb BH
      -- two numbers
      go_upto_region 16 with fail
      go_cut [66] (fun v66 wc => ∃ cb : Bool, v66 = .bool cb ∧ Hid (cb = !(isN x && isN y)) ∧ Hid (Below w.heap.size w wc))
      case first =>
        cases hn : (isN x && isN y) with
        | false =>
          have HN : Hid ((isN x && isN y) = false) := hn
          rcases hN_not hn with h1 | ⟨h1, h2⟩ | ⟨h1, h2, h3⟩ | ⟨h1, h2, h3, h4⟩
          all_goals
            clear hn
            go_wp2_with fail
            go_meet
            case rel => exact ⟨true, rfl, (show true = !(isN x && isN y) by rw [HN.out]; rfl), BI⟩
        | true =>
          have HN : Hid ((isN x && isN y) = true) := hn
          obtain ⟨h1, h2⟩ : isN x = true ∧ isN y = true := by simpa using hn
          have q1 : ¬ x < 0 := by simp only [isN, Bool.and_eq_true, decide_eq_true_eq] at h1; omega
          have q2 : ¬ 4294967295 < x := by simp only [isN, Bool.and_eq_true, decide_eq_true_eq] at h1; omega
          have q3 : ¬ y < 0 := by simp only [isN, Bool.and_eq_true, decide_eq_true_eq] at h2; omega
          have q4 : ¬ 4294967295 < y := by simp only [isN, Bool.and_eq_true, decide_eq_true_eq] at h2; omega
          clear hn h1 h2
          go_wp2_with fail
          go_meet
          case rel => exact ⟨false, rfl, (show false = !(isN x && isN y) by rw [HN.out]; rfl), BI⟩
      case rest =>
        obtain ⟨wj, h⟩ : ∃ x, x = wc := ⟨_, rfl⟩
        subst h
        obtain ⟨cb, rfl, HCB, BJ⟩ := hcut
        clear BI
        go_upto_if 66 with fail
        go_cut [9, 10] (fun v9 v10 wc => v9 = .int .i64 E3 ∧ v10 = .int .i64 (N3 : Nat) ∧ Hid (Below w.heap.size w wc))
        case first =>
          cases cb with
          | true =>
            have HQ : Hid (E3 = 1 ∧ N3 = 0) := HP3.out (by have := HCB.out; cases h : (isN x && isN y); rfl; rw [h] at this; cases this)
            go_wp2_with fail
            go_meet
            case rel => exact ⟨by rw [HQ.out.1], by rw [HQ.out.2]; rfl, BJ⟩
          | false =>
            have HQ : Hid (E3 = 0 ∧ ∀ w, Calls Tryd.prog 12 #[.int .i64 x, .int .i64 y] w fun e w' => e = .returned (.int .i64 (N3 : Nat)) ∧ Below w.heap.size w w') := HO3.out (by have := HCB.out; cases h : (isN x && isN y); rw [h] at this; cases this; rfl)
            go_wp2_with fail
            refine (HQ.out.2 _).mono ?_
            rintro e wk ⟨rfl, hb⟩
            have BK : Hid (Below w.heap.size w wk) := BJ.out.trans (hb.mono BJ.out.size)
            clear hb
            go_wp2_with fail
            go_meet
            case rel => exact ⟨by rw [HQ.out.1], rfl, BK⟩
        case rest =>
          obtain ⟨wl, h⟩ : ∃ x, x = wc := ⟨_, rfl⟩
          subst h
          obtain ⟨rfl, rfl, BL⟩ := hcut
          clear BJ
          go_wp2_with fail
          refine (HC3.out _ (HT.out _ BL.out)).mono ?_
          rintro e wm ⟨rfl, hb⟩
          have BM : Hid (Below w.heap.size w wm) := BL.out.trans (hb.mono BL.out.size)
          clear hb BL
          go_wp2_with fail
          refine (err_same E3 _ (HG.out _ BM.out)).mono ?_
          rintro e wn ⟨rfl, hb⟩
          have BN : Hid (Below w.heap.size w wn) := BM.out.trans (hb.mono BM.out.size)
          clear hb BM
          go_wp2_with fail
          go_ret
          exact ⟨rfl, BN.out⟩
end Go.Proofs.YtddbbaaehgjhfadDoor
