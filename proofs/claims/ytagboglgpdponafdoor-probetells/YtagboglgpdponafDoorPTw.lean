/-
  ProbeTells: whom any node asks at any turn, a row of turns, and when it asks any, are the document's.
-/
import Derived.Test.YtagboglgpdponafDoorPTe
namespace Go.Proofs.YtagboglgpdponafDoor
set_option linter.unusedVariables false
set_option linter.unusedSimpArgs false
open Go.RowKit

set_option maxRecDepth 100000 in
set_option maxHeartbeats 16000000 in
theorem probeTells_w (me n turn many node : Int) (w : World) (hg : HasErr w) :
    Calls Tryd.prog 4 #[.int .i64 me, .int .i64 n, .int .i64 turn, .int .i64 many, .int .i64 node] w fun e w' => e = .returned (.bool true) ∧ Below w.heap.size w w' := by
  have HG : Hid (∀ w', Below w.heap.size w w' → HasErr w') := fun w' hb => hg.below hg.lt hb
  clear hg
  obtain ⟨E0, HE0⟩ : ∃ x, Hid (prE me n = x) := ⟨_, rfl⟩
  obtain ⟨F0, HF0⟩ : ∃ x, Hid (tgE me n turn = x) := ⟨_, rfl⟩
  obtain ⟨V0, HV0⟩ : ∃ x, Hid (tgV me n turn = x) := ⟨_, rfl⟩
  obtain ⟨G0, HG0⟩ : ∃ x, Hid (rwE me n turn many = x) := ⟨_, rfl⟩
  obtain ⟨L0, HL0⟩ : ∃ x, Hid (rwL me n turn many = x) := ⟨_, rfl⟩
  obtain ⟨H0, HH0⟩ : ∃ x, Hid (whE me n node = x) := ⟨_, rfl⟩
  obtain ⟨U0, HU0⟩ : ∃ x, Hid (whV me n node = x) := ⟨_, rfl⟩
  go_enter Tryd.func4, Tryd.ntmps4
  go_upto_region 2 with fail
  go_cut [37] (fun c wc => ∃ cb : Bool, c = .bool cb ∧ Hid (E0 = if cb = true then 1 else 0) ∧ Hid (Below w.heap.size w wc))
  case first =>
    by_cases h1 : n < 2
    · have HEq : Hid (E0 = 1) := by
        show E0 = 1
        rw [← HE0.out, prE, isOf_no (.inl h1)]
        rfl
      go_wp2_with fail
      go_meet
      case rel => exact ⟨true, rfl, HEq.out, Below.refl _ _⟩
    by_cases h2 : 6 < n
    · have HEq : Hid (E0 = 1) := by
        show E0 = 1
        rw [← HE0.out, prE, isOf_no (.inr (.inl h2))]
        rfl
      go_wp2_with fail
      go_meet
      case rel => exact ⟨true, rfl, HEq.out, Below.refl _ _⟩
    by_cases h3 : me < 0
    · have HEq : Hid (E0 = 1) := by
        show E0 = 1
        rw [← HE0.out, prE, isOf_no (.inr (.inr (.inl h3)))]
        rfl
      go_wp2_with fail
      go_meet
      case rel => exact ⟨true, rfl, HEq.out, Below.refl _ _⟩
    by_cases h4 : n ≤ me
    · have HEq : Hid (E0 = 1) := by
        show E0 = 1
        rw [← HE0.out, prE, isOf_no (.inr (.inr (.inr h4)))]
        rfl
      go_wp2_with fail
      go_meet
      case rel => exact ⟨true, rfl, HEq.out, Below.refl _ _⟩
    have HEq : Hid (E0 = 0) := by
      show E0 = 0
      rw [← HE0.out, prE, isOf_yes h1 h2 h3 h4]
      rfl
    go_wp2_with fail
    go_meet
    case rel => exact ⟨false, rfl, HEq.out, Below.refl _ _⟩
  case rest =>
  obtain ⟨w1, h⟩ : ∃ x, x = wc := ⟨_, rfl⟩
  subst h
  obtain ⟨cb, rfl, HCb, B1⟩ := hcut
  go_upto_if 37 with fail
  go_cut [11] (fun v11 wc => v11 = .int .i64 E0 ∧ Hid (Below w.heap.size w wc))
  case first =>
    cases cb
    · have HEq : Hid (E0 = 0) := HCb.out
      go_wp2_with fail
      go_meet
      case rel => exact ⟨by rw [HEq.out], B1⟩
    · have HEq : Hid (E0 = 1) := HCb.out
      go_wp2_with fail
      go_meet
      case rel => exact ⟨by rw [HEq.out], B1⟩
  case rest =>
  obtain ⟨w2, h⟩ : ∃ x, x = wc := ⟨_, rfl⟩
  subst h
  obtain ⟨rfl, B2⟩ := hcut
  clear HCb B1
  go_upto_region 5 with fail
  go_cut [44] (fun c wc => ∃ cb : Bool, c = .bool cb ∧ Hid (F0 = if cb = true then 1 else E0) ∧ Hid (Below w.heap.size w wc))
  case first =>
    by_cases h1 : turn < 0
    · have HEq : Hid (F0 = 1) := by
        show F0 = 1
        rw [← HF0.out, tgE_pr, in_no (.inl h1)]
        rfl
      go_wp2_with fail
      go_meet
      case rel => exact ⟨true, rfl, HEq.out, B2⟩
    by_cases h2 : 60 < turn
    · have HEq : Hid (F0 = 1) := by
        show F0 = 1
        rw [← HF0.out, tgE_pr, in_no (.inr h2)]
        rfl
      go_wp2_with fail
      go_meet
      case rel => exact ⟨true, rfl, HEq.out, B2⟩
    have HEq : Hid (F0 = E0) := by
      show F0 = E0
      rw [← HF0.out, tgE_pr, in_yes h1 h2, ← HE0.out]
      rfl
    go_wp2_with fail
    go_meet
    case rel => exact ⟨false, rfl, HEq.out, B2⟩
  case rest =>
  obtain ⟨w3, h⟩ : ∃ x, x = wc := ⟨_, rfl⟩
  subst h
  obtain ⟨cb, rfl, HCb, B3⟩ := hcut
  clear B2
  go_upto_if 44 with fail
  go_cut [12] (fun v12 wc => v12 = .int .i64 F0 ∧ Hid (Below w.heap.size w wc))
  case first =>
    cases cb
    · have HEq : Hid (F0 = E0) := HCb.out
      go_wp2_with fail
      go_meet
      case rel => exact ⟨by rw [HEq.out], B3⟩
    · have HEq : Hid (F0 = 1) := HCb.out
      go_wp2_with fail
      go_meet
      case rel => exact ⟨by rw [HEq.out], B3⟩
  case rest =>
  obtain ⟨w4, h⟩ : ∃ x, x = wc := ⟨_, rfl⟩
  subst h
  obtain ⟨rfl, B4⟩ := hcut
  clear HCb B3
  go_upto_if 46 with fail
  go_cut [13] (fun v13 wc => ∃ W0 : Int, v13 = .int .i64 W0 ∧ Hid (W0 = V0) ∧ Hid (Below w.heap.size w wc))
  case first =>
    by_cases h0 : F0 = 0
    · have h0b : (F0 == 0) = true := by simp [h0]
      have HC : Hid (∀ w, Calls Tryd.prog 12 #[.int .i64 me, .int .i64 n, .int .i64 turn] w fun e w' => e = .returned (.int .i64 V0) ∧ w' = w) := fun w => by
        obtain ⟨a, m, k, h1, h2, h3, hm, hn, hn6, hk, hv⟩ := tgE_zero (HF0.out.trans h0)
        rw [← HV0.out, hv, h1, h2, h3]
        exact rTarget_c a m k w hm hn hn6 (by omega)
      clear h0
      go_wp2_with fail
      refine (HC.out _).mono ?_
      rintro e w5 ⟨rfl, rfl⟩
      go_wp2_with fail
      go_meet
      case rel => exact ⟨V0, rfl, rfl, B4⟩
    · have h0b : (F0 == 0) = false := by simpa using h0
      have HEq : Hid (0 = V0) := by
        show 0 = V0
        rw [← HV0.out, tgE_not (by rw [HF0.out]; exact h0)]
      clear h0
      go_wp2_with fail
      go_meet
      case rel => exact ⟨0, rfl, HEq, B4⟩
  case rest =>
  obtain ⟨w5, h⟩ : ∃ x, x = wc := ⟨_, rfl⟩
  subst h
  obtain ⟨W0, rfl, HW0, B5⟩ := hcut
  clear B4
  have hwv : (V0 == W0) = true := by simp [HW0.out]
  go_wp2_with fail
  refine (target_e me n turn F0 V0 _ HF0.out HV0.out).mono ?_
  rintro e w6 ⟨rfl, rfl⟩
  go_wp2_with fail
  refine (err_same F0 _ (HG.out _ B5.out)).mono ?_
  rintro e w7 ⟨rfl, hb⟩
  have B7 : Hid (Below w.heap.size w w7) := B5.out.trans (hb.mono B5.out.size)
  clear hb B5
  go_upto_region 12 with fail
  go_cut [71] (fun c wc => ∃ cb : Bool, c = .bool cb ∧ Hid (G0 = if cb = true then 1 else F0) ∧ Hid (Below w.heap.size w wc))
  case first =>
    by_cases h1 : many < 0
    · have HEq : Hid (G0 = 1) := by
        show G0 = 1
        rw [← HG0.out, rwE_tg, in_no (.inl h1)]
        rfl
      go_wp2_with fail
      go_meet
      case rel => exact ⟨true, rfl, HEq.out, B7⟩
    by_cases h2 : 60 < many
    · have HEq : Hid (G0 = 1) := by
        show G0 = 1
        rw [← HG0.out, rwE_tg, in_no (.inr h2)]
        rfl
      go_wp2_with fail
      go_meet
      case rel => exact ⟨true, rfl, HEq.out, B7⟩
    have HEq : Hid (G0 = F0) := by
      show G0 = F0
      rw [← HG0.out, rwE_tg, in_yes h1 h2, ← HF0.out]
      rfl
    go_wp2_with fail
    go_meet
    case rel => exact ⟨false, rfl, HEq.out, B7⟩
  case rest =>
  obtain ⟨w8, h⟩ : ∃ x, x = wc := ⟨_, rfl⟩
  subst h
  obtain ⟨cb, rfl, HCb, B8⟩ := hcut
  clear B7 hwv HW0
  go_upto_if 71 with fail
  go_cut [12] (fun v12 wc => v12 = .int .i64 G0 ∧ Hid (Below w.heap.size w wc))
  case first =>
    cases cb
    · have HEq : Hid (G0 = F0) := HCb.out
      go_wp2_with fail
      go_meet
      case rel => exact ⟨by rw [HEq.out], B8⟩
    · have HEq : Hid (G0 = 1) := HCb.out
      go_wp2_with fail
      go_meet
      case rel => exact ⟨by rw [HEq.out], B8⟩
  case rest =>
  obtain ⟨w9, h⟩ : ∃ x, x = wc := ⟨_, rfl⟩
  subst h
  obtain ⟨rfl, B9⟩ := hcut
  clear HCb B8
  go_upto_block 0 with fail
  go_cut [17, 18] (fun v17 v18 wc => ∃ V : Value, v17 = V ∧ Hid (IntsIs wc V L0) ∧ Hid (Below w.heap.size w wc))
  case first =>
    by_cases h0 : G0 = 0
    · obtain ⟨a, m, u, q, h1, h2, h3, h4, hm, hn, hn6, hu, hq, hl⟩ := rwE_zero (HG0.out.trans h0)
      have h0b : (G0 == 0) = true := by simp [h0]
      have HLq : Hid (L0 = rowZ a m u q) := HL0.out.symm.trans hl
      have HC : Hid (∀ (j : Nat) w, j ≤ 60 → Calls Tryd.prog 12 #[.int .i64 (a : Nat), .int .i64 (m : Nat), .int .i64 ((u : Int) + (j : Int))] w fun e w' => e = .returned (.int .i64 (tgN a m (u + j) : Nat)) ∧ w' = w) := fun j w hj => rTarget_c a m (u + j) w hm hn hn6 (by omega)
      clear h0 hl HE0 HF0 HV0 HG0 HL0 HH0 HU0
      subst h1 h2 h3 h4
      go_wp2_with fail
      go_loopw [17, 18] (fun s17 s18 wr => ∃ (j : Nat) (v17 : Value), s17 = v17 ∧ j ≤ q ∧ s18 = .int .i64 j ∧ Hid (OwnI w.heap.size wr v17 (rowZ a m u j)) ∧ Hid (Below w.heap.size w wr)) (fun _ s18 _ => q - (intOf s18).toNat)
      case atStart => exact ⟨0, .slice none 0 0, rfl, Nat.zero_le _, rfl, OwnI.nil _ _, B9⟩
      case round =>
        obtain ⟨j, v17, hs17, hj, rfl, HO, HB⟩ := hrel
        have hs17' := hs17.symm
        clear hs17
        subst hs17'
        by_cases hlt : j < q
        · have hlti : (j : Int) < (q : Int) := by omega
          have hltd : decide ((j : Int) < (q : Int)) = true := by simp; omega
          have HCj : Hid (∀ w, Calls Tryd.prog 12 #[.int .i64 (a : Nat), .int .i64 (m : Nat), .int .i64 ((u : Int) + (j : Int))] w fun e w' => e = .returned (.int .i64 (tgN a m (u + j) : Nat)) ∧ w' = w) := fun w => HC.out j w (by omega)
          have HN : Hid (rowZ a m u (j + 1) = rowZ a m u j ++ [((tgN a m (u + j) : Nat) : Int)]) := rowZ_succ a m u j
          have HLn : Hid ((rowZ a m u j).length ≤ 100) := by
            show (rowZ a m u j).length ≤ 100
            rw [rowZ_len]
            omega
          obtain ⟨x, HX⟩ : ∃ x, Hid (tgN a m (u + j) = x) := ⟨_, rfl⟩
          obtain ⟨xs, HXs⟩ : ∃ xs, Hid (rowZ a m u j = xs) := ⟨_, rfl⟩
          rw [HX.out] at HCj HN
          rw [HXs.out] at HN HLn HO
          have hws := HB.out.size
          have HOa : Hid ((wr.alloc (.cells #[.int .i64 (x : Int)] 3)).ownsRow w.heap.size 3 1 v17 xs.length (intC xs)) := World.ownsRow.alloc HO.out _
          have HVa : Hid ((wr.alloc (.cells #[.int .i64 (x : Int)] 3)).heap[wr.heap.size]? = some (.cells #[.int .i64 (x : Int)] 3 (0, 0))) := alloc_at _ _ _ rfl
          have HSa : Hid (w.heap.size ≤ (wr.alloc (.cells #[.int .i64 (x : Int)] 3)).heap.size) := show _ ≤ _ from (by simp; omega)
          have HBa : Hid (Below w.heap.size w (wr.alloc (.cells #[.int .i64 (x : Int)] 3))) := HB.out.alloc hws _
          go_wp2_with fail
          refine (HCj.out _).mono ?_
          rintro e w10 ⟨rfl, rfl⟩
          go_wp2_with (at_builtin; refine wp_appI _ rfl _ _ rfl w.heap.size _ xs (x : Int) rfl HOa.out _ rfl HVa.out HLn.out HSa.out ?_)
          intro va wa hown hgrow
          have HOp : Hid (OwnI w.heap.size wa va (rowZ a m u (j + 1))) := by rw [HN.out]; exact hown
          have HBp : Hid (Below w.heap.size w wa) := below_grownF (HBa.out) (Nat.le_refl _) hgrow.out (fun c hc => ownsRow_fromF HO.out c hc)
          clear hown hgrow HOa HVa HSa
          go_wp2_with fail
          go_roundw
          case rel => exact ⟨j + 1, va, rfl, by omega, by go_num, HOp, HBp⟩
          case measure => simp [intOf]; omega
        · obtain rfl : j = q := by omega
          have hltd : decide ((j : Int) < (j : Int)) = false := by simp
          have HI : Hid (IntsIs wr v17 L0) := by rw [HLq.out]; exact HO.out.ints
          go_wp2_with fail
          go_meet
          case rel => exact ⟨v17, rfl, HI, HB⟩
    · have h0b : (G0 == 0) = false := by simpa using h0
      have HLq : Hid (L0 = []) := by
        show L0 = []
        rw [← HL0.out, rwE_not (by rw [HG0.out]; exact h0)]
      clear h0
      have HI : Hid (IntsIs w9 (.slice none 0 0) L0) := by rw [HLq.out]; exact IntsIs.nil _
      by_cases hz : 0 < many
      · go_wp2_with fail
        refine wp_loop_rounds 1 ?_
        rw [rounds_succ]
        go_wp2_with fail
        go_meet
        case rel => exact ⟨_, rfl, HI, B9⟩
      · go_wp2_with fail
        refine wp_loop_rounds 1 ?_
        rw [rounds_succ]
        go_wp2_with fail
        go_meet
        case rel => exact ⟨_, rfl, HI, B9⟩
  case rest =>
  obtain ⟨w10, h⟩ : ∃ x, x = wc := ⟨_, rfl⟩
  subst h
  obtain ⟨V17, hV, I10, B10⟩ := hcut
  have hV' := hV.symm
  clear hV
  subst hV'
  clear B9
  go_wp2_with fail
  refine (row_e me n turn many G0 L0 _ HG0.out HL0.out).mono ?_
  rintro e w11 ⟨v11, rfl, hi, hb⟩
  have I11 : Hid (IntsIs w11 v11 L0) := hi
  have J11 : Hid (IntsIs w11 V17 L0) := I10.out.below hb
  have B11 : Hid (Below w.heap.size w w11) := B10.out.trans (hb.mono B10.out.size)
  clear hb hi I10 B10
  go_wp2_with fail
  refine (err_same G0 _ (HG.out _ B11.out)).mono ?_
  rintro e w12 ⟨rfl, hb⟩
  have I12 : Hid (IntsIs w12 v11 L0) := I11.out.below hb
  have J12 : Hid (IntsIs w12 V17 L0) := J11.out.below hb
  have B12 : Hid (Below w.heap.size w w12) := B11.out.trans (hb.mono B11.out.size)
  clear hb I11 J11 B11
  go_wp2_with fail
  refine (ints_same _ I12.out J12.out).mono ?_
  rintro e w13 ⟨rfl, hb⟩
  have B13 : Hid (Below w.heap.size w w13) := B12.out.trans (hb.mono B12.out.size)
  clear hb I12 J12 B12
  go_upto_region 22 with fail
  go_cut [117] (fun c wc => ∃ cb : Bool, c = .bool cb ∧ Hid (cb = ((E0 == 0) && (decide (node < 0) || decide (n ≤ node)))) ∧ Hid (Below w.heap.size w wc))
  case first =>
    by_cases he : E0 = 0
    · have heb : (E0 == 0) = true := by simp [he]
      clear he
      by_cases h1 : node < 0
      · have h1d : decide (node < 0) = true := by simpa using h1
        go_wp2_with fail
        go_meet
        case rel => exact ⟨_, rfl, (by show _ = _; rw [heb, h1d]; simp), B13⟩
      · have h1d : decide (node < 0) = false := by simpa using h1
        go_wp2_with fail
        go_meet
        case rel => exact ⟨_, rfl, (by show _ = _; rw [heb, h1d]; simp), B13⟩
    · have heb : (E0 == 0) = false := by simpa using he
      clear he
      go_wp2_with fail
      go_meet
      case rel => exact ⟨_, rfl, (by show _ = _; rw [heb]; simp), B13⟩
  case rest =>
  obtain ⟨w14, h⟩ : ∃ x, x = wc := ⟨_, rfl⟩
  subst h
  obtain ⟨cb, rfl, HCb, B14⟩ := hcut
  clear B13
  go_upto_if 117 with fail
  go_cut [11] (fun v11 wc => v11 = .int .i64 H0 ∧ Hid (Below w.heap.size w wc))
  case first =>
    by_cases he : E0 = 0
    · have heb : (E0 == 0) = true := by simp [he]
      have hof := prE_zero (HE0.out.trans he)
      have HE : Hid (E0 = 0) := he
      clear he
      have hcb : cb = (decide (node < 0) || decide (n ≤ node)) := by
        have := HCb.out
        rw [heb, Bool.true_and] at this
        exact this
      cases cb
      · have hno : isOfB node n = true := by
          have h := (isOf_iff _ _).1 hof
          have h2 : ¬ node < 0 ∧ ¬ n ≤ node := by simpa using hcb.symm
          exact isOf_yes (by omega) (by omega) h2.1 h2.2
        by_cases hne : node = me
        · have hneb : (node == me) = true := by simp [hne]
          have HEq : Hid (H0 = 5) := by
            show H0 = 5
            rw [← HH0.out, whE, if_pos hof, if_pos hno, if_pos hne]
          clear hne hof hno hcb
          go_wp2_with fail
          go_meet
          case rel => exact ⟨by rw [HEq.out], B14⟩
        · have hneb : (node == me) = false := by simpa using hne
          have HEq : Hid (H0 = 0) := by
            show H0 = 0
            rw [← HH0.out, whE, if_pos hof, if_pos hno, if_neg hne]
          clear hne hof hno hcb
          go_wp2_with fail
          go_meet
          case rel => exact ⟨by rw [HEq.out, HE.out], B14⟩
      · have hno : isOfB node n = false := by
          have h2 : node < 0 ∨ n ≤ node := by simpa using hcb.symm
          exact isOf_no (by omega)
        have HEq : Hid (H0 = 1) := by
          show H0 = 1
          rw [← HH0.out, whE, if_pos hof, if_neg (by rw [hno]; simp)]
        clear hof hno hcb
        go_wp2_with fail
        go_meet
        case rel => exact ⟨by rw [HEq.out], B14⟩
    · have heb : (E0 == 0) = false := by simpa using he
      have h1 := prE_not (me := me) (n := n) (by rw [HE0.out]; exact he)
      have HEq : Hid (H0 = E0) := by
        show H0 = E0
        rw [← HH0.out, h1.2 node, ← HE0.out, h1.1]
      obtain rfl : cb = false := by
        have := HCb.out
        rw [heb, Bool.false_and] at this
        exact this
      clear he h1
      go_wp2_with fail
      go_meet
      case rel => exact ⟨by rw [HEq.out], B14⟩
  case rest =>
  obtain ⟨w15, h⟩ : ∃ x, x = wc := ⟨_, rfl⟩
  subst h
  obtain ⟨rfl, B15⟩ := hcut
  clear B14 HCb
  go_upto_block 2 with fail
  go_cut [13] (fun v13 wc => ∃ W1 : Int, v13 = .int .i64 W1 ∧ Hid (W1 = U0) ∧ Hid (Below w.heap.size w wc))
  case first =>
    by_cases h0 : H0 = 0
    · obtain ⟨a, m, c, h1, h2, h3, hm, hn, hn6, hc, hca, hv⟩ := whE_zero (HH0.out.trans h0)
      have h0b : (H0 == 0) = true := by simp [h0]
      have HUq : Hid (U0 = ((whR a m c : Nat) : Int)) := HU0.out.symm.trans hv
      have hr := whR_lt hm hc hca
      have HHit : Hid (tgN a m (whR a m c) = c) := tgN_wh hm hc hca
      have HMiss : Hid (∀ t, t < whR a m c → tgN a m t ≠ c) := fun t ht => tgN_early hm hc hca ht
      have HC : Hid (∀ (j : Nat) w, j ≤ 60 → Calls Tryd.prog 12 #[.int .i64 (a : Nat), .int .i64 (m : Nat), .int .i64 (j : Int)] w fun e w' => e = .returned (.int .i64 (tgN a m j : Nat)) ∧ w' = w) := fun j w hj => rTarget_c a m j w hm hn hn6 (by omega)
      clear h0 hv HE0 HF0 HV0 HG0 HL0 HH0 HU0
      subst h1 h2 h3
      generalize whR a m c = r at hr HHit HMiss HUq
      clear hca
      go_wp2_with fail
      go_loopw [13] (fun s13 wr => ∃ (j : Nat), j ≤ r ∧ s13 = .int .i64 j ∧ Hid (Below w.heap.size w wr)) (fun s13 _ => r - (intOf s13).toNat)
      case atStart => exact ⟨0, Nat.zero_le _, rfl, B15⟩
      case round =>
        obtain ⟨j, hj, rfl, HB⟩ := hrel
        have HCj : Hid (∀ w, Calls Tryd.prog 12 #[.int .i64 (a : Nat), .int .i64 (m : Nat), .int .i64 (j : Int)] w fun e w' => e = .returned (.int .i64 (tgN a m j : Nat)) ∧ w' = w) := fun w => HC.out j w (by omega)
        obtain ⟨b, HTb⟩ : ∃ b, Hid (tgN a m j = b) := ⟨_, rfl⟩
        rw [HTb.out] at HCj
        by_cases hlt : j < r
        · have hneb : ((b : Int) != (c : Int)) = true := by
            have := HMiss.out j hlt
            rw [HTb.out] at this
            simp
            omega
          go_wp2_with fail
          refine (HCj.out _).mono ?_
          rintro e w16 ⟨rfl, rfl⟩
          go_wp2_with fail
          go_roundw
          case rel => exact ⟨j + 1, by omega, by go_num, HB⟩
          case measure => simp [intOf]; omega
        · obtain rfl : j = r := by omega
          have hneb : ((b : Int) != (c : Int)) = false := by
            have := HHit.out
            rw [HTb.out] at this
            simp [this]
          have HEq : Hid ((j : Int) = U0) := HUq.out.symm
          go_wp2_with fail
          refine (HCj.out _).mono ?_
          rintro e w16 ⟨rfl, rfl⟩
          go_wp2_with fail
          go_meet
          case rel => exact ⟨_, rfl, HEq, HB⟩
    · have h0b : (H0 == 0) = false := by simpa using h0
      have HEq : Hid ((0 : Int) = U0) := by
        show 0 = U0
        rw [← HU0.out, whE_not (by rw [HH0.out]; exact h0)]
      clear h0
      go_wp2_with fail
      refine wp_loop_rounds 1 ?_
      rw [rounds_succ]
      go_wp2_with fail
      go_meet
      case rel => exact ⟨0, rfl, HEq, B15⟩
  case rest =>
  obtain ⟨w16, h⟩ : ∃ x, x = wc := ⟨_, rfl⟩
  subst h
  obtain ⟨W1, rfl, HW1, B16⟩ := hcut
  clear B15
  have hwu : (U0 == W1) = true := by simp [HW1.out]
  go_wp2_with fail
  refine (when_e me n node H0 U0 _ HH0.out HU0.out).mono ?_
  rintro e w17 ⟨rfl, rfl⟩
  go_wp2_with fail
  refine (err_same H0 _ (HG.out _ B16.out)).mono ?_
  rintro e w18 ⟨rfl, hb⟩
  have B18 : Hid (Below w.heap.size w w18) := B16.out.trans (hb.mono B16.out.size)
  clear hb
  go_wp2_with fail
  go_ret
  exact ⟨rfl, B18.out⟩
end Go.Proofs.YtagboglgpdponafDoor
