/-
  The walk of merelaw2.SwapTells.
-/
import Derived.Test.YtippdgmgmenboagDoorMj
import Derived.Deep.CutBlock
namespace Go.Proofs.YtippdgmgmenboagDoor
set_option linter.unusedVariables false
set_option linter.unusedSimpArgs false
set_option linter.unusedVariables false
set_option linter.unusedSimpArgs false
open Go.RowKit

set_option maxHeartbeats 16000000 in
set_option maxRecDepth 100000 in
theorem swapTells_w (va vb vk : Value) (a b : List En) (K : List Int) (w : World) (hra : RowIs w va a) (hrb : RowIs w vb b) (hk : IntsIs w vk K) (hcap : CapOk vk K.length) (hT : Lib.TabIs Tryd.prog w powName .u64 Lib.pow10Tab) (hg : HasErr w) :
    Calls Tryd.prog 3 #[va, vb, vk] w fun e w' => e = .returned (.bool true) ∧ Below w.heap.size w w' := by
  have HT : Hid (Lib.TabBelow Tryd.prog w.heap.size w powName .u64 Lib.pow10Tab) := Lib.tabBelow_of_tabIs hT
  have HG : Hid (∀ w', Below w.heap.size w w' → HasErr w') := fun w' hb => hg.below hg.lt hb
  have HRa : Hid (RowIs w va a) := hra
  have HK : Hid (IntsIs w vk K) := hk
  clear hT hg
  obtain ⟨K1, N1, c1, p1, p2⟩ := lacks_e va vb a b w hra hrb HT.out
  obtain ⟨X, Y, E2, c2, q1, q2⟩ := pair_e va vb a b w hra hrb HT.out
  have c3 : ∀ w', Below w.heap.size w w' → Calls Tryd.prog 6 #[va, vb] w' fun e w'' => e = .returned (.int .i64 (bad2 (badL a) (badL b))) ∧ Below w'.heap.size w' w'' := fun w' hb => rTwo_c va vb a b w' (hra.below hb) (hrb.below hb)
  obtain ⟨G, E3, c4, r1, r2, r3⟩ := give_e va vk a K w hra hk hcap
  obtain ⟨E1, HE1⟩ : ∃ E1, Hid (bad2 (badL a) (badL b) = E1) := ⟨_, rfl⟩
  rw [HE1.out] at c1 p1 p2 q1 q2 c3
  have HC1 : Hid (∀ w', Below w.heap.size w w' → Calls Tryd.prog 8 #[va, vb] w' fun e w'' => ∃ v', e = .returned (.tuple #[v', eV E1]) ∧ IntsIs w'' v' K1 ∧ Below w'.heap.size w' w'') := c1
  have HP1 : Hid (E1 ≠ 0 → K1 = []) := p1
  have HP2 : Hid (E1 = 0 → ∀ w', Below w.heap.size w w' → Calls Tryd.prog 7 #[va, vb, .int .i64 1] w' fun e w'' => ∃ v', e = .returned (.tuple #[v', .int .i64 (N1 : Nat)]) ∧ IntsIs w'' v' K1 ∧ Below w'.heap.size w' w'') := p2
  have HC2 : Hid (∀ w', Below w.heap.size w w' → Calls Tryd.prog 12 #[va, vb] w' fun e w'' => ∃ v1 v2, e = .returned (.tuple #[v1, v2, eV E2]) ∧ RowIs w'' v1 X ∧ RowIs w'' v2 Y ∧ Below w'.heap.size w' w'') := c2
  have HQ1 : Hid (E1 ≠ 0 → X = [] ∧ Y = [] ∧ E2 = E1) := q1
  have HQ2 : Hid (E1 = 0 → ∀ w', Below w.heap.size w w' → Calls Tryd.prog 11 #[va, vb] w' fun e w'' => ∃ v1 v2, e = .returned (.tuple #[v1, v2, .int .i64 E2]) ∧ RowIs w'' v1 X ∧ RowIs w'' v2 Y ∧ Below w'.heap.size w' w'') := q2
  have HC3 : Hid (∀ w', Below w.heap.size w w' → Calls Tryd.prog 6 #[va, vb] w' fun e w'' => e = .returned (.int .i64 E1) ∧ Below w'.heap.size w' w'') := c3
  have HC4 : Hid (∀ w', Below w.heap.size w w' → Calls Tryd.prog 18 #[va, vk] w' fun e w'' => ∃ v', e = .returned (.tuple #[v', eV E3]) ∧ RowIs w'' v' G ∧ Below w'.heap.size w' w'') := c4
  have HR1 : Hid (E3 = fromF (headF (badL a) K.length) K 0) := r1
  have HR2 : Hid (E3 ≠ 0 → G = []) := r2
  have HR3 : Hid (E3 = 0 → ∀ w', Below w.heap.size w w' → Calls Tryd.prog 17 #[va, vk] w' fun e w'' => ∃ v', e = .returned v' ∧ RowIs w'' v' G ∧ Below w'.heap.size w' w'') := r3
  obtain ⟨n, HNa⟩ : ∃ n, Hid (badL a = n) := ⟨_, rfl⟩
  rw [HNa.out] at HR1
  obtain ⟨p, cap, hv, hc1, hc2⟩ := hcap
  subst hv
  have HRow : Hid (K ≠ [] → ∃ bb o, p = some ⟨bb, o, none⟩ ∧ bb < w.heap.size ∧ ∀ j (h : j < K.length), w.cell? ⟨bb, o + j, none⟩ = some (.int .i64 K[j])) := by
    obtain ⟨_, q, c, e, hrow⟩ := hk
    injection e with e1 e2 e3
    subst e1
    exact hrow
  obtain ⟨m, HM⟩ : ∃ m, Hid (K.length = m) := ⟨_, rfl⟩
  have hc63 : cap ≤ 9223372036854775807 := hc2
  rw [HM.out] at hc1 HR1 HC4 HR3 HK ⊢
  have hm63 : m ≤ 9223372036854775807 := by omega
  clear c1 c2 c3 c4 p1 p2 q1 q2 r1 r2 r3 HE1 HT hra hrb hk hc2
  go_enter Tryd.func3, Tryd.ntmps3
  go_wp2_with fail
  refine (HC3.out _ (Below.refl _ _)).mono ?_
  rintro e w1 ⟨rfl, hb⟩
  have B1 : Hid (Below w.heap.size w w1) := hb
  clear hb HC3
  go_upto_if 26 with fail
  go_cut [8] (fun v8 wc => ∃ V, v8 = V ∧ Hid (IntsIs wc V K1) ∧ Hid (Below w.heap.size w wc))
  case first =>
    by_cases h0 : E1 = 0
    · have h0b : (E1 == 0) = true := by simp [h0]
      have HO : Hid (∀ w', Below w.heap.size w w' → Calls Tryd.prog 7 #[va, vb, .int .i64 1] w' fun e w'' => ∃ v', e = .returned (.tuple #[v', .int .i64 (N1 : Nat)]) ∧ IntsIs w'' v' K1 ∧ Below w'.heap.size w' w'') := HP2.out h0
      clear h0
      go_wp2_with fail
      refine (HO.out _ B1.out).mono ?_
      rintro e w4 ⟨V, rfl, hi, hb⟩
      have B4 : Hid (Below w.heap.size w w4) := B1.out.trans (hb.mono B1.out.size)
      have I4 : Hid (IntsIs w4 V K1) := hi
      clear hb hi
      go_wp2_with fail
      go_meet
      case rel => exact ⟨V, rfl, I4, B4⟩
    · have h0b : (E1 == 0) = false := by simp [h0]
      have HZ : Hid (K1 = []) := HP1.out h0
      clear h0
      go_wp2_with fail
      go_meet
      case rel => exact ⟨.slice none 0 0, rfl, (by rw [HZ.out]; exact IntsIs.nil _), B1⟩
  case rest =>
  obtain ⟨wa, h⟩ : ∃ x, x = wc := ⟨_, rfl⟩
  subst h
  obtain ⟨V8, hV, IA, BA⟩ := hcut
  have hV' := hV.symm
  clear hV
  subst hV'
  clear B1 HP1 HP2
  go_wp2_with fail
  refine (HC1.out _ BA.out).mono ?_
  rintro e w2 ⟨U, rfl, hi, hb⟩
  have B2 : Hid (Below w.heap.size w w2) := BA.out.trans (hb.mono BA.out.size)
  have I2 : Hid (IntsIs w2 U K1) := hi
  have J2 : Hid (IntsIs w2 V8 K1) := IA.out.below hb
  clear hb hi BA IA HC1
  go_wp2_with fail
  refine (err_same E1 _ (HG.out _ B2.out)).mono ?_
  rintro e w3 ⟨rfl, hb⟩
  have B3 : Hid (Below w.heap.size w w3) := B2.out.trans (hb.mono B2.out.size)
  have I3 : Hid (IntsIs w3 U K1) := I2.out.below hb
  have J3 : Hid (IntsIs w3 V8 K1) := J2.out.below hb
  clear hb B2 I2 J2
  go_wp2_with fail
  refine (ints_same K1 _ _ _ I3.out J3.out).mono ?_
  rintro e w4 ⟨rfl, hb⟩
  have B4 : Hid (Below w.heap.size w w4) := B3.out.trans (hb.mono B3.out.size)
  clear hb B3 I3 J3
  go_upto_if 48 with fail
  go_cut [7, 12, 13] (fun v7 v12 v13 wc => ∃ V2 V3, v7 = .int .i64 E2 ∧ v12 = V2 ∧ v13 = V3 ∧ Hid (RowIs wc V2 X) ∧ Hid (RowIs wc V3 Y) ∧ Hid (Below w.heap.size w wc))
  case first =>
    by_cases h0 : E1 = 0
    · have h0b : (E1 == 0) = true := by simp [h0]
      have HO : Hid (∀ w', Below w.heap.size w w' → Calls Tryd.prog 11 #[va, vb] w' fun e w'' => ∃ v1 v2, e = .returned (.tuple #[v1, v2, .int .i64 E2]) ∧ RowIs w'' v1 X ∧ RowIs w'' v2 Y ∧ Below w'.heap.size w' w'') := HQ2.out h0
      clear h0
      go_wp2_with fail
      refine (HO.out _ B4.out).mono ?_
      rintro e w5 ⟨V2, V3, rfl, hx, hy, hb⟩
      have B5 : Hid (Below w.heap.size w w5) := B4.out.trans (hb.mono B4.out.size)
      have X5 : Hid (RowIs w5 V2 X) := hx
      have Y5 : Hid (RowIs w5 V3 Y) := hy
      clear hb hx hy
      go_wp2_with fail
      go_meet
      case rel => exact ⟨V2, V3, rfl, rfl, rfl, X5, Y5, B5⟩
    · have h0b : (E1 == 0) = false := by simp [h0]
      have HZ : Hid (X = [] ∧ Y = [] ∧ E2 = E1) := HQ1.out h0
      clear h0
      go_wp2_with fail
      go_meet
      case rel => exact ⟨.slice none 0 0, .slice none 0 0, by rw [HZ.out.2.2], rfl, rfl, (by rw [HZ.out.1]; exact RowIs.nil _), (by rw [HZ.out.2.1]; exact RowIs.nil _), B4⟩
  case rest =>
  obtain ⟨wd, h⟩ : ∃ x, x = wc := ⟨_, rfl⟩
  subst h
  obtain ⟨V2, V3, rfl, hV2, hV3, XD, YD, BD⟩ := hcut
  have hV2' := hV2.symm
  have hV3' := hV3.symm
  clear hV2 hV3
  subst hV2' hV3'
  clear B4 HQ1 HQ2
  go_wp2_with fail
  refine (HC2.out _ BD.out).mono ?_
  rintro e w5 ⟨U2, U3, rfl, hx, hy, hb⟩
  have B5 : Hid (Below w.heap.size w w5) := BD.out.trans (hb.mono BD.out.size)
  have X5 : Hid (RowIs w5 U2 X) := hx
  have Y5 : Hid (RowIs w5 U3 Y) := hy
  have P5 : Hid (RowIs w5 V2 X) := XD.out.below hb
  have Q5 : Hid (RowIs w5 V3 Y) := YD.out.below hb
  clear hb hx hy BD XD YD HC2
  go_wp2_with fail
  refine (err_same E2 _ (HG.out _ B5.out)).mono ?_
  rintro e w6 ⟨rfl, hb⟩
  have B6 : Hid (Below w.heap.size w w6) := B5.out.trans (hb.mono B5.out.size)
  have X6 : Hid (RowIs w6 U2 X) := X5.out.below hb
  have Y6 : Hid (RowIs w6 U3 Y) := Y5.out.below hb
  have P6 : Hid (RowIs w6 V2 X) := P5.out.below hb
  have Q6 : Hid (RowIs w6 V3 Y) := Q5.out.below hb
  clear hb B5 X5 Y5 P5 Q5
  go_wp2_with fail
  refine (sameS_true _ _ _ X6.out P6.out).mono ?_
  rintro e w7 ⟨rfl, hb⟩
  have B7 : Hid (Below w.heap.size w w7) := B6.out.trans (hb.mono B6.out.size)
  have Y7 : Hid (RowIs w7 U3 Y) := Y6.out.below hb
  have Q7 : Hid (RowIs w7 V3 Y) := Q6.out.below hb
  clear hb B6 X6 Y6 P6 Q6
  go_wp2_with fail
  refine (sameS_true _ _ _ Y7.out Q7.out).mono ?_
  rintro e w8 ⟨rfl, hb⟩
  have B8 : Hid (Below w.heap.size w w8) := B7.out.trans (hb.mono B7.out.size)
  clear hb B7 Y7 Q7
  go_wp2_with fail
  refine (rCache_o (HRa.out.below B8.out) HNa.out).mono ?_
  rintro e w9 ⟨rfl, hb⟩
  have B9 : Hid (Below w.heap.size w w9) := B8.out.trans (hb.mono B8.out.size)
  clear hb B8
  go_upto_region 13 with fail
  obtain ⟨F, HF⟩ : ∃ F, Hid (headF n m = F) := ⟨_, rfl⟩
  rw [HF.out] at HR1
  go_cut [84] (fun v84 wc => ∃ cb : Bool, v84 = .bool cb ∧ Hid ((cb = true ∧ F = 4) ∨ (cb = false ∧ F = n)) ∧ Hid (Below w.heap.size w wc))
  case first =>
    by_cases h0 : n = 0
    · have h0b : (n == 0) = true := by simp [h0]
      by_cases h8 : 8 < m
      · have h8d : decide ((8 : Int) < (m : Int)) = true := by simp; omega
        have h8i : (8 : Int) < (m : Int) := by omega
        have HFv : Hid (F = 4) := HF.out.symm.trans (headF_full h0 h8)
        clear h0
        go_wp2_with fail
        go_meet
        case rel => exact ⟨true, rfl, .inl ⟨rfl, HFv.out⟩, B9⟩
      · have h8d : decide ((8 : Int) < (m : Int)) = false := by simp; omega
        have h8i : ¬ (8 : Int) < (m : Int) := by omega
        have HFv : Hid (F = n) := HF.out.symm.trans (headF_few h8)
        clear h0
        go_wp2_with fail
        go_meet
        case rel => exact ⟨false, rfl, .inr ⟨rfl, HFv.out⟩, B9⟩
    · have h0b : (n == 0) = false := by simp [h0]
      have HFv : Hid (F = n) := HF.out.symm.trans (headF_bad h0)
      clear h0
      go_wp2_with fail
      go_meet
      case rel => exact ⟨false, rfl, .inr ⟨rfl, HFv.out⟩, B9⟩
  case rest =>
  obtain ⟨we, h⟩ : ∃ x, x = wc := ⟨_, rfl⟩
  subst h
  obtain ⟨cb, rfl, HCb, BE⟩ := hcut
  clear B9 HF
  go_upto_if 84 with fail
  go_cut [7] (fun v7 wc => v7 = .int .i64 F ∧ Hid (Below w.heap.size w wc))
  case first =>
    cases cb with
    | true =>
      have HFv : Hid (F = 4) := by
        rcases HCb.out with h | h
        · exact h.2
        · cases h.1
      go_wp2_with fail
      go_meet
      case rel => exact ⟨by rw [HFv.out], BE⟩
    | false =>
      have HFv : Hid (F = n) := by
        rcases HCb.out with h | h
        · cases h.1
        · exact h.2
      go_wp2_with fail
      go_meet
      case rel => exact ⟨by rw [HFv.out], BE⟩
  case rest =>
  obtain ⟨wf, h⟩ : ∃ x, x = wc := ⟨_, rfl⟩
  subst h
  obtain ⟨rfl, BF⟩ := hcut
  clear BE HCb HNa
  go_upto_block 0 with fail
  go_cut [7, 17] (fun v7 v17 wc => v7 = .int .i64 E3 ∧ Hid (Below w.heap.size w wc))
  case first =>
    go_wp2_with fail
    go_loopw [7, 17] (fun s7 s17 wr => ∃ (j : Nat) (f : Int), s7 = .int .i64 f ∧ j ≤ m ∧ s17 = .int .i64 j ∧ Hid (E3 = fromF f K j) ∧ Hid (Below w.heap.size w wr)) (fun _ i _ => m - (intOf i).toNat)
    case atStart => exact ⟨0, F, rfl, Nat.zero_le _, rfl, HR1, BF⟩
    case round =>
      obtain ⟨j, f, rfl, hj, rfl, HE, HB⟩ := hrel
      by_cases hlt : j < m
      · have hjl : j < K.length := by rw [HM.out]; exact hlt
        have hlti : (j : Int) < (m : Int) := by omega
        have hltd : decide ((j : Int) < (m : Int)) = true := by simpa using hlti
        by_cases hf : f = 0
        · subst hf
          obtain ⟨ba, oa, rfl, hbw, hat⟩ := HRow.out (fun h => by simp [h] at hjl)
          have c0 : wr.cell? ⟨ba, oa + j, none⟩ = some (.int .i64 K[j]) := (World.cell?_of_block (a := ⟨ba, oa + j, none⟩) (HB.out.block ba hbw)).trans (hat j hjl)
          clear hat
          have HE0 : Hid (E3 = badKF (K.take j) (K.drop j)) := HE.out.trans fromF_on
          have HI : Hid (IntsIs wr (.slice (some ⟨ba, oa, none⟩) K.length cap) K) := by
            rw [HM.out]
            exact HK.out.below HB.out
          have H1 : Hid (isKeyB K[j] = false → E3 = fromF 1 K (j + 1)) := fun h => (HE0.out.trans (badKF_range hjl h)).trans (fromF_off (by omega)).symm
          have H2 : Hid (isKeyB K[j] = true → (K.take j).contains K[j] = true → E3 = fromF 7 K (j + 1)) := fun h h' => (HE0.out.trans (badKF_clash hjl h h')).trans (fromF_off (by omega)).symm
          have H3 : Hid (isKeyB K[j] = true → (K.take j).contains K[j] = false → E3 = fromF 0 K (j + 1)) := fun h h' => (HE0.out.trans (badKF_next hjl h h')).trans fromF_on.symm
          obtain ⟨ci, HCi⟩ : ∃ c, Hid (isKeyB K[j] = c) := ⟨isKeyB K[j], show isKeyB K[j] = isKeyB K[j] from rfl⟩
          obtain ⟨ch, HCh⟩ : ∃ c, Hid ((K.take j).contains K[j] = c) := ⟨(K.take j).contains K[j], show (K.take j).contains K[j] = (K.take j).contains K[j] from rfl⟩
          rw [HCi.out, HCh.out] at H2 H3
          rw [HCi.out] at H1
          obtain ⟨x, HX⟩ : ∃ x, Hid (K[j] = x) := ⟨K[j], show K[j] = K[j] from rfl⟩
          rw [HX.out] at c0 HCi HCh
          have HIn : Hid (∀ q cp, Calls Tryd.prog 15 #[.slice (some ⟨ba, oa, none⟩) j cp, .int .i64 x] (wr.drewN q) fun e w' => e = .returned (.bool ch) ∧ w' = wr.drewN q) := fun q cp => by
            have hT := IntsIs.take (cap' := cp) (j := j) (l := K) (w := wr.drewN q) (p := some ⟨ba, oa, none⟩) (p' := some ⟨ba, oa, none⟩) (cap := cap) (HI.out.below (below_drewN _ _ _)) (by omega) (fun _ => rfl)
            exact inW_c _ _ _ ch _ hT HCh.out
          have hjm : (j : Int) ≤ (m : Int) := by omega
          have hjc : (j : Int) ≤ (cap : Int) := by omega
          have hjcn : j ≤ cap := by omega
          clear HX HI HE0 HE
          go_upto_region 18 with fail
          go_quiet (first | (go_at_call 15; exact Calls.quiet_of_same (HIn.out _ _)))
          have HBq : Hid (Below w.heap.size w (wr.drewN nq)) := HB.out.trans (below_drewN _ _ _)
          have c0q : (wr.drewN nq).cell? ⟨ba, oa + j, none⟩ = some (.int .i64 x) := c0
          clear c0
          obtain ⟨w2, HW2⟩ : ∃ w2, w2 = wr.drewN nq := ⟨_, rfl⟩
          rw [← HW2] at HBq c0q ⊢
          clear HW2 HIn
          go_wp2_with fail
          refine (refKey_b x ci _ HCi.out).mono ?_
          rintro e w3 ⟨rfl, hw⟩
          have B3 : Hid (Below w.heap.size w w3) := by rw [← hw]; exact HBq
          clear hw HBq c0q
          cases ci with
          | false =>
            have HE1 : Hid (E3 = fromF 1 K (j + 1)) := H1.out rfl
            clear H1 H2 H3
            go_wp2_with fail
            go_roundw
            case rel => exact ⟨j + 1, 1, rfl, by omega, by go_num, HE1, B3⟩
            case measure => simp [intOf]; omega
          | true =>
            cases ch with
            | true =>
              have HE1 : Hid (E3 = fromF 7 K (j + 1)) := H2.out rfl rfl
              clear H1 H2 H3
              go_wp2_with fail
              go_roundw
              case rel => exact ⟨j + 1, 7, rfl, by omega, by go_num, HE1, B3⟩
              case measure => simp [intOf]; omega
            | false =>
              have HE1 : Hid (E3 = fromF 0 K (j + 1)) := H3.out rfl rfl
              clear H1 H2 H3
              go_wp2_with fail
              go_roundw
              case rel => exact ⟨j + 1, 0, rfl, by omega, by go_num, HE1, B3⟩
              case measure => simp [intOf]; omega
        · have hfb : (f == 0) = false := by simp [hf]
          have HE1 : Hid (E3 = f) := HE.out.trans (fromF_off hf)
          clear hf HE
          go_wp2_with fail
          go_meet
          case rel => exact ⟨by rw [HE1.out], HB⟩
      · obtain rfl : j = m := by omega
        have hlti : ¬ (j : Int) < (j : Int) := by omega
        have hltd : decide ((j : Int) < (j : Int)) = false := by simp
        have HE1 : Hid (E3 = f) := HE.out.trans (by rw [← HM.out]; exact fromF_end)
        clear HE
        go_wp2_with fail
        go_meet
        case rel => exact ⟨by rw [HE1.out], HB⟩
  case rest =>
  obtain ⟨wg, h⟩ : ∃ x, x = wc := ⟨_, rfl⟩
  subst h
  obtain ⟨rfl, BG⟩ := hcut
  clear BF HR1 HRow hc1 hc63
  go_upto_if 112 with fail
  go_cut [20] (fun v20 wc => ∃ V, v20 = V ∧ Hid (RowIs wc V G) ∧ Hid (Below w.heap.size w wc))
  case first =>
    by_cases h0 : E3 = 0
    · have h0b : (E3 == 0) = true := by simp [h0]
      have HO : Hid (∀ w', Below w.heap.size w w' → Calls Tryd.prog 17 #[va, .slice p m cap] w' fun e w'' => ∃ v', e = .returned v' ∧ RowIs w'' v' G ∧ Below w'.heap.size w' w'') := HR3.out h0
      clear h0
      go_wp2_with fail
      refine (HO.out _ BG.out).mono ?_
      rintro e w2 ⟨V, rfl, hi, hb⟩
      have B2 : Hid (Below w.heap.size w w2) := BG.out.trans (hb.mono BG.out.size)
      have I2 : Hid (RowIs w2 V G) := hi
      clear hb hi
      go_wp2_with fail
      go_meet
      case rel => exact ⟨V, rfl, I2, B2⟩
    · have h0b : (E3 == 0) = false := by simp [h0]
      have HZ : Hid (G = []) := HR2.out h0
      clear h0
      go_wp2_with fail
      go_meet
      case rel => exact ⟨.slice none 0 0, rfl, (by rw [HZ.out]; exact RowIs.nil _), BG⟩
  case rest =>
  obtain ⟨wh, h⟩ : ∃ x, x = wc := ⟨_, rfl⟩
  subst h
  obtain ⟨V, hV, IH, BH⟩ := hcut
  have hV' := hV.symm
  clear hV
  subst hV'
  clear BG HR2 HR3
  go_wp2_with fail
  refine (HC4.out _ BH.out).mono ?_
  rintro e w2 ⟨U, rfl, hi, hb⟩
  have B2 : Hid (Below w.heap.size w w2) := BH.out.trans (hb.mono BH.out.size)
  have I2 : Hid (RowIs w2 U G) := hi
  have J2 : Hid (RowIs w2 V G) := IH.out.below hb
  clear hb hi BH IH HC4
  go_wp2_with fail
  refine (err_same E3 _ (HG.out _ B2.out)).mono ?_
  rintro e w3 ⟨rfl, hb⟩
  have B3 : Hid (Below w.heap.size w w3) := B2.out.trans (hb.mono B2.out.size)
  have I3 : Hid (RowIs w3 U G) := I2.out.below hb
  have J3 : Hid (RowIs w3 V G) := J2.out.below hb
  clear hb B2 I2 J2
  go_wp2_with fail
  refine (sameS_true _ _ _ I3.out J3.out).mono ?_
  rintro e w4 ⟨rfl, hb⟩
  have B4 : Hid (Below w.heap.size w w4) := B3.out.trans (hb.mono B3.out.size)
  clear hb B3 I3 J3
  go_wp2_with fail
  go_ret
  exact ⟨rfl, B4.out⟩
end Go.Proofs.YtippdgmgmenboagDoor
