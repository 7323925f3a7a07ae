/-
  RumorTells: how often any is told, any that is new, and which are told next, are the document's.
-/
import Derived.Test.YtpelbmhhppcmeafDoorRuTe
namespace Go.Proofs.YtpelbmhhppcmeafDoor
set_option linter.unusedVariables false
set_option linter.unusedSimpArgs false
open Go.RowKit

set_option maxRecDepth 100000 in
set_option maxHeartbeats 32000000 in
theorem rumorTells_w (vl : Value) (n k f s many limit : Int) (l : List Ru) (w : World) (hl : RusIs w vl l) (hg : HasErr w) :
    Calls Tryd.prog 7 #[.int .i64 n, vl, .agg #[.int .i64 k, .int .i64 f, .int .i64 s], .int .i64 many, .int .i64 limit] w fun e w' => e = .returned (.bool true) ∧ Below w.heap.size w w' := by
  obtain ⟨w3, HW3⟩ : ∃ x, x = w.alloc (.cells #[.int .i64 k, .int .i64 f, .int .i64 s] 23) := ⟨_, rfl⟩
  have B0 : Hid (Below w.heap.size w w3) := by rw [HW3]; exact (Below.refl _ w).alloc (Nat.le_refl _) _
  have HG : Hid (∀ W, Below w3.heap.size w3 W → HasErr W) := fun W hW => hg.below hg.lt (B0.out.trans (hW.mono B0.out.size))
  have HV : Hid (∀ W, Below w3.heap.size w3 W → RusIs W vl l) := fun W hW => hl.below (B0.out.trans (hW.mono B0.out.size))
  have HX : Hid (∀ W, Below w3.heap.size w3 W → BoxM W w.heap.size k f s) := fun W hW => by
    have h : BoxM w3 w.heap.size k f s := by rw [HW3]; exact boxM_new w k f s _ rfl
    exact h.below hW h.lt
  clear hg
  obtain ⟨p, HP⟩ : ∃ x, Hid (Mm.ok ⟨k, f, s⟩ = x) := ⟨_, rfl⟩
  obtain ⟨g, HGv⟩ : ∃ x, Hid (badR l = x) := ⟨_, rfl⟩
  obtain ⟨K0, E0, HLm⟩ : ∃ x y, Hid (limV n = (x, y)) := ⟨_, _, rfl⟩
  obtain ⟨R1, R2, E1, HAd⟩ : ∃ x y z, Hid (addR l ⟨k, f, s⟩ = (x, y, z)) := ⟨_, _, _, rfl⟩
  obtain ⟨T1, L1, E2, HPk⟩ : ∃ x y z, Hid (pickR l many limit = (x, y, z)) := ⟨_, _, _, rfl⟩
  clear hl
  go_enter Tryd.func7, Tryd.ntmps7
  go_upto_region 1 with fail
  rw [← HW3]
  clear HW3
  go_upto_region 3 with fail
  go_cut [34] (fun c wc => ∃ cb : Bool, c = .bool cb ∧ Hid (cb = (decide (n < 1) || decide (6 < n))) ∧ Hid (Below w3.heap.size w3 wc))
  case first =>
    as_aux_lemma =>
      by_cases h1 : n < 1
      · have hd : decide (n < 1) = true := decide_eq_true h1
        go_wp2_with fail
        go_meet
        exact ⟨_, rfl, by rw [hd]; rfl, Below.refl _ _⟩
      · have hd : decide (n < 1) = false := decide_eq_false h1
        go_wp2_with fail
        go_meet
        exact ⟨_, rfl, by rw [hd]; rfl, Below.refl _ _⟩
  case rest =>
  obtain ⟨w4, h⟩ : ∃ x, x = wc := ⟨_, rfl⟩
  subst h
  obtain ⟨cb, rfl, HCb, B4⟩ := hcut
  go_upto_if 34 with fail
  go_cut [11, 12] (fun v11 v12 wc => ∃ (e1 k1 : Int), v11 = .int .i64 e1 ∧ v12 = .int .i64 k1 ∧ Hid (e1 = E0) ∧ Hid (k1 = K0) ∧ Hid (Below w3.heap.size w3 wc))
  case first =>
    as_aux_lemma =>
      by_cases h1 : n < 1 ∨ 6 < n
      · have HCt : Hid (cb = true) := by
          show cb = true
          rw [HCb.out]
          simpa using h1
        rw [HCt.out]
        have HE : Hid (limV n = (0, 1)) := by
          show limV n = _
          unfold limV
          rcases h1 with h1 | h1
          · rw [if_pos h1]
          · rw [if_neg (by omega), if_pos h1]
        rw [HE.out] at HLm
        have HE1 : Hid ((0 : Int) = K0 ∧ (1 : Int) = E0) := by
          have := HLm.out
          simp only [Prod.mk.injEq] at this
          exact this
        clear h1 HLm HE
        go_wp2_with fail
        go_meet
        case rel => exact ⟨1, 0, rfl, rfl, HE1.out.2, HE1.out.1, B4⟩
      · have HCf : Hid (cb = false) := by
          show cb = false
          rw [HCb.out]
          simpa using h1
        rw [HCf.out]
        have h2 : n = 1 ∨ n = 2 ∨ n = 3 ∨ n = 4 ∨ n = 5 ∨ n = 6 := by omega
        clear h1 HCf HCb
        rcases h2 with rfl | rfl | rfl | rfl | rfl | rfl
        · have HE1 : Hid ((0 : Int) = K0 ∧ (0 : Int) = E0) := by
            have := HLm.out
            simp [limV] at this
            exact this
          clear HLm
          go_wp2_with fail
          refine wp_loop_rounds 1 ?_
          rw [rounds_succ]
          go_wp2_with fail
          go_meet
          case rel => exact ⟨0, 0, rfl, rfl, HE1.out.2, HE1.out.1, B4⟩
        · have HE1 : Hid ((3 : Int) = K0 ∧ (0 : Int) = E0) := by
            have := HLm.out
            simp [limV] at this
            exact this
          clear HLm
          go_wp2_with fail
          refine wp_loop_rounds 2 ?_
          rw [rounds_succ]
          go_wp2_with fail
          rw [rounds_succ]
          go_wp2_with fail
          go_meet
          case rel => exact ⟨0, 3, rfl, rfl, HE1.out.2, HE1.out.1, B4⟩
        · have HE1 : Hid ((6 : Int) = K0 ∧ (0 : Int) = E0) := by
            have := HLm.out
            simp [limV] at this
            exact this
          clear HLm
          go_wp2_with fail
          refine wp_loop_rounds 3 ?_
          rw [rounds_succ]
          go_wp2_with fail
          rw [rounds_succ]
          go_wp2_with fail
          rw [rounds_succ]
          go_wp2_with fail
          go_meet
          case rel => exact ⟨0, 6, rfl, rfl, HE1.out.2, HE1.out.1, B4⟩
        · have HE1 : Hid ((6 : Int) = K0 ∧ (0 : Int) = E0) := by
            have := HLm.out
            simp [limV] at this
            exact this
          clear HLm
          go_wp2_with fail
          refine wp_loop_rounds 3 ?_
          rw [rounds_succ]
          go_wp2_with fail
          rw [rounds_succ]
          go_wp2_with fail
          rw [rounds_succ]
          go_wp2_with fail
          go_meet
          case rel => exact ⟨0, 6, rfl, rfl, HE1.out.2, HE1.out.1, B4⟩
        · have HE1 : Hid ((9 : Int) = K0 ∧ (0 : Int) = E0) := by
            have := HLm.out
            simp [limV] at this
            exact this
          clear HLm
          go_wp2_with fail
          refine wp_loop_rounds 4 ?_
          rw [rounds_succ]
          go_wp2_with fail
          rw [rounds_succ]
          go_wp2_with fail
          rw [rounds_succ]
          go_wp2_with fail
          rw [rounds_succ]
          go_wp2_with fail
          go_meet
          case rel => exact ⟨0, 9, rfl, rfl, HE1.out.2, HE1.out.1, B4⟩
        · have HE1 : Hid ((9 : Int) = K0 ∧ (0 : Int) = E0) := by
            have := HLm.out
            simp [limV] at this
            exact this
          clear HLm
          go_wp2_with fail
          refine wp_loop_rounds 4 ?_
          rw [rounds_succ]
          go_wp2_with fail
          rw [rounds_succ]
          go_wp2_with fail
          rw [rounds_succ]
          go_wp2_with fail
          rw [rounds_succ]
          go_wp2_with fail
          go_meet
          case rel => exact ⟨0, 9, rfl, rfl, HE1.out.2, HE1.out.1, B4⟩
  case rest =>
  obtain ⟨w5, h⟩ : ∃ x, x = wc := ⟨_, rfl⟩
  subst h
  obtain ⟨e1, k1, rfl, rfl, HQ1, HF1, B5⟩ := hcut
  rw [HQ1.out, HF1.out]
  clear HQ1 HF1 B4 HCb
  go_wp2_with fail
  refine (limit_o HLm.out _).mono ?_
  rintro e w6 ⟨rfl, hw⟩
  have hw' := hw.symm
  clear hw
  subst hw'
  go_upto_region 10 with fail
  go_cut [16] (fun c wc => ∃ cb : Bool, c = .bool cb ∧ cb = true ∧ Hid (Below w3.heap.size w3 wc))
  case first =>
    as_aux_lemma =>
      have HEr : Hid _ := err_same E0 w5 (HG.out _ B5.out)
      go_wp2_with fail
      refine Calls.mono HEr.out ?_
      rintro e w9 ⟨rfl, hb⟩
      have B9 : Hid (Below w3.heap.size w3 w9) := B5.out.trans (hb.mono B5.out.size)
      clear hb
      go_wp2_with fail
      go_meet
      exact ⟨_, rfl, by simp, B9⟩
  case rest =>
  as_aux_lemma =>
  obtain ⟨w7, h⟩ : ∃ x, x = wc := ⟨_, rfl⟩
  subst h
  obtain ⟨cb, rfl, rfl, B7⟩ := hcut
  clear B5
  go_wp2_with fail
  refine (rRumors_c vl l g _ (HV.out _ B7.out) HGv.out).mono ?_
  rintro e w8 ⟨rfl, hb⟩
  have B8 : Hid (Below w3.heap.size w3 w8) := B7.out.trans (hb.mono B7.out.size)
  clear hb B7
  obtain ⟨x0, x1, x2, xf⟩ := HX.out w8 B8.out
  go_wp2_with fail
  refine (rMember_b k f s p _ HP.out).mono ?_
  rintro e w9 ⟨rfl, hb⟩
  have B9 : Hid (Below w3.heap.size w3 w9) := B8.out.trans (hb.mono B8.out.size)
  clear hb B8 x0 x1 x2 xf
  have HAe : Hid (if ((g == 0) && !p) = true then E1 = 1 else E1 = g) := by
    have := addR_e HAd.out
    rw [HGv.out, HP.out] at this
    exact this
  go_upto_region 14 with fail
  go_cut [65] (fun c wc => ∃ cb : Bool, c = .bool cb ∧ Hid (cb = ((g == 0) && !p)) ∧ Hid (Below w3.heap.size w3 wc))
  case first =>
    as_aux_lemma =>
      by_cases h0 : g = 0
      · have hgb : (g == 0) = true := by simp [h0]
        clear h0
        cases p
        all_goals
          go_wp2_with fail
          go_meet
          exact ⟨_, rfl, by rw [hgb]; rfl, B9⟩
      · have hgb : (g == 0) = false := by simp [h0]
        clear h0
        cases p
        all_goals
          go_wp2_with fail
          go_meet
          exact ⟨_, rfl, by rw [hgb]; rfl, B9⟩
  case rest =>
  obtain ⟨w10, h⟩ : ∃ x, x = wc := ⟨_, rfl⟩
  subst h
  obtain ⟨cb, rfl, HCb, B10⟩ := hcut
  clear B9
  rw [← HCb.out] at HAe
  go_upto_if 65 with fail
  go_cut [11] (fun v11 wc => ∃ e1 : Int, v11 = .int .i64 e1 ∧ Hid (e1 = E1) ∧ Hid (Below w3.heap.size w3 wc))
  case first =>
    as_aux_lemma =>
      cases cb
      · have HE : Hid (g = E1) := by
          have := HAe.out
          rw [if_neg (by simp)] at this
          exact this.symm
        go_wp2_with fail
        go_meet
        case rel => exact ⟨g, rfl, HE, B10⟩
      · have HE : Hid (1 = E1) := by
          have := HAe.out
          rw [if_pos rfl] at this
          exact this.symm
        go_wp2_with fail
        go_meet
        case rel => exact ⟨1, rfl, HE, B10⟩
  case rest =>
  obtain ⟨w11, h⟩ : ∃ x, x = wc := ⟨_, rfl⟩
  subst h
  obtain ⟨e1, rfl, HQ1, B11⟩ := hcut
  rw [HQ1.out]
  clear HQ1 B10 HCb HAe
  go_upto_if 67 with fail
  go_cut [19, 20] (fun v19 v20 wc => ∃ (vn : Value) (q : Bool), v19 = vn ∧ v20 = .bool q ∧ Hid (q = R2) ∧ Hid (RusIs wc vn R1) ∧ Hid (Below w3.heap.size w3 wc))
  case first =>
    as_aux_lemma =>
      by_cases hE : E1 = 0
      · have hEb : (E1 == 0) = true := by simp [hE]
        have HZ : Hid _ := addR_zero HAd.out hE
        clear hE
        obtain ⟨x0, x1, x2, xf⟩ := HX.out w11 B11.out
        go_wp2_with fail
        refine (rHear_c vl l k f s R1 R2 _ (HV.out _ B11.out) HZ.out.1.1 (by have := goodR_len HZ.out.1; omega) HZ.out.2.1 HZ.out.2.2).mono ?_
        rintro e w12 ⟨vn, rfl, hr, hb⟩
        have B12 : Hid (Below w3.heap.size w3 w12) := B11.out.trans (hb.mono B11.out.size)
        have HR : Hid (RusIs w12 vn R1) := hr
        clear hb hr x0 x1 x2 xf
        go_wp2_with fail
        go_meet
        case rel => exact ⟨vn, R2, rfl, rfl, rfl, HR, B12⟩
      · have hEb : (E1 == 0) = false := by simp [hE]
        have HZ : Hid _ := addR_not HAd.out hE
        clear hE
        go_wp2_with fail
        go_meet
        case rel => exact ⟨_, false, rfl, rfl, HZ.out.2.symm, by rw [HZ.out.1]; exact RusIs.nil _, B11⟩
  case rest =>
  as_aux_lemma =>
  obtain ⟨w12, h⟩ : ∃ x, x = wc := ⟨_, rfl⟩
  subst h
  obtain ⟨vn, q, hvn, rfl, HQ, HRn, B12⟩ := hcut
  have hvn' := hvn.symm
  clear hvn
  subst hvn'
  rw [HQ.out]
  clear HQ B11
  obtain ⟨x0, x1, x2, xf⟩ := HX.out w12 B12.out
  go_wp2_with fail
  refine (addR_o HAd.out vl _ (HV.out _ B12.out)).mono ?_
  rintro e w13 ⟨vx, rfl, ho, hb⟩
  have B13 : Hid (Below w3.heap.size w3 w13) := B12.out.trans (hb.mono B12.out.size)
  have HRx : Hid (RusIs w13 vx R1) := ho.rus
  have HRn' : Hid (RusIs w13 vn R1) := HRn.out.below hb
  clear hb ho x0 x1 x2 xf B12 HRn
  go_upto_region 21 with fail
  go_cut [23] (fun c wc => ∃ cb : Bool, c = .bool cb ∧ cb = true ∧ Hid (Below w3.heap.size w3 wc))
  case first =>
    as_aux_lemma =>
      have HEr : Hid _ := err_same E1 w13 (HG.out _ B13.out)
      cases R2
      all_goals
        go_wp2_with fail
        refine Calls.mono HEr.out ?_
        rintro e w14 ⟨rfl, hb⟩
        have B14 : Hid (Below w3.heap.size w3 w14) := B13.out.trans (hb.mono B13.out.size)
        have HRx4 : Hid (RusIs w14 vx R1) := HRx.out.below hb
        have HRn4 : Hid (RusIs w14 vn R1) := HRn'.out.below hb
        clear hb
        go_wp2_with fail
        refine (sameRu_c vx vn R1 _ HRx4.out HRn4.out).mono ?_
        rintro e w15 ⟨rfl, hb⟩
        have B15 : Hid (Below w3.heap.size w3 w15) := B14.out.trans (hb.mono B14.out.size)
        clear hb
        go_wp2_with fail
        go_meet
        exact ⟨_, rfl, rfl, B15⟩
  case rest =>
  as_aux_lemma =>
  obtain ⟨w14, h⟩ : ∃ x, x = wc := ⟨_, rfl⟩
  subst h
  obtain ⟨cb, rfl, rfl, B14⟩ := hcut
  clear B13 HRx HRn' HAd
  have HPe : Hid (if ((g == 0) && !(inR many 0 6 && inR limit 1 60)) = true then E2 = 1 else E2 = g) := by
    have := pickR_e HPk.out
    rw [HGv.out] at this
    exact this
  go_upto_region 22 with fail
  go_cut [111] (fun c wc => ∃ cb : Bool, c = .bool cb ∧ Hid (cb = ((g == 0) && !(inR many 0 6 && inR limit 1 60))) ∧ Hid (Below w3.heap.size w3 wc))
  case first =>
    as_aux_lemma =>
      have hin : (inR many 0 6 && inR limit 1 60) = ((decide (0 ≤ many) && decide (many ≤ 6)) && (decide (1 ≤ limit) && decide (limit ≤ 60))) := rfl
      have HIn : Hid _ := hin
      clear hin
      by_cases h0 : g = 0
      · have hgb : (g == 0) = true := by simp [h0]
        clear h0
        by_cases h1 : many < 0
        · have HF : Hid ((inR many 0 6 && inR limit 1 60) = false) := by
            show _ = false
            rw [HIn.out, decide_eq_false (show ¬ 0 ≤ many by omega)]
            rfl
          go_wp2_with fail
          go_meet
          exact ⟨_, rfl, by rw [hgb, HF.out]; rfl, B14⟩
        · by_cases h2 : 6 < many
          · have HF : Hid ((inR many 0 6 && inR limit 1 60) = false) := by
              show _ = false
              rw [HIn.out, decide_eq_false (show ¬ many ≤ 6 by omega), Bool.and_false, Bool.false_and]
            go_wp2_with fail
            go_meet
            exact ⟨_, rfl, by rw [hgb, HF.out]; rfl, B14⟩
          · by_cases h3 : limit < 1
            · have HF : Hid ((inR many 0 6 && inR limit 1 60) = false) := by
                show _ = false
                rw [HIn.out, decide_eq_false (show ¬ 1 ≤ limit by omega), Bool.false_and, Bool.and_false]
              go_wp2_with fail
              go_meet
              exact ⟨_, rfl, by rw [hgb, HF.out]; rfl, B14⟩
            · have HF : Hid (decide (60 < limit) = !(inR many 0 6 && inR limit 1 60)) := by
                show _ = _
                rw [HIn.out, decide_eq_true (show 0 ≤ many by omega), decide_eq_true (show many ≤ 6 by omega), decide_eq_true (show 1 ≤ limit by omega)]
                by_cases h4 : limit ≤ 60
                · rw [decide_eq_true h4, decide_eq_false (by omega)]
                  rfl
                · rw [decide_eq_false h4, decide_eq_true (by omega)]
                  rfl
              go_wp2_with fail
              go_meet
              exact ⟨_, rfl, by rw [hgb, ← HF.out]; rfl, B14⟩
      · have hgb : (g == 0) = false := by simp [h0]
        clear h0
        go_wp2_with fail
        go_meet
        exact ⟨_, rfl, by rw [hgb]; rfl, B14⟩
  case rest =>
  obtain ⟨w15, h⟩ : ∃ x, x = wc := ⟨_, rfl⟩
  subst h
  obtain ⟨cb, rfl, HCb, B15⟩ := hcut
  clear B14
  rw [← HCb.out] at HPe
  go_upto_if 111 with fail
  go_cut [17] (fun v17 wc => ∃ e1 : Int, v17 = .int .i64 e1 ∧ Hid (e1 = E2) ∧ Hid (Below w3.heap.size w3 wc))
  case first =>
    as_aux_lemma =>
      cases cb
      · have HE : Hid (g = E2) := by
          have := HPe.out
          rw [if_neg (by simp)] at this
          exact this.symm
        go_wp2_with fail
        go_meet
        case rel => exact ⟨g, rfl, HE, B15⟩
      · have HE : Hid (1 = E2) := by
          have := HPe.out
          rw [if_pos rfl] at this
          exact this.symm
        go_wp2_with fail
        go_meet
        case rel => exact ⟨1, rfl, HE, B15⟩
  case rest =>
  obtain ⟨w16, h⟩ : ∃ x, x = wc := ⟨_, rfl⟩
  subst h
  obtain ⟨e1, rfl, HQ1, B16⟩ := hcut
  rw [HQ1.out]
  clear HQ1 B15 HCb HPe
  go_upto_if 113 with fail
  go_cut [24, 25] (fun v24 v25 wc => ∃ (vt vn : Value), v24 = vt ∧ v25 = vn ∧ Hid (MmsIs wc vt T1) ∧ Hid (RusIs wc vn L1) ∧ Hid (Below w3.heap.size w3 wc))
  case first =>
    as_aux_lemma =>
      by_cases hE : E2 = 0
      · have hEb : (E2 == 0) = true := by simp [hE]
        obtain ⟨hz1, hz2, hz3, hz4⟩ := pickR_zero HPk.out hE
        obtain ⟨mn, HMn⟩ : ∃ mn : Nat, Hid (many = (mn : Int)) := ⟨many.toNat, show _ = _ by omega⟩
        have HC : Hid (∀ W, RusIs W vl l → Calls Tryd.prog 25 #[vl, .int .i64 many, .int .i64 limit] W fun e w' => ∃ v1 v2, e = .returned (.tuple #[v1, v2]) ∧ OwnM W.heap.size w' v1 T1 ∧ OwnR W.heap.size w' v2 L1 ∧ Below W.heap.size W w') := fun W hW => by
          have c := rPick_c vl l mn limit W hW hz1 (by have := HMn.out; omega)
          rw [← hz3, ← hz4, HMn.out]
          exact c
        clear hE hz1 hz2 hz3 hz4
        go_wp2_with fail
        refine Calls.mono (HC.out _ (HV.out _ B16.out)) ?_
        rintro e w17 ⟨vt, vn, rfl, ht, hn, hb⟩
        have B17 : Hid (Below w3.heap.size w3 w17) := B16.out.trans (hb.mono B16.out.size)
        have HR1 : Hid (MmsIs w17 vt T1) := ht.mms
        have HR2 : Hid (RusIs w17 vn L1) := hn.rus
        clear hb ht hn
        go_wp2_with fail
        go_meet
        case rel => exact ⟨vt, vn, rfl, rfl, HR1, HR2, B17⟩
      · have hEb : (E2 == 0) = false := by simp [hE]
        have HZ : Hid _ := pickR_not HPk.out hE
        clear hE
        go_wp2_with fail
        go_meet
        case rel => exact ⟨_, _, rfl, rfl, by rw [HZ.out.1]; exact MmsIs.nil _, by rw [HZ.out.2]; exact RusIs.nil _, B16⟩
  case rest =>
  as_aux_lemma =>
  obtain ⟨w17, h⟩ : ∃ x, x = wc := ⟨_, rfl⟩
  subst h
  obtain ⟨vt, vn, hvt, hvn, HRt, HRn, B17⟩ := hcut
  have hvt' := hvt.symm
  clear hvt
  subst hvt'
  have hvn' := hvn.symm
  clear hvn
  subst hvn'
  clear B16
  go_wp2_with fail
  refine (pick_o HPk.out vl _ (HV.out _ B17.out)).mono ?_
  rintro e w18 ⟨vy, vz, rfl, hy, hz, hb⟩
  have B18 : Hid (Below w3.heap.size w3 w18) := B17.out.trans (hb.mono B17.out.size)
  have HRy : Hid (MmsIs w18 vy T1) := hy.mms
  have HRz : Hid (RusIs w18 vz L1) := hz.rus
  have HRt' : Hid (MmsIs w18 vt T1) := HRt.out.below hb
  have HRn' : Hid (RusIs w18 vn L1) := HRn.out.below hb
  clear hb hy hz HRt HRn B17
  have HEr : Hid _ := err_same E2 w18 (HG.out _ B18.out)
  go_wp2_with fail
  refine Calls.mono HEr.out ?_
  rintro e w19 ⟨rfl, hb⟩
  have B19 : Hid (Below w3.heap.size w3 w19) := B18.out.trans (hb.mono B18.out.size)
  have Y9 : Hid (MmsIs w19 vy T1) := HRy.out.below hb
  have Z9 : Hid (RusIs w19 vz L1) := HRz.out.below hb
  have T9 : Hid (MmsIs w19 vt T1) := HRt'.out.below hb
  have N9 : Hid (RusIs w19 vn L1) := HRn'.out.below hb
  clear hb HRy HRz HRt' HRn' HEr B18
  go_wp2_with fail
  refine (sameMm_c vy vt T1 _ Y9.out T9.out).mono ?_
  rintro e w20 ⟨rfl, hb⟩
  have B20 : Hid (Below w3.heap.size w3 w20) := B19.out.trans (hb.mono B19.out.size)
  have Z20 : Hid (RusIs w20 vz L1) := Z9.out.below hb
  have N20 : Hid (RusIs w20 vn L1) := N9.out.below hb
  clear hb Y9 T9 Z9 N9 B19
  go_wp2_with fail
  refine (sameRu_c vz vn L1 _ Z20.out N20.out).mono ?_
  rintro e w21 ⟨rfl, hb⟩
  have B21 : Hid (Below w.heap.size w w21) := B0.out.trans ((B20.out.trans (hb.mono B20.out.size)).mono B0.out.size)
  clear hb
  go_wp2_with fail
  go_ret
  exact ⟨rfl, B21.out⟩
end Go.Proofs.YtpelbmhhppcmeafDoor
