/-
  ViewTells: which of any two members is newer, any added to any view, both of any two, and what any answers, are the document's.
-/
import Derived.Test.YtpelbmhhppcmeaeDoorVTe
namespace Go.Proofs.YtpelbmhhppcmeaeDoor
set_option linter.unusedVariables false
set_option linter.unusedSimpArgs false
open Go.RowKit

set_option maxRecDepth 100000 in
set_option maxHeartbeats 32000000 in
theorem viewTells_w (vl vm : Value) (a0 a1 a2 b0 b1 b2 node : Int) (l m : List Mm) (w : World) (hl : MmsIs w vl l) (hm : MmsIs w vm m) (hg : HasErr w) :
    Calls Tryd.prog 7 #[.agg #[.int .i64 a0, .int .i64 a1, .int .i64 a2], .agg #[.int .i64 b0, .int .i64 b1, .int .i64 b2], vl, vm, .int .i64 node] w fun e w' => e = .returned (.bool true) ∧ Below w.heap.size w w' := by
  obtain ⟨w3, HW3⟩ : ∃ x, x = (w.alloc (.cells #[.int .i64 a0, .int .i64 a1, .int .i64 a2] 57)).alloc (.cells #[.int .i64 b0, .int .i64 b1, .int .i64 b2] 57) := ⟨_, rfl⟩
  have B0 : Hid (Below w.heap.size w w3) := by rw [HW3]; exact ((Below.refl _ w).alloc (Nat.le_refl _) _).alloc (by simp) _
  have HG : Hid (∀ W, Below w3.heap.size w3 W → HasErr W) := fun W hW => hg.below hg.lt (B0.out.trans (hW.mono B0.out.size))
  have HVl : Hid (∀ W, Below w3.heap.size w3 W → MmsIs W vl l) := fun W hW => hl.below (B0.out.trans (hW.mono B0.out.size))
  have HVm : Hid (∀ W, Below w3.heap.size w3 W → MmsIs W vm m) := fun W hW => hm.below (B0.out.trans (hW.mono B0.out.size))
  have HXa : Hid (∀ W, Below w3.heap.size w3 W → BoxM W w.heap.size a0 a1 a2) := fun W hW => by
    have h : BoxM w3 w.heap.size a0 a1 a2 := by rw [HW3]; exact (boxM_new w a0 a1 a2 _ rfl).alloc _
    exact h.below hW h.lt
  have HXb : Hid (∀ W, Below w3.heap.size w3 W → BoxM W (w.heap.size + 1) b0 b1 b2) := fun W hW => by
    have h : BoxM w3 (w.heap.size + 1) b0 b1 b2 := by rw [HW3]; exact boxM_new _ b0 b1 b2 _ (by simp)
    exact h.below hW h.lt
  clear hg
  obtain ⟨p, HP⟩ : ∃ x, Hid (Mm.ok ⟨a0, a1, a2⟩ = x) := ⟨_, rfl⟩
  obtain ⟨q, HQ⟩ : ∃ x, Hid (Mm.ok ⟨b0, b1, b2⟩ = x) := ⟨_, rfl⟩
  obtain ⟨g, HGv⟩ : ∃ x, Hid (badV l = x) := ⟨_, rfl⟩
  obtain ⟨nq, E0, HNv⟩ : ∃ x y, Hid (newV ⟨a0, a1, a2⟩ ⟨b0, b1, b2⟩ = (x, y)) := ⟨_, _, rfl⟩
  obtain ⟨R1, R2, E1, HAd⟩ : ∃ x y z, Hid (addV l ⟨a0, a1, a2⟩ = (x, y, z)) := ⟨_, _, _, rfl⟩
  obtain ⟨R3, E2, HBo⟩ : ∃ x y, Hid (bothV l m = (x, y)) := ⟨_, _, rfl⟩
  obtain ⟨R4, E3, HAn⟩ : ∃ x y, Hid (ansV l node = (x, y)) := ⟨_, _, rfl⟩
  clear hl hm
  go_enter Tryd.func7, Tryd.ntmps7
  go_upto_region 1 with fail
  rw [← HW3]
  clear HW3
  obtain ⟨x0, x1, x2, xf⟩ := HXa.out w3 (Below.refl _ _)
  go_wp2_with fail
  refine (rMember_b a0 a1 a2 p _ HP.out).mono ?_
  rintro e w4 ⟨rfl, hb⟩
  have B4 : Hid (Below w3.heap.size w3 w4) := hb
  clear hb x0 x1 x2 xf
  obtain ⟨x0, x1, x2, xf⟩ := HXb.out w4 B4.out
  go_wp2_with fail
  refine (rMember_b b0 b1 b2 q _ HQ.out).mono ?_
  rintro e w5 ⟨rfl, hb⟩
  have B5 : Hid (Below w3.heap.size w3 w5) := B4.out.trans (hb.mono B4.out.size)
  clear hb x0 x1 x2 xf B4
  go_upto_region 5 with fail
  go_cut [12, 37] (fun c12 c wc => ∃ cb : Bool, c12 = .bool p ∧ c = .bool cb ∧ Hid (cb = (!p || !q)) ∧ Hid (Below w3.heap.size w3 wc))
  case first =>
    as_aux_lemma =>
      cases p <;> cases q
      all_goals go_wp2_with fail
      all_goals go_meet
      all_goals exact ⟨_, rfl, rfl, rfl, B5⟩
  case rest =>
  obtain ⟨w6, h⟩ : ∃ x, x = wc := ⟨_, rfl⟩
  subst h
  obtain ⟨cb, rfl, rfl, HCb, B6⟩ := hcut
  clear B5
  go_upto_if 37 with fail
  go_cut [11, 14] (fun v11 v14 wc => ∃ (f1 : Int) (q1 : Bool), v11 = .int .i64 f1 ∧ v14 = .bool q1 ∧ Hid (q1 = nq) ∧ Hid (f1 = E0) ∧ Hid (Below w3.heap.size w3 wc))
  case first =>
    as_aux_lemma =>
      cases cb
      · have HOk := newV_ok HNv.out (by rw [HP.out, HQ.out]; exact HCb.out.symm)
        have HO1 : Hid (a0 = b0 → nq = nwB ⟨a0, a1, a2⟩ ⟨b0, b1, b2⟩ ∧ E0 = 0) := HOk.1
        have HO2 : Hid (a0 ≠ b0 → nq = false ∧ E0 = 3) := HOk.2
        clear HOk
        obtain ⟨x0, x1, x2, xf⟩ := HXa.out w6 B6.out
        obtain ⟨y0, y1, y2, yf⟩ := HXb.out w6 B6.out
        by_cases hn : a0 = b0
        · have hnb : (a0 != b0) = false := by simp [hn]
          have HE := HO1.out hn
          have HE1 : Hid (nq = nwB ⟨a0, a1, a2⟩ ⟨b0, b1, b2⟩) := HE.1
          have HE2 : Hid (0 = E0) := HE.2.symm
          clear hn HE
          go_wp2_with fail
          refine (rNewer_b a0 a1 a2 b0 b1 b2 nq _ HE1.out.symm).mono ?_
          rintro e w7 ⟨rfl, hb⟩
          have B7 : Hid (Below w3.heap.size w3 w7) := B6.out.trans (hb.mono B6.out.size)
          clear hb x0 x1 x2 xf y0 y1 y2 yf
          go_wp2_with fail
          go_meet
          case rel => exact ⟨0, nq, rfl, rfl, rfl, HE2, B7⟩
        · have hnb : (a0 != b0) = true := by simpa using hn
          have HE := HO2.out hn
          have HE1 : Hid (false = nq) := HE.1.symm
          have HE2 : Hid (3 = E0) := HE.2.symm
          clear hn HE
          go_wp2_with fail
          go_meet
          case rel => exact ⟨3, false, rfl, rfl, HE1, HE2, B6⟩
      · have HE := newV_bad HNv.out (by rw [HP.out, HQ.out]; exact HCb.out.symm)
        have HE1 : Hid (false = nq) := HE.1.symm
        have HE2 : Hid (1 = E0) := HE.2.symm
        clear HE
        go_wp2_with fail
        go_meet
        case rel => exact ⟨1, false, rfl, rfl, HE1, HE2, B6⟩
  case rest =>
  obtain ⟨w7, h⟩ : ∃ x, x = wc := ⟨_, rfl⟩
  subst h
  obtain ⟨f1, q1, rfl, rfl, HQ1, HF1, B7⟩ := hcut
  rw [HQ1.out, HF1.out]
  clear HQ1 HF1 B6 HCb
  obtain ⟨x0, x1, x2, xf⟩ := HXa.out w7 B7.out
  obtain ⟨y0, y1, y2, yf⟩ := HXb.out w7 B7.out
  go_wp2_with fail
  refine (newer_o HNv.out _).mono ?_
  rintro e w8 ⟨rfl, hb⟩
  have B8 : Hid (Below w3.heap.size w3 w8) := B7.out.trans (hb.mono B7.out.size)
  clear hb x0 x1 x2 xf y0 y1 y2 yf B7
  go_upto_region 11 with fail
  go_cut [17] (fun c wc => ∃ cb : Bool, c = .bool cb ∧ cb = true ∧ Hid (Below w3.heap.size w3 wc))
  case first =>
    as_aux_lemma =>
      have HEr : Hid _ := err_same E0 w8 (HG.out _ B8.out)
      cases nq
      all_goals
        go_wp2_with fail
        refine Calls.mono HEr.out ?_
        rintro e w9 ⟨rfl, hb⟩
        have B9 : Hid (Below w3.heap.size w3 w9) := B8.out.trans (hb.mono B8.out.size)
        clear hb
        go_wp2_with fail
        go_meet
        exact ⟨_, rfl, rfl, B9⟩
  case rest =>
  as_aux_lemma =>
  obtain ⟨w9, h⟩ : ∃ x, x = wc := ⟨_, rfl⟩
  subst h
  obtain ⟨cb, rfl, rfl, B9⟩ := hcut
  clear B8
  go_wp2_with fail
  refine (rView_c vl l g _ (HVl.out _ B9.out) HGv.out).mono ?_
  rintro e w10 ⟨rfl, hb⟩
  have B10 : Hid (Below w3.heap.size w3 w10) := B9.out.trans (hb.mono B9.out.size)
  clear hb B9
  go_upto_region 14 with fail
  go_cut [68] (fun c wc => ∃ cb : Bool, c = .bool cb ∧ Hid (cb = ((g == 0) && !p)) ∧ Hid (Below w3.heap.size w3 wc))
  case first =>
    as_aux_lemma =>
      by_cases h0 : g = 0
      · have h0b : (g == 0) = true := by simp [h0]
        clear h0
        cases p
        all_goals go_wp2_with fail
        all_goals go_meet
        all_goals exact ⟨_, rfl, by rw [h0b]; rfl, B10⟩
      · have h0b : (g == 0) = false := by simpa using h0
        clear h0
        go_wp2_with fail
        go_meet
        exact ⟨_, rfl, by rw [h0b]; rfl, B10⟩
  case rest =>
  obtain ⟨w11, h⟩ : ∃ x, x = wc := ⟨_, rfl⟩
  subst h
  obtain ⟨cb, rfl, HCb, B11⟩ := hcut
  clear B10
  have HE1 : Hid (if cb = true then E1 = 1 else E1 = g) := by
    have := addV_e HAd.out
    rw [HGv.out, HP.out, ← HCb.out] at this
    exact this
  clear HCb
  go_upto_if 68 with fail
  go_cut [11] (fun v11 wc => ∃ f1 : Int, v11 = .int .i64 f1 ∧ Hid (f1 = E1) ∧ Hid (Below w3.heap.size w3 wc))
  case first =>
    as_aux_lemma =>
      cases cb
      · have HEq : Hid (g = E1) := by
          have := HE1.out
          rw [if_neg (by simp)] at this
          exact this.symm
        go_wp2_with fail
        go_meet
        case rel => exact ⟨_, rfl, HEq, B11⟩
      · have HEq : Hid (1 = E1) := by
          have := HE1.out
          rw [if_pos rfl] at this
          exact this.symm
        go_wp2_with fail
        go_meet
        case rel => exact ⟨_, rfl, HEq, B11⟩
  case rest =>
  as_aux_lemma =>
  obtain ⟨w12, h⟩ : ∃ x, x = wc := ⟨_, rfl⟩
  subst h
  obtain ⟨f1, rfl, HF1, B12⟩ := hcut
  rw [HF1.out]
  clear HF1 B11 HE1
  go_upto_if 70 with fail
  go_cut [19, 20] (fun v19 v20 wc => ∃ (V : Value) (q1 : Bool), v19 = V ∧ v20 = .bool q1 ∧ Hid (q1 = R2) ∧ Hid (MmsIs wc V R1) ∧ Hid (Below w3.heap.size w3 wc))
  case first =>
    as_aux_lemma =>
      by_cases h0 : E1 = 0
      · have h0b : (E1 == 0) = true := by simp [h0]
        have HZ := addV_zero HAd.out h0
        have HRl : Hid (GoodV l) := HZ.1
        have HR1 : Hid (addM ⟨a0, a1, a2⟩ l = R1) := HZ.2.1
        have HR2 : Hid (isM ⟨a0, a1, a2⟩ l = R2) := HZ.2.2
        clear h0 HZ
        obtain ⟨x0, x1, x2, xf⟩ := HXa.out w12 B12.out
        go_wp2_with fail
        refine (rAdd_c vl l a0 a1 a2 R1 R2 _ (HVl.out _ B12.out) HRl.out.1 (by have := good_len HRl.out; omega) HR1.out HR2.out).mono ?_
        rintro e w13 ⟨v13, rfl, hm, hb⟩
        have M13 : Hid (MmsIs w13 v13 R1) := hm
        have B13 : Hid (Below w3.heap.size w3 w13) := B12.out.trans (hb.mono B12.out.size)
        clear hm hb x0 x1 x2 xf
        go_wp2_with fail
        go_meet
        case rel => exact ⟨_, _, rfl, rfl, rfl, M13, B13⟩
      · have h0b : (E1 == 0) = false := by simpa using h0
        have HZ := addV_not HAd.out h0
        have HR1 : Hid (R1 = []) := HZ.1
        have HR2 : Hid (false = R2) := HZ.2.symm
        clear h0 HZ
        go_wp2_with fail
        go_meet
        case rel => exact ⟨_, false, rfl, rfl, HR2, by show MmsIs _ _ R1; rw [HR1.out]; exact MmsIs.nil _, B12⟩
  case rest =>
  obtain ⟨w13, h⟩ : ∃ x, x = wc := ⟨_, rfl⟩
  subst h
  obtain ⟨V13, q1, hV, rfl, HQ1, M13, B13⟩ := hcut
  have hV' := hV.symm
  clear hV B12
  subst hV'
  rw [HQ1.out]
  clear HQ1
  obtain ⟨x0, x1, x2, xf⟩ := HXa.out w13 B13.out
  go_wp2_with fail
  refine (add_o HAd.out vl _ (HVl.out _ B13.out)).mono ?_
  rintro e w14 ⟨u14, rfl, ho, hb⟩
  have M14 : Hid (MmsIs w14 u14 R1) := ho.mms
  have M14v : Hid (MmsIs w14 V13 R1) := M13.out.below hb
  have B14 : Hid (Below w3.heap.size w3 w14) := B13.out.trans (hb.mono B13.out.size)
  clear ho hb x0 x1 x2 xf M13 B13
  go_upto_region 21 with fail
  go_cut [22] (fun c wc => ∃ cb : Bool, c = .bool cb ∧ cb = true ∧ Hid (Below w3.heap.size w3 wc))
  case first =>
    as_aux_lemma =>
      have HEr : Hid _ := err_same E1 w14 (HG.out _ B14.out)
      cases R2
      all_goals
        go_wp2_with fail
        refine Calls.mono HEr.out ?_
        rintro e w15 ⟨rfl, hb⟩
        have M15 : Hid (MmsIs w15 u14 R1) := M14.out.below hb
        have M15v : Hid (MmsIs w15 V13 R1) := M14v.out.below hb
        have B15 : Hid (Below w3.heap.size w3 w15) := B14.out.trans (hb.mono B14.out.size)
        clear hb
        go_wp2_with fail
        refine (sameMm_c u14 V13 R1 _ M15.out M15v.out).mono ?_
        rintro e w16 ⟨rfl, hb⟩
        have B16 : Hid (Below w3.heap.size w3 w16) := B15.out.trans (hb.mono B15.out.size)
        clear hb
        go_wp2_with fail
        go_meet
        exact ⟨_, rfl, rfl, B16⟩
  case rest =>
  as_aux_lemma =>
  obtain ⟨w16, h⟩ : ∃ x, x = wc := ⟨_, rfl⟩
  subst h
  obtain ⟨cb, rfl, rfl, B16⟩ := hcut
  clear B14 M14 M14v
  go_upto_if 99 with fail
  go_cut [11] (fun v11 wc => ∃ f1 : Int, v11 = .int .i64 f1 ∧ Hid (f1 = E2) ∧ Hid (Below w3.heap.size w3 wc))
  case first =>
    as_aux_lemma =>
      have HBe := bothV_e HBo.out
      rw [HGv.out] at HBe
      by_cases h0 : g = 0
      · have h0b : (g == 0) = true := by simp [h0]
        have HEq : Hid (badV m = E2) := (HBe.1 h0).symm
        clear h0 HBe
        go_wp2_with fail
        refine (rView_c vm m E2 _ (HVm.out _ B16.out) HEq.out).mono ?_
        rintro e w17 ⟨rfl, hb⟩
        have B17 : Hid (Below w3.heap.size w3 w17) := B16.out.trans (hb.mono B16.out.size)
        clear hb
        go_wp2_with fail
        go_meet
        case rel => exact ⟨_, rfl, rfl, B17⟩
      · have h0b : (g == 0) = false := by simpa using h0
        have HEq : Hid (g = E2) := (HBe.2 h0).symm
        clear h0 HBe
        go_wp2_with fail
        go_meet
        case rel => exact ⟨_, rfl, HEq, B16⟩
  case rest =>
  as_aux_lemma =>
  obtain ⟨w17, h⟩ : ∃ x, x = wc := ⟨_, rfl⟩
  subst h
  obtain ⟨f1, rfl, HF1, B17⟩ := hcut
  rw [HF1.out]
  clear HF1 B16
  go_upto_if 103 with fail
  go_cut [19] (fun v19 wc => ∃ V : Value, v19 = V ∧ Hid (MmsIs wc V R3) ∧ Hid (Below w3.heap.size w3 wc))
  case first =>
    by_cases h0 : E2 = 0
    · have h0b : (E2 == 0) = true := by simp [h0]
      have HZ := bothV_zero HBo.out h0
      have HRl : Hid (GoodV l) := HZ.1
      have HRm : Hid (GoodV m) := HZ.2.1
      have HR3 : Hid (bothM l m = R3) := HZ.2.2
      clear h0 HZ
      have HMl : Hid (MmsIs w17 vl l) := HVl.out _ B17.out
      obtain ⟨hlen, pm, cm, hvm, hrow⟩ := HVm.out _ B17.out
      have HRow : Hid (m ≠ [] → ∃ b o, pm = some ⟨b, o, none⟩ ∧ b < w17.heap.size ∧ ∀ j (h : j < m.length), MmAt w17 b (o + j * 3) m[j]) := hrow
      clear hrow
      obtain ⟨nm, HNm⟩ : ∃ n, Hid (m.length = n) := ⟨_, rfl⟩
      have hn6 : nm ≤ 6 := by rw [← HNm.out]; exact good_len HRm.out
      rw [HNm.out] at hvm
      subst hvm
      rw [h0b]
      go_wp2_with fail
      go_loopw [19, 23] (fun s19 s23 wr => ∃ (j : Nat) (cur : List Mm) (v19 : Value), s19 = v19 ∧ j ≤ nm ∧ s23 = .int .i64 j ∧ Hid (MmsIs wr v19 cur) ∧ Hid (GoodV cur) ∧ Hid (R3 = bothM cur (m.drop j)) ∧ Hid (Below w17.heap.size w17 wr)) (fun _ i _ => nm - (intOf i).toNat)
      case atStart => exact ⟨0, l, _, rfl, Nat.zero_le _, rfl, HMl, HRl, by rw [List.drop_zero]; exact HR3.out.symm, Below.refl _ _⟩
      case round =>
        obtain ⟨j, cur, v19, hs19, hj, rfl, HMc, HGc, HE, HB⟩ := hrel
        have hs19' := hs19.symm
        clear hs19
        subst hs19'
        by_cases hlt : j < nm
        · have hjl : j < m.length := by rw [HNm.out]; exact hlt
          obtain ⟨bb, o, rfl, hbw, hat⟩ := HRow.out (fun h => by simp [h] at hjl)
          have HAt : Hid (MmAt wr bb (o + j * 3) m[j]) := (hat j hjl).of_block (HB.out.block bb hbw)
          clear hat
          have HOk : Hid (m[j].ok = true) := HRm.out.2 _ (List.getElem_mem _)
          have HStep : Hid (R3 = bothM (addM m[j] cur) (m.drop (j + 1))) := HE.out.trans (both_drop hjl cur)
          obtain ⟨x, HX⟩ : ∃ x, Hid (m[j] = x) := ⟨m[j], show m[j] = m[j] from rfl⟩
          rw [HX.out] at HAt HOk HStep
          have HG1 : Hid (GoodV (addM x cur)) := add_good HGc.out HOk.out
          obtain ⟨P1, HP1⟩ : ∃ P, Hid (addM x cur = P) := ⟨_, rfl⟩
          obtain ⟨P2, HP2⟩ : ∃ P, Hid (isM x cur = P) := ⟨_, rfl⟩
          rw [HP1.out] at HStep HG1
          obtain ⟨k, f, s⟩ := x
          obtain ⟨c0, c1, c2⟩ := HAt.out
          dsimp only at c0 c1 c2
          have hlti : (j : Int) < (nm : Int) := by omega
          go_wp2_with fail
          refine (rAdd_c v19 cur k f s P1 P2 _ HMc.out HGc.out.1 (by have := good_len HGc.out; omega) HP1.out HP2.out).mono ?_
          rintro e w18 ⟨v18, rfl, hm, hb⟩
          have M18 : Hid (MmsIs w18 v18 P1) := hm
          have B18 : Hid (Below w17.heap.size w17 w18) := HB.out.trans (hb.mono HB.out.size)
          clear hm hb c0 c1 c2
          go_wp2_with fail
          go_roundw
          case rel => exact ⟨j + 1, P1, _, rfl, by omega, by go_num, M18, HG1, HStep, B18⟩
          case measure => simp [intOf]; omega
        · obtain rfl : j = nm := by omega
          have HR0 : Hid (R3 = cur) := by
            show R3 = _
            rw [HE.out, List.drop_eq_nil_of_le (by rw [HNm.out]; exact Nat.le_refl _)]
            rfl
          go_wp2_with fail
          go_meet
          case rel => exact ⟨_, rfl, by show MmsIs _ _ R3; rw [HR0.out]; exact HMc.out, B17.out.trans (HB.out.mono B17.out.size)⟩
    · have h0b : (E2 == 0) = false := by simpa using h0
      have HR3 : Hid (R3 = []) := bothV_not HBo.out h0
      clear h0
      go_wp2_with fail
      go_meet
      case rel => exact ⟨_, rfl, by show MmsIs _ _ R3; rw [HR3.out]; exact MmsIs.nil _, B17⟩
  case rest =>
  as_aux_lemma =>
  obtain ⟨w18, h⟩ : ∃ x, x = wc := ⟨_, rfl⟩
  subst h
  obtain ⟨V18, hV, M18, B18⟩ := hcut
  have hV' := hV.symm
  clear hV B17
  subst hV'
  go_wp2_with fail
  refine (both_o HBo.out vl vm _ (HVl.out _ B18.out) (HVm.out _ B18.out)).mono ?_
  rintro e w19 ⟨u19, rfl, ho, hb⟩
  have M19 : Hid (MmsIs w19 u19 R3) := ho.mms
  have M19v : Hid (MmsIs w19 V18 R3) := M18.out.below hb
  have B19 : Hid (Below w3.heap.size w3 w19) := B18.out.trans (hb.mono B18.out.size)
  clear ho hb M18 B18
  go_wp2_with fail
  refine (err_same E2 _ (HG.out _ B19.out)).mono ?_
  rintro e w20 ⟨rfl, hb⟩
  have M20 : Hid (MmsIs w20 u19 R3) := M19.out.below hb
  have M20v : Hid (MmsIs w20 V18 R3) := M19v.out.below hb
  have B20 : Hid (Below w3.heap.size w3 w20) := B19.out.trans (hb.mono B19.out.size)
  clear hb M19 M19v B19
  go_wp2_with fail
  refine (sameMm_c u19 V18 R3 _ M20.out M20v.out).mono ?_
  rintro e w21 ⟨rfl, hb⟩
  have B21 : Hid (Below w3.heap.size w3 w21) := B20.out.trans (hb.mono B20.out.size)
  clear hb M20 M20v B20
  go_upto_region 36 with fail
  go_cut [144] (fun c wc => ∃ cb : Bool, c = .bool cb ∧ Hid (if cb = true then g = 0 ∧ inR node 0 5 = false else g = 0 → inR node 0 5 = true) ∧ Hid (Below w3.heap.size w3 wc))
  case first =>
    as_aux_lemma =>
      by_cases h0 : g = 0
      · have h0b : (g == 0) = true := by simp [h0]
        have HZ : Hid (g = 0) := h0
        clear h0
        by_cases h1 : node < 0
        · have HEq : Hid (g = 0 ∧ inR node 0 5 = false) := ⟨HZ.out, by simp [inR]; omega⟩
          go_wp2_with fail
          go_meet
          case rel => exact ⟨true, rfl, HEq.out, B21⟩
        by_cases h5 : 5 < node
        · have HEq : Hid (g = 0 ∧ inR node 0 5 = false) := ⟨HZ.out, by simp [inR]; omega⟩
          go_wp2_with fail
          go_meet
          case rel => exact ⟨true, rfl, HEq.out, B21⟩
        have HEq : Hid (g = 0 → inR node 0 5 = true) := fun _ => by simp [inR]; omega
        go_wp2_with fail
        go_meet
        case rel => exact ⟨false, rfl, HEq.out, B21⟩
      · have h0b : (g == 0) = false := by simpa using h0
        have HEq : Hid (g = 0 → inR node 0 5 = true) := fun h => absurd h h0
        clear h0
        go_wp2_with fail
        go_meet
        case rel => exact ⟨false, rfl, HEq.out, B21⟩
  case rest =>
  as_aux_lemma =>
  obtain ⟨w22, h⟩ : ∃ x, x = wc := ⟨_, rfl⟩
  subst h
  obtain ⟨cb, rfl, HCb, B22⟩ := hcut
  clear B21
  obtain ⟨hA1, hA2, hA3⟩ := ansV_e HAn.out
  have HA1 : Hid (badAns l node = E3) := hA1
  have HA2 : Hid (E3 ≠ 0 → R4 = []) := hA2
  have HA3 : Hid (E3 = 0 → R4 = ansM l node) := hA3
  clear hA1 hA2 hA3
  go_upto_if 144 with fail
  go_cut [11, 19] (fun v11 v19 wc => ∃ (f1 : Int) (V : Value), v11 = .int .i64 f1 ∧ v19 = V ∧ Hid (f1 = E3) ∧ Hid (MmsIs wc V R4) ∧ Hid (Below w3.heap.size w3 wc))
  case first =>
    cases cb
    · have HCn : Hid (g = 0 → inR node 0 5 = true) := by
        have := HCb.out
        rw [if_neg (by simp)] at this
        exact this
      clear HCb
      by_cases h0 : g = 0
      · have h0b : (g == 0) = true := by simp [h0]
        have HZl : Hid (badV l = 0) := HGv.out.trans h0
        have HRl : Hid (GoodV l) := badV_good (HGv.out.trans h0)
        have HEr : Hid (errA (getM l node) = E3) := (badAns_get (HGv.out.trans h0) (HCn.out h0)).symm.trans HA1.out
        clear h0 HCn
        obtain ⟨hlen, pl, cl, hvl, hrow⟩ := HVl.out _ B22.out
        have HRow : Hid (l ≠ [] → ∃ b o, pl = some ⟨b, o, none⟩ ∧ b < w22.heap.size ∧ ∀ j (h : j < l.length), MmAt w22 b (o + j * 3) l[j]) := hrow
        clear hrow
        obtain ⟨nl, HNl⟩ : ∃ n, Hid (l.length = n) := ⟨_, rfl⟩
        have hn6 : nl ≤ 6 := by rw [← HNl.out]; exact good_len HRl.out
        rw [HNl.out] at hvl
        subst hvl
        go_wp2_with fail
        go_loopw [11, 19, 25, 26] (fun s11 s19 s25 s26 wr => ∃ (j : Nat) (f1 : Int) (v19 v26 : Value), s11 = .int .i64 f1 ∧ s19 = v19 ∧ j ≤ nl ∧ s25 = .int .i64 j ∧ s26 = v26 ∧ Hid (f1 = errA (getM (l.take j) node)) ∧ Hid (OwnM w22.heap.size wr v19 ((l.take j).map (upW node))) ∧ Hid (Below w22.heap.size w22 wr)) (fun _ _ i _ _ => nl - (intOf i).toNat)
        case atStart => exact ⟨0, 5, _, _, rfl, rfl, Nat.zero_le _, rfl, rfl, rfl, OwnM.nil _ _, Below.refl _ _⟩
        case round =>
          obtain ⟨j, f1, v19, v26, rfl, hs19, hj, rfl, hs26, HF, HO, HB⟩ := hrel
          have hs19' := hs19.symm
          clear hs19
          subst hs19'
          have hs26' := hs26.symm
          clear hs26
          subst hs26'
          by_cases hlt : j < nl
          · have hjl : j < l.length := by rw [HNl.out]; exact hlt
            obtain ⟨bb, o, rfl, hbw, hat⟩ := HRow.out (fun h => by simp [h] at hjl)
            have HAt : Hid (MmAt wr bb (o + j * 3) l[j]) := (hat j hjl).of_block (HB.out.block bb hbw)
            clear hat
            have HOk : Hid (l[j].ok = true) := HRl.out.2 _ (List.getElem_mem _)
            obtain ⟨x, HX⟩ : ∃ x, Hid (l[j] = x) := ⟨l[j], show l[j] = l[j] from rfl⟩
            rw [HX.out] at HAt HOk
            have HStep : Hid ((l.take (j + 1)).map (upW node) = (l.take j).map (upW node) ++ [upW node x]) := upW_step hjl HX.out
            have HHit : Hid (x.n = node → errA (getM (l.take (j + 1)) node) = errA (some x)) := fun h => errA_hit HRl.out.1 hjl HX.out h
            have HMiss : Hid (x.n ≠ node → errA (getM (l.take (j + 1)) node) = errA (getM (l.take j) node)) := fun h => errA_miss hjl HX.out h
            obtain ⟨k, f, s⟩ := x
            have hok := (Mm.ok_iff _).1 HOk.out
            dsimp only at hok HHit HMiss
            have hf0 : 0 ≤ f := hok.2.1.1
            have hf1 : f ≤ 100 := hok.2.1.2
            clear hok
            obtain ⟨c0, c1, c2⟩ := HAt.out
            dsimp only at c0 c1 c2
            have hlti : (j : Int) < (nl : Int) := by omega
            have hws := HB.out.size
            have hbr : bb < wr.heap.size := by omega
            go_upto_region 44 with fail
            obtain ⟨wy, HWy⟩ : ∃ x, x = wr.alloc (.cells #[.int .i64 k, .int .i64 f, .int .i64 s] 57) := ⟨_, rfl⟩
            rw [← HWy]
            have BY : Hid (Below wr.heap.size wr wy) := by rw [HWy]; exact (Below.refl _ _).alloc (Nat.le_refl _) _
            have XY : Hid (BoxM wy wr.heap.size k f s) := by rw [HWy]; exact boxM_new _ _ _ _ _ rfl
            have SY : Hid (wr.heap.size + 1 ≤ wy.heap.size) := by rw [HWy]; show _ ≤ _; simp
            clear HWy c0 c1 c2
            obtain ⟨d0, d1, d2, df⟩ := XY.out
            go_upto_if 160 with fail
            go_cut [11] (fun v11 wc => ∃ f2 : Int, v11 = .int .i64 f2 ∧ Hid (f2 = errA (getM (l.take (j + 1)) node)) ∧ Hid (∃ z0 z1 z2, upW node ⟨k, f, s⟩ = ⟨z0, z1, z2⟩ ∧ BoxM wc wr.heap.size z0 z1 z2) ∧ Hid (Below wr.heap.size wr wc))
            case first =>
              as_aux_lemma =>
                by_cases hn : k = node
                · have hnb : (k == node) = true := by simp [hn]
                  have HHt : Hid (errA (getM (l.take (j + 1)) node) = errA (some ⟨k, f, s⟩)) := HHit.out hn
                  have HNn : Hid (k = node) := hn
                  clear hn
                  by_cases hs : s = 0
                  · have hsb : (s != 0) = false := by simp [hs]
                    have HU : Hid (upW node ⟨k, f, s⟩ = ⟨k, f, s⟩) := upW_alive (x := ⟨k, f, s⟩) HNn.out hs
                    have HF2 : Hid (0 = errA (getM (l.take (j + 1)) node)) := (HHt.out.trans (errA_fine (.inl hs))).symm
                    clear hs
                    go_wp2_with fail
                    go_meet
                    case rel => exact ⟨_, rfl, HF2, ⟨_, _, _, HU.out, XY.out⟩, BY⟩
                  · have hsb : (s != 0) = true := by simpa using hs
                    by_cases hf : f = 100
                    · have hfb : (f == 100) = true := by simp [hf]
                      have HU : Hid (upW node ⟨k, f, s⟩ = ⟨k, f, s⟩) := upW_full (x := ⟨k, f, s⟩) HNn.out hs hf
                      have HF2 : Hid (4 = errA (getM (l.take (j + 1)) node)) := (HHt.out.trans (errA_full (x := ⟨k, f, s⟩) hs hf)).symm
                      clear hs hf
                      go_wp2_with fail
                      go_meet
                      case rel => exact ⟨_, rfl, HF2, ⟨_, _, _, HU.out, XY.out⟩, BY⟩
                    · have hfb : (f == 100) = false := by simpa using hf
                      have HU : Hid (upW node ⟨k, f, s⟩ = ⟨k, f + 1, 0⟩) := upW_up (x := ⟨k, f, s⟩) HNn.out hs hf
                      have HF2 : Hid (0 = errA (getM (l.take (j + 1)) node)) := (HHt.out.trans (errA_fine (.inr hf))).symm
                      have hwr : IntKind.i64.wrap (f + 1) = f + 1 := by rw [IntKind.wrap_i64]; omega
                      clear hs hf
                      go_wp2_with fail
                      go_meet
                      case rel =>
                        refine ⟨_, rfl, HF2, ⟨k, f + 1, 0, HU.out, ?_⟩, (BY.out.setCell (Nat.le_refl _) _).setCell (Nat.le_refl _) _⟩
                        refine ⟨?_, ?_, ?_, fun j => by simp only [World.frozen?_setCell]; exact XY.out.fz j⟩
                        · rw [World.cell?_setCell_other _ _ _ _ (by simp), World.cell?_setCell_other _ _ _ _ (by simp), XY.out.c0]
                        · exact World.cell?_setCell_same _ _ _ ((World.cell?_setCell_other _ _ _ _ (by simp)).trans XY.out.c1)
                        · rw [World.cell?_setCell_other _ _ _ _ (by simp)]
                          exact World.cell?_setCell_same _ _ _ XY.out.c2
                · have hnb : (k == node) = false := by simpa using hn
                  have HU : Hid (upW node ⟨k, f, s⟩ = ⟨k, f, s⟩) := upW_other (x := ⟨k, f, s⟩) hn
                  have HF2 : Hid (f1 = errA (getM (l.take (j + 1)) node)) := HF.out.trans (HMiss.out hn).symm
                  clear hn
                  go_wp2_with fail
                  go_meet
                  case rel => exact ⟨_, rfl, HF2, ⟨_, _, _, HU.out, XY.out⟩, BY⟩
            case rest =>
            obtain ⟨wz, h⟩ : ∃ x, x = wc := ⟨_, rfl⟩
            subst h
            obtain ⟨f2, rfl, HF2, HZ, BZ⟩ := hcut
            obtain ⟨z0, z1, z2, hU, hX⟩ := HZ.out
            have HXz : Hid (BoxM wz wr.heap.size z0 z1 z2) := hX
            have HSt : Hid ((l.take (j + 1)).map (upW node) = (l.take j).map (upW node) ++ [⟨z0, z1, z2⟩]) := by rw [← hU]; exact HStep.out
            clear hU hX HZ d0 d1 d2 df XY BY SY HStep HHit HMiss HF
            have HOz : Hid (OwnM w22.heap.size wz v19 ((l.take j).map (upW node))) := HO.out.below BZ.out
            have HBz : Hid (Below w22.heap.size w22 wz) := HB.out.trans (BZ.out.mono HB.out.size)
            obtain ⟨out, HOut⟩ : ∃ x, Hid ((l.take j).map (upW node) = x) := ⟨_, rfl⟩
            have HLn : Hid (out.length ≤ 1000) := by
              show _ ≤ _
              rw [← HOut.out]
              simp
              omega
            rw [HOut.out] at HOz HSt
            clear HO HB
            obtain ⟨d0, d1, d2, df⟩ := HXz.out
            have HOa : Hid (OwnM w22.heap.size (wz.alloc (.cells #[.int .i64 z0, .int .i64 z1, .int .i64 z2] 57)) v19 out) := HOz.out.below ((Below.refl _ _).alloc (Nat.le_refl _) _)
            have HVa : Hid ((wz.alloc (.cells #[.int .i64 z0, .int .i64 z1, .int .i64 z2] 57)).heap[wz.heap.size]? = some (.cells (Mm.cells ⟨z0, z1, z2⟩).toArray 57 (0, 0))) := alloc_at _ _ _ rfl
            have HSa : Hid (w22.heap.size ≤ (wz.alloc (.cells #[.int .i64 z0, .int .i64 z1, .int .i64 z2] 57)).heap.size) := show _ ≤ _ from (by have := HBz.out.size; simp; omega)
            go_wp2_with (at_builtin; refine wp_appM _ rfl _ _ rfl w22.heap.size _ out ⟨z0, z1, z2⟩ rfl HOa.out _ rfl HVa.out (Nat.le_trans HLn.out (by omega)) HSa.out ?_)
            intro va wa hown hgrow
            have HOp : Hid (OwnM w22.heap.size wa va ((l.take (j + 1)).map (upW node))) := by rw [HSt.out]; exact hown
            have HBp : Hid (Below w22.heap.size w22 wa) := below_grown (HBz.out.alloc HBz.out.size _) (Nat.le_refl _) hgrow.out (fun c hc => HOz.out.from c hc)
            clear hown hgrow HOa HVa HSa d0 d1 d2 df
            go_wp2_with fail
            go_roundw
            case rel => exact ⟨j + 1, f2, _, _, rfl, rfl, by omega, by go_num, rfl, HF2, HOp, HBp⟩
            case measure => simp [intOf]; omega
          · obtain rfl : j = nl := by omega
            have HT : Hid (l.take j = l) := List.take_of_length_le (by rw [HNl.out]; exact Nat.le_refl _)
            have HFe : Hid (f1 = E3) := by
              show f1 = E3
              rw [HF.out, HT.out]
              exact HEr.out
            have HBw : Hid (Below w3.heap.size w3 wr) := B22.out.trans (HB.out.mono B22.out.size)
            have HOe : Hid (f1 = 0 → MmsIs wr v19 R4) := fun h => by
              rw [HA3.out (HFe.out.symm.trans h), ← upW_all HRl.out.1 (HEr.out.trans (HFe.out.symm.trans h))]
              have := HO.out.mms
              rw [HT.out] at this
              exact this
            clear HF HO HB
            by_cases h1 : f1 = 0
            · have h1b : (f1 != 0) = false := by simp [h1]
              have HMm : Hid (MmsIs wr v19 R4) := HOe.out h1
              clear h1
              go_wp2_with fail
              go_meet
              case rel => exact ⟨_, _, rfl, rfl, HFe, HMm, HBw⟩
            · have h1b : (f1 != 0) = true := by simpa using h1
              have HRe : Hid (R4 = []) := HA2.out (fun h => h1 (HFe.out.trans h))
              clear h1
              go_wp2_with fail
              go_meet
              case rel => exact ⟨_, _, rfl, rfl, HFe, by show MmsIs _ _ R4; rw [HRe.out]; exact MmsIs.nil _, HBw⟩
      · have h0b : (g == 0) = false := by simpa using h0
        have HEq : Hid (g = E3) := by
          show g = E3
          rw [← HA1.out, badAns_view (by rw [HGv.out]; exact h0), HGv.out]
        have HRe : Hid (R4 = []) := HA2.out (by rw [← HEq.out]; exact h0)
        clear h0
        go_wp2_with fail
        go_meet
        case rel => exact ⟨_, _, rfl, rfl, HEq, by show MmsIs _ _ R4; rw [HRe.out]; exact MmsIs.nil _, B22⟩
    · have HCn : Hid (g = 0 ∧ inR node 0 5 = false) := by
        have := HCb.out
        rw [if_pos rfl] at this
        exact this
      have HEq : Hid (1 = E3) := by
        show 1 = E3
        rw [← HA1.out, badAns_node (HGv.out.trans HCn.out.1) HCn.out.2]
      have HRe : Hid (R4 = []) := HA2.out (by rw [← HEq.out]; omega)
      go_wp2_with fail
      go_meet
      case rel => exact ⟨_, _, rfl, rfl, HEq, by show MmsIs _ _ R4; rw [HRe.out]; exact MmsIs.nil _, B22⟩
  case rest =>
  as_aux_lemma =>
  obtain ⟨w23, h⟩ : ∃ x, x = wc := ⟨_, rfl⟩
  subst h
  obtain ⟨f1, V23, rfl, hV, HF1, M23, B23⟩ := hcut
  have hV' := hV.symm
  clear hV B22 HCb
  subst hV'
  rw [HF1.out]
  clear HF1
  go_wp2_with fail
  refine (answer_o HAn.out vl _ (HVl.out _ B23.out)).mono ?_
  rintro e w24 ⟨u24, rfl, ho, hb⟩
  have M24 : Hid (MmsIs w24 u24 R4) := ho.mms
  have M24v : Hid (MmsIs w24 V23 R4) := M23.out.below hb
  have B24 : Hid (Below w3.heap.size w3 w24) := B23.out.trans (hb.mono B23.out.size)
  clear ho hb M23 B23
  go_wp2_with fail
  refine (err_same E3 _ (HG.out _ B24.out)).mono ?_
  rintro e w25 ⟨rfl, hb⟩
  have M25 : Hid (MmsIs w25 u24 R4) := M24.out.below hb
  have M25v : Hid (MmsIs w25 V23 R4) := M24v.out.below hb
  have B25 : Hid (Below w3.heap.size w3 w25) := B24.out.trans (hb.mono B24.out.size)
  clear hb M24 M24v B24
  go_wp2_with fail
  refine (sameMm_c u24 V23 R4 _ M25.out M25v.out).mono ?_
  rintro e w26 ⟨rfl, hb⟩
  have B26 : Hid (Below w3.heap.size w3 w26) := B25.out.trans (hb.mono B25.out.size)
  clear hb M25 M25v B25
  go_wp2_with fail
  go_ret
  exact ⟨rfl, B0.out.trans (B26.out.mono B0.out.size)⟩
end Go.Proofs.YtpelbmhhppcmeaeDoor
