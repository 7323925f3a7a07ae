/-
  RingTells: points of any nodes, and whose any key is by any points, are the document's.
-/
import Derived.Test.YtlpfdmmilbdcbaeDoorRTe
import Derived.Test.YtlpfdmmilbdcbaeDoorRgY
namespace Go.Proofs.YtlpfdmmilbdcbaeDoor
set_option linter.unusedVariables false
set_option linter.unusedSimpArgs false
open Go.RowKit

theorem badPts_nodes {nodes : List Int} {each : Int} (h : badNodes nodes ≠ 0) : badPts nodes each = badNodes nodes := by unfold badPts; rw [if_pos h]
theorem badPts_each {nodes : List Int} {each : Int} (h : badNodes nodes = 0) (he : each < 1 ∨ 8 < each) : badPts nodes each = 1 := by
  unfold badPts
  rw [if_neg (by simp [h]), if_pos]
  simp [inR]
  omega
theorem badPts_none {nodes : List Int} {each : Int} (h : badNodes nodes = 0) (h1 : ¬ each < 1) (h8 : ¬ 8 < each) : badPts nodes each = 0 := by
  unfold badPts
  rw [if_neg (by simp [h]), if_neg]
  simp [inR]
  omega
theorem badFind_shape {l : List Pt} {key : Int} (h : rightP l = false) : badFind l key = 3 := by unfold badFind; rw [if_pos h]
theorem badFind_key {l : List Pt} {key : Int} (h : rightP l = true) (hk : inR key 0 7 = false) : badFind l key = 1 := by unfold badFind; rw [if_neg (by rw [h]; simp), if_pos hk]
theorem badFind_none {l : List Pt} {key : Int} (h : rightP l = true) (hk : inR key 0 7 = true) : badFind l key = 0 := by unfold badFind; rw [if_neg (by rw [h]; simp), if_neg (by rw [hk]; simp)]
theorem badOwn_find {l : List Pt} {key many : Int} (h : badFind l key ≠ 0) : badOwn l key many = badFind l key := by unfold badOwn; rw [if_pos h]
theorem badOwn_many {l : List Pt} {key many : Int} (h : badFind l key = 0) (hm : many < 1 ∨ 6 < many) : badOwn l key many = 1 := by
  unfold badOwn
  rw [if_neg (by simp [h]), if_pos]
  simp [inR]
  omega
theorem badOwn_few {l : List Pt} {key many : Int} (h : badFind l key = 0) (h1 : ¬ many < 1) (h6 : ¬ 6 < many) (hf : ((allO l key).length : Int) < many) : badOwn l key many = 5 := by
  unfold badOwn
  rw [if_neg (by simp [h]), if_neg, if_pos hf]
  simp [inR]
  omega
theorem badOwn_none {l : List Pt} {key many : Int} (h : badFind l key = 0) (h1 : ¬ many < 1) (h6 : ¬ 6 < many) (hf : ¬ ((allO l key).length : Int) < many) : badOwn l key many = 0 := by
  unfold badOwn
  rw [if_neg (by simp [h]), if_neg, if_neg hf]
  simp [inR]
  omega
theorem IntsCap.nil (w : World) : IntsCap w (.slice none 0 0) [] := ⟨IntsIs.nil w, CapOk.nil⟩
theorem sameI_self (l : List Int) : (l == l) = true := by simp
set_option maxRecDepth 100000 in
set_option maxHeartbeats 16000000 in
theorem ringTells_w (vn vl : Value) (nodes : List Int) (l : List Pt) (each key many : Int) (w : World) (hn : IntsCap w vn nodes) (hl : PtsIs w vl l) (hT : Lib.TabIs Tryd.prog w powName .u64 Lib.pow10Tab) (hg : HasErr w) :
    Calls Tryd.prog 4 #[vn, .int .i64 each, vl, .int .i64 key, .int .i64 many] w fun e w' => e = .returned (.bool true) ∧ Below w.heap.size w w' := by
  have HTb : Hid (Lib.TabBelow Tryd.prog w.heap.size w powName .u64 Lib.pow10Tab) := Lib.tabBelow_of_tabIs hT
  have HG : Hid (∀ w', Below w.heap.size w w' → HasErr w') := fun w' hb => hg.below hg.lt hb
  have HVn : Hid (IntsCap w vn nodes) := hn
  have HVl : Hid (PtsIs w vl l) := hl
  clear hT hg hn hl
  obtain ⟨e0, HE0⟩ : ∃ x, Hid (badNodes nodes = x) := ⟨_, rfl⟩
  obtain ⟨E1, HE1⟩ : ∃ x, Hid (badPts nodes each = x) := ⟨_, rfl⟩
  obtain ⟨A, HA⟩ : ∃ x, Hid (ansP nodes each = x) := ⟨_, rfl⟩
  obtain ⟨rb, HRb⟩ : ∃ x, Hid (rightP l = x) := ⟨_, rfl⟩
  obtain ⟨kb, HKb⟩ : ∃ x, Hid (inR key 0 7 = x) := ⟨_, rfl⟩
  obtain ⟨E2, HE2⟩ : ∃ x, Hid (badFind l key = x) := ⟨_, rfl⟩
  obtain ⟨X, HX⟩ : ∃ x, Hid (ownerA l key = x) := ⟨_, rfl⟩
  obtain ⟨E3, HE3⟩ : ∃ x, Hid (badOwn l key many = x) := ⟨_, rfl⟩
  obtain ⟨O, HO⟩ : ∃ x, Hid (ansO l key many = x) := ⟨_, rfl⟩
  have HN0 : Hid (Calls Tryd.prog 13 #[vn] w fun e w' => e = .returned (.int .i64 e0) ∧ Below w.heap.size w w') := by rw [← HE0.out]; exact rNodes_c vn nodes w HVn.out.1 HVn.out.2
  have HRing : Hid (∀ W, Below w.heap.size w W → Calls Tryd.prog 17 #[vl] W fun e w' => e = .returned (.bool rb) ∧ Below W.heap.size W w') := fun W hW => by
    rw [← HRb.out]
    exact rRing_c vl l W (HVl.out.below hW)
  have HKey : Hid (∀ W, Calls Tryd.prog 18 #[.int .i64 key] W fun e w' => e = .returned (.bool kb) ∧ w' = W) := fun W => by
    rw [← HKb.out]
    exact keyR_c key W
  go_enter Tryd.func4, Tryd.ntmps4
  go_wp2_with fail
  refine Calls.mono HN0.out ?_
  rintro e w1 ⟨rfl, hb⟩
  have B1 : Hid (Below w.heap.size w w1) := hb
  clear hb HN0
  go_upto_region 2 with fail
  go_cut [35] (fun c wc => ∃ cb : Bool, c = .bool cb ∧ Hid (if cb = true then E1 = 1 else E1 = e0) ∧ Hid (Below w.heap.size w wc))
  case first =>
    by_cases h0 : e0 = 0
    · have h0b : (e0 == 0) = true := by simp [h0]
      have HZ : Hid (badNodes nodes = 0) := HE0.out.trans h0
      clear h0
      by_cases h1 : each < 1
      · have HEq : Hid (E1 = 1) := HE1.out.symm.trans (badPts_each HZ.out (.inl h1))
        go_wp2_with fail
        go_meet
        case rel => exact ⟨true, rfl, HEq.out, B1⟩
      by_cases h8 : 8 < each
      · have HEq : Hid (E1 = 1) := HE1.out.symm.trans (badPts_each HZ.out (.inr h8))
        go_wp2_with fail
        go_meet
        case rel => exact ⟨true, rfl, HEq.out, B1⟩
      have HEq : Hid (E1 = e0) := by
        show E1 = e0
        rw [← HE1.out, ← HE0.out, badPts_none HZ.out h1 h8, HZ.out]
      go_wp2_with fail
      go_meet
      case rel => exact ⟨false, rfl, HEq.out, B1⟩
    · have h0b : (e0 == 0) = false := by simpa using h0
      have HEq : Hid (E1 = e0) := by
        show E1 = e0
        rw [← HE1.out, ← HE0.out, badPts_nodes (by rw [HE0.out]; exact h0)]
      clear h0
      go_wp2_with fail
      go_meet
      case rel => exact ⟨false, rfl, HEq.out, B1⟩
  case rest =>
  obtain ⟨w1b, h⟩ : ∃ x, x = wc := ⟨_, rfl⟩
  subst h
  obtain ⟨cb, rfl, HCb, B1b⟩ := hcut
  clear B1
  go_upto_if 35 with fail
  go_cut [11] (fun v11 wc => ∃ f1 : Int, v11 = .int .i64 f1 ∧ Hid (f1 = E1) ∧ Hid (Below w.heap.size w wc))
  case first =>
    cases cb
    · have HEq : Hid (E1 = e0) := HCb.out
      go_wp2_with fail
      go_meet
      case rel => exact ⟨_, rfl, HEq.out.symm, B1b⟩
    · have HEq : Hid (E1 = 1) := HCb.out
      go_wp2_with fail
      go_meet
      case rel => exact ⟨_, rfl, HEq.out.symm, B1b⟩
  case rest =>
    obtain ⟨w2, h⟩ : ∃ x, x = wc := ⟨_, rfl⟩
    subst h
    obtain ⟨f1, rfl, HF1, B2⟩ := hcut
    rw [HF1.out]
    clear B1b HF1 HCb
    go_upto_if 37 with fail
    go_cut [12] (fun v12 wc => ∃ V, v12 = V ∧ Hid (PtsIs wc V A) ∧ Hid (Below w.heap.size w wc))
    case first =>
      by_cases h0 : E1 = 0
      · have h0b : (E1 == 0) = true := by simp [h0]
        have HZ : Hid (badPts nodes each = 0) := HE1.out.trans h0
        clear h0
        have HRP : Hid (Calls Tryd.prog 14 #[vn, .int .i64 each] w2 fun e w' => ∃ u, e = .returned u ∧ PtsIs w' u A ∧ Below w2.heap.size w2 w') := by
          obtain ⟨h1, k, hk, h2, h3⟩ := badPts_good HZ.out
          have eA : A = ptsL nodes k := by
            rw [← HA.out, ansP, if_pos HZ.out, hk, Int.toNat_natCast]
          rw [eA, hk]
          exact rPoints_c vn nodes k w2 (HVn.out.1.below B2.out) h3
        go_wp2_with fail
        refine Calls.mono HRP.out ?_
        rintro e w3 ⟨u, rfl, hp, hb⟩
        have P3 : Hid (PtsIs w3 u A) := hp
        have B3 : Hid (Below w.heap.size w w3) := B2.out.trans (hb.mono B2.out.size)
        clear hp hb HRP
        go_wp2_with fail
        go_meet
        case rel => exact ⟨u, rfl, P3, B3⟩
      · have h0b : (E1 == 0) = false := by simpa using h0
        have HZ : Hid (A = []) := by
          show A = []
          rw [← HA.out, ansP, if_neg (by rw [HE1.out]; exact h0)]
        clear h0
        go_wp2_with fail
        go_meet
        case rel => exact ⟨_, rfl, by show PtsIs _ _ A; rw [HZ.out]; exact PtsIs.nil _, B2⟩
    case rest =>
      obtain ⟨w3, h⟩ : ∃ x, x = wc := ⟨_, rfl⟩
      subst h
      obtain ⟨V12, hV, P3, B3⟩ := hcut
      have hV' := hV.symm
      clear hV B2
      subst hV'
      go_wp2_with fail
      refine (points_any HE1.out HA.out vn _ (HVn.out.below B3.out) (HTb.out _ B3.out)).mono ?_
      rintro e w4 ⟨u4, rfl, hp, hb⟩
      have P4 : Hid (PtsIs w4 u4 A) := hp
      have P4v : Hid (PtsIs w4 V12 A) := P3.out.below hb
      have B4 : Hid (Below w.heap.size w w4) := B3.out.trans (hb.mono B3.out.size)
      clear hp hb P3 B3
      go_wp2_with fail
      refine (err_same E1 _ (HG.out _ B4.out)).mono ?_
      rintro e w5 ⟨rfl, hb⟩
      have P5 : Hid (PtsIs w5 u4 A) := P4.out.below hb
      have P5v : Hid (PtsIs w5 V12 A) := P4v.out.below hb
      have B5 : Hid (Below w.heap.size w w5) := B4.out.trans (hb.mono B4.out.size)
      clear hb P4 P4v B4
      go_wp2_with fail
      refine (samePts_c u4 V12 A _ P5.out P5v.out).mono ?_
      rintro e w6 ⟨rfl, hb⟩
      have B6 : Hid (Below w.heap.size w w6) := B5.out.trans (hb.mono B5.out.size)
      clear hb P5 P5v B5
      go_wp2_with fail
      refine Calls.mono (HRing.out _ B6.out) ?_
      rintro e w7 ⟨rfl, hb⟩
      have B7 : Hid (Below w.heap.size w w7) := B6.out.trans (hb.mono B6.out.size)
      clear hb B6 HRing
      go_wp2_with fail
      refine Calls.mono (HKey.out _) ?_
      rintro e w8 ⟨rfl, hw⟩
      have hw' := hw.symm
      clear hw
      subst hw'
      go_upto_if 60 with fail
      go_cut [11] (fun v11 wc => ∃ f1 : Int, v11 = .int .i64 f1 ∧ Hid (f1 = E2) ∧ Hid (Below w.heap.size w wc))
      case first =>
        cases rb
        · have HEq : Hid (3 = E2) := (badFind_shape HRb.out).symm.trans HE2.out
          go_wp2_with fail
          go_meet
          case rel => exact ⟨_, rfl, HEq, B7⟩
        · cases kb
          · have HEq : Hid (1 = E2) := (badFind_key HRb.out HKb.out).symm.trans HE2.out
            go_wp2_with fail
            go_meet
            case rel => exact ⟨_, rfl, HEq, B7⟩
          · have HEq : Hid (0 = E2) := (badFind_none HRb.out HKb.out).symm.trans HE2.out
            go_wp2_with fail
            go_meet
            case rel => exact ⟨_, rfl, HEq, B7⟩
      case rest =>
      obtain ⟨w8, h⟩ : ∃ x, x = wc := ⟨_, rfl⟩
      subst h
      obtain ⟨f1, rfl, HF1, B8⟩ := hcut
      rw [HF1.out]
      clear B7 HF1 HKey
      go_upto_if 64 with fail
      go_cut [18, 19] (fun v18 v19 wc => ∃ (V : Value) (x19 : Int), v18 = V ∧ v19 = .int .i64 x19 ∧ Hid (x19 = X) ∧ Hid (E2 = 0 → OwnI w.heap.size wc V (allO l key)) ∧ Hid (Below w.heap.size w wc))
      case first =>
        by_cases h0 : E2 = 0
        · have h0b : (E2 == 0) = true := by simp [h0]
          have HZ : Hid (badFind l key = 0) := HE2.out.trans h0
          clear h0
          have HOwn : Hid (Calls Tryd.prog 19 #[vl, .int .i64 key] w8 fun e w' => ∃ u, e = .returned u ∧ OwnI w8.heap.size w' u (allO l key) ∧ Below w8.heap.size w8 w') := by
            obtain ⟨h1, h2⟩ := badFind_zero HZ.out
            obtain ⟨k, rfl, hk⟩ := key_nat h2
            have ea : allO l (k : Int) = ownersL (keyT k) l := by unfold allO; rw [Int.toNat_natCast]
            rw [ea]
            exact rOwners_c vl l k w8 (HVl.out.below B8.out) h1 hk
          obtain ⟨y, r, HAl, HyX⟩ : ∃ y r, Hid (allO l key = y :: r) ∧ Hid (y = X) := by
            obtain ⟨y, r, h1, h2⟩ := allO_head (key := key) (badFind_zero HZ.out).1
            refine ⟨y, r, h1, ?_⟩
            show y = X
            rw [← HX.out, ownerA, if_pos HZ.out, h2]
            rfl
          go_wp2_with fail
          refine Calls.mono HOwn.out ?_
          rintro e w9 ⟨u, rfl, ho, hb⟩
          have O9 : Hid (OwnI w.heap.size w9 u (allO l key)) := ho.base B8.out.size
          have B9 : Hid (Below w.heap.size w w9) := B8.out.trans (hb.mono B8.out.size)
          clear ho hb HOwn
          obtain ⟨_, pu, cu, hu, hrow⟩ := O9.out.ints
          rw [HAl.out] at hu hrow
          obtain ⟨bu, ou, rfl, hbu, hcu⟩ := hrow (by simp)
          have c0 := hcu 0 (by simp)
          rw [Nat.add_zero, List.getElem_cons_zero] at c0
          rw [List.length_cons] at hu
          have hpos : (0 : Int) < ((r.length + 1 : Nat) : Int) := by omega
          clear hrow hcu
          subst hu
          go_wp2_with fail
          go_meet
          case rel => exact ⟨_, y, rfl, rfl, HyX, fun _ => O9.out, B9⟩
        · have h0b : (E2 == 0) = false := by simpa using h0
          have HXz : Hid (0 = X) := by
            show 0 = X
            rw [← HX.out, ownerA, if_neg (by rw [HE2.out]; exact h0)]
          have HN0 : Hid (¬ E2 = 0) := h0
          clear h0
          go_wp2_with fail
          go_meet
          case rel => exact ⟨_, 0, rfl, rfl, HXz, fun h => absurd h HN0.out, B8⟩
      case rest =>
      obtain ⟨w9, h⟩ : ∃ x, x = wc := ⟨_, rfl⟩
      subst h
      obtain ⟨V18, x19, hV, rfl, HX19, HOw, B9⟩ := hcut
      have hV' := hV.symm
      clear hV B8
      subst hV'
      rw [HX19.out]
      clear HX19
      go_wp2_with fail
      refine (owner_any HE2.out HX.out vl _ (HVl.out.below B9.out) (HTb.out _ B9.out)).mono ?_
      rintro e w10 ⟨rfl, hb⟩
      have B10 : Hid (Below w.heap.size w w10) := B9.out.trans (hb.mono B9.out.size)
      have HOw10 : Hid (E2 = 0 → OwnI w.heap.size w10 V18 (allO l key)) := fun h => (HOw.out h).below hb
      clear hb B9 HOw
      go_wp2_with fail
      refine (err_same E2 _ (HG.out _ B10.out)).mono ?_
      rintro e w11 ⟨rfl, hb⟩
      have B11 : Hid (Below w.heap.size w w11) := B10.out.trans (hb.mono B10.out.size)
      have HOw11 : Hid (E2 = 0 → OwnI w.heap.size w11 V18 (allO l key)) := fun h => (HOw10.out h).below hb
      clear hb B10 HOw10
      go_upto_region 23 with fail
      go_cut [94] (fun c wc => ∃ cb : Bool, c = .bool cb ∧ Hid (if cb = true then E3 = 1 else (E2 ≠ 0 ∧ E3 = E2) ∨ (E2 = 0 ∧ ¬ many < 1 ∧ ¬ 6 < many)) ∧ Hid (E2 = 0 → OwnI w.heap.size wc V18 (allO l key)) ∧ Hid (Below w.heap.size w wc))
      case first =>
        by_cases h0 : E2 = 0
        · have h0b : (E2 == 0) = true := by simp [h0]
          have HZ : Hid (badFind l key = 0) := HE2.out.trans h0
          have HZ' : Hid (E2 = 0) := h0
          clear h0
          by_cases h1 : many < 1
          · have HEq : Hid (E3 = 1) := HE3.out.symm.trans (badOwn_many HZ.out (.inl h1))
            go_wp2_with fail
            go_meet
            case rel => exact ⟨true, rfl, HEq.out, HOw11, B11⟩
          by_cases h6 : 6 < many
          · have HEq : Hid (E3 = 1) := HE3.out.symm.trans (badOwn_many HZ.out (.inr h6))
            go_wp2_with fail
            go_meet
            case rel => exact ⟨true, rfl, HEq.out, HOw11, B11⟩
          have HEq : Hid ((E2 ≠ 0 ∧ E3 = E2) ∨ (E2 = 0 ∧ ¬ many < 1 ∧ ¬ 6 < many)) := .inr ⟨HZ'.out, h1, h6⟩
          go_wp2_with fail
          go_meet
          case rel => exact ⟨false, rfl, HEq.out, HOw11, B11⟩
        · have h0b : (E2 == 0) = false := by simpa using h0
          have HEq : Hid ((E2 ≠ 0 ∧ E3 = E2) ∨ (E2 = 0 ∧ ¬ many < 1 ∧ ¬ 6 < many)) := .inl ⟨h0, by rw [← HE3.out, badOwn_find (by rw [HE2.out]; exact h0)]; exact HE2.out⟩
          clear h0
          go_wp2_with fail
          go_meet
          case rel => exact ⟨false, rfl, HEq.out, HOw11, B11⟩
      case rest =>
      obtain ⟨w12, h⟩ : ∃ x, x = wc := ⟨_, rfl⟩
      subst h
      obtain ⟨cb, rfl, HCb, HOw12, B12⟩ := hcut
      clear HOw11 B11
      go_upto_if 94 with fail
      go_cut [11] (fun v11 wc => ∃ f1 : Int, v11 = .int .i64 f1 ∧ Hid (f1 = E3) ∧ Hid (E3 = 0 → E2 = 0 ∧ ¬ many < 1 ∧ ¬ ((allO l key).length : Int) < many) ∧ Hid (E2 = 0 → OwnI w.heap.size wc V18 (allO l key)) ∧ Hid (Below w.heap.size w wc))
      case first =>
        cases cb
        · rcases HCb.out with ⟨h0, h1⟩ | ⟨h0, h1, h6⟩
          · have h0b : (E2 == 0) = false := by simpa using h0
            have HEq : Hid (E2 = E3) := h1.symm
            have HNo : Hid (E3 = 0 → E2 = 0 ∧ ¬ many < 1 ∧ ¬ ((allO l key).length : Int) < many) := fun h => absurd (h1.symm.trans h) h0
            clear h0 h1
            go_wp2_with fail
            go_meet
            case rel => exact ⟨_, rfl, HEq, HNo, HOw12, B12⟩
          · have h0b : (E2 == 0) = true := by simp [h0]
            have HZ : Hid (badFind l key = 0) := HE2.out.trans h0
            have HZ' : Hid (E2 = 0) := h0
            have H1 : Hid (¬ many < 1) := h1
            have H6 : Hid (¬ 6 < many) := h6
            clear h0 h1 h6
            have HOl : Hid (OwnI w.heap.size w12 V18 (allO l key)) := HOw12.out HZ'.out
            obtain ⟨_, pu, cu, hu, _⟩ := HOl.out.ints
            subst hu
            have HFew : Hid (((allO l key).length : Int) < many → 5 = E3) := fun h => (badOwn_few HZ.out H1.out H6.out h).symm.trans HE3.out
            have HOk : Hid (¬ ((allO l key).length : Int) < many → 0 = E3) := fun h => (badOwn_none HZ.out H1.out H6.out h).symm.trans HE3.out
            obtain ⟨L, HL⟩ : ∃ L, Hid ((allO l key).length = L) := ⟨_, rfl⟩
            rw [HL.out] at HFew HOk
            rw [HL.out]
            by_cases hf : (L : Int) < many
            · have HEq : Hid (5 = E3) := HFew.out hf
              have HNo : Hid (E3 = 0 → E2 = 0 ∧ ¬ many < 1 ∧ ¬ (L : Int) < many) := fun h => absurd (HEq.out.trans h) (by omega)
              rw [← HL.out] at HNo
              go_wp2_with fail
              rw [← HL.out]
              go_meet
              case rel => exact ⟨_, rfl, HEq, HNo, fun _ => HOl.out, B12⟩
            · have HEq : Hid (E2 = E3) := HZ'.out.trans (HOk.out hf)
              have HNo : Hid (E3 = 0 → E2 = 0 ∧ ¬ many < 1 ∧ ¬ (L : Int) < many) := fun _ => ⟨HZ'.out, H1.out, hf⟩
              rw [← HL.out] at HNo
              go_wp2_with fail
              rw [← HL.out]
              go_meet
              case rel => exact ⟨_, rfl, HEq, HNo, fun _ => HOl.out, B12⟩
        · have HEq : Hid (1 = E3) := HCb.out.symm
          have HNo : Hid (E3 = 0 → E2 = 0 ∧ ¬ many < 1 ∧ ¬ ((allO l key).length : Int) < many) := fun h => absurd (HEq.out.trans h) (by omega)
          go_wp2_with fail
          go_meet
          case rel => exact ⟨_, rfl, HEq, HNo, HOw12, B12⟩
      case rest =>
      obtain ⟨w13, h⟩ : ∃ x, x = wc := ⟨_, rfl⟩
      subst h
      obtain ⟨f1, rfl, HF1, HGood, HOw13, B13⟩ := hcut
      rw [HF1.out]
      clear HF1 HCb HOw12 B12
      go_upto_if 104 with fail
      go_cut [18] (fun v18 wc => ∃ V : Value, v18 = V ∧ Hid (IntsIs wc V O) ∧ Hid (Below w.heap.size w wc))
      case first =>
        by_cases h0 : E3 = 0
        · have h0b : (E3 == 0) = true := by simp [h0]
          have h0n : (E3 != 0) = false := by simp [h0]
          obtain ⟨hz, h1, hf⟩ := HGood.out h0
          have HOl : Hid (OwnI w.heap.size w13 V18 (allO l key)) := HOw13.out hz
          obtain ⟨m, hm⟩ : ∃ m : Nat, many = (m : Int) := ⟨many.toNat, by omega⟩
          have HOe : Hid (O = (allO l key).take m) := by
            show O = _
            rw [← HO.out, ansO, if_pos (HE3.out.trans h0), hm, Int.toNat_natCast]
          have hml : m ≤ (allO l key).length := by omega
          clear h0 hz h1 hf
          obtain ⟨pu, cu, hu, hcl, hcm⟩ := HOl.out.cap
          have HIs := HOl.out.ints
          subst hu
          subst hm
          have HTk : Hid (∀ c', IntsIs w13 (.slice pu m c') O) := fun c' => by
            rw [HOe.out]
            exact IntsIs.take HIs hml (fun _ => rfl)
          clear HIs
          obtain ⟨L, HL⟩ : ∃ L, Hid ((allO l key).length = L) := ⟨_, rfl⟩
          rw [HL.out] at hml hcl ⊢
          have hmc : (m : Int) ≤ (cu : Int) := by omega
          unfold maxLen at hcm
          go_wp2_with fail
          go_meet
          case rel => exact ⟨_, rfl, HTk.out _, B13⟩
        · have h0b : (E3 == 0) = false := by simpa using h0
          have h0n : (E3 != 0) = true := by simpa using h0
          have HOe : Hid (O = []) := by
            show O = _
            rw [← HO.out, ansO, if_neg (by rw [HE3.out]; exact h0)]
          clear h0
          go_wp2_with fail
          go_meet
          case rel => exact ⟨_, rfl, by show IntsIs _ _ O; rw [HOe.out]; exact IntsIs.nil _, B13⟩
      case rest =>
      obtain ⟨w14, h⟩ : ∃ x, x = wc := ⟨_, rfl⟩
      subst h
      obtain ⟨V14, hV, I14, B14⟩ := hcut
      have hV' := hV.symm
      clear hV B13 HOw13 HGood
      subst hV'
      go_wp2_with fail
      refine (owners_any HE3.out HO.out vl _ (HVl.out.below B14.out) (HTb.out _ B14.out)).mono ?_
      rintro e w15 ⟨u15, rfl, hi, hb⟩
      have I15 : Hid (IntsIs w15 u15 O) := hi.1
      have I15v : Hid (IntsIs w15 V14 O) := I14.out.below hb
      have B15 : Hid (Below w.heap.size w w15) := B14.out.trans (hb.mono B14.out.size)
      clear hi hb I14 B14
      go_wp2_with fail
      refine (err_same E3 _ (HG.out _ B15.out)).mono ?_
      rintro e w16 ⟨rfl, hb⟩
      have I16 : Hid (IntsIs w16 u15 O) := I15.out.below hb
      have I16v : Hid (IntsIs w16 V14 O) := I15v.out.below hb
      have B16 : Hid (Below w.heap.size w w16) := B15.out.trans (hb.mono B15.out.size)
      clear hb I15 I15v B15
      have HInts : Hid (Calls Tryd.prog 22 #[u15, V14] w16 fun e w' => e = .returned (.bool true) ∧ Below w16.heap.size w16 w') := by
        have := ints_c u15 V14 O O w16 I16.out I16v.out
        rw [sameI_self] at this
        exact this
      go_wp2_with fail
      refine Calls.mono HInts.out ?_
      rintro e w17 ⟨rfl, hb⟩
      have B17 : Hid (Below w.heap.size w w17) := B16.out.trans (hb.mono B16.out.size)
      clear hb I16 I16v B16 HInts
      go_wp2_with fail
      go_ret
      exact ⟨rfl, B17.out⟩
end Go.Proofs.YtlpfdmmilbdcbaeDoor
