/-
  The walk of merelaw1.CacheTells.
-/
import Derived.Test.YtgncclahhejcdabDoorCT
namespace Go.Proofs.YtgncclahhejcdabDoor
set_option linter.unusedVariables false
set_option linter.unusedSimpArgs false
open Go.RowKit

set_option maxRecDepth 100000 in
set_option maxHeartbeats 8000000 in
theorem tells_walk (vl vm : Value) (l m : List En) (k vv a : Int) (g : Bool) (t : ByteArray) (key : Int) (w : World) (hrl : RowIs w vl l) (hrm : RowIs w vm m) (hg : HasErr w) :
    Calls Tryd.prog 3 #[vl, .agg #[.int .i64 k, .int .i64 vv, .int .i64 a, .bool g, .string t], .int .i64 key, vm] w fun e w' => e = .returned (.bool true) ∧ Below w.heap.size w w' := by
  have HG : Hid (HasErr w) := hg
  have hlt := hg.lt
  have HL : Hid (RowIs w vl l) := hrl
  have HMr : Hid (RowIs w vm m) := hrm
  clear hg hrl hrm
  obtain ⟨eL, HEL⟩ : ∃ n, Hid (badL l = n) := ⟨_, rfl⟩
  obtain ⟨bx, HBX⟩ : ∃ n, Hid (bad k vv a g t = n) := ⟨_, rfl⟩
  obtain ⟨A1, A2, A3, HAd⟩ : ∃ A1 A2 A3, Hid (cacheAdd l ⟨k, vv, a, g, t⟩ = (A1, A2, A3)) := ⟨_, _, _, rfl⟩
  obtain ⟨C0, C1, C2, C3, C4, C5, HCg⟩ : ∃ C0 C1 C2 C3 C4 C5, Hid (cacheGet l key = (⟨C0, C1, C2, C3, C4⟩, C5)) := ⟨_, _, _, _, _, _, rfl⟩
  obtain ⟨D1, D2, HDb⟩ : ∃ D1 D2, Hid (cacheBoth l m = (D1, D2)) := ⟨_, _, rfl⟩
  have HB0 : Hid (Below w.heap.size w (w.alloc (.cells #[.int .i64 k, .int .i64 vv, .int .i64 a, .bool g, .string t] 24))) := by show Below _ _ _; go_grown
  go_enter Tryd.func3, Tryd.ntmps3
  go_wp2_with fail
  refine (rCache_o HEL.out _ _ (HL.out.below HB0.out)).mono ?_
  rintro e w1 ⟨rfl, hb⟩
  have B1 : Hid (Below w.heap.size w w1) := HB0.out.trans (hb.mono (by simp))
  have X1 : Hid (BoxAt w1 w.heap.size k vv a g t) := (box_new w k vv a g t w.heap.size rfl).below hb (by simp)
  clear hb
  go_wp2_with fail
  refine (cacheCheck_o (HL.out.below B1.out) HEL.out).mono ?_
  rintro e w2 ⟨rfl, hb⟩
  have B2 : Hid (Below w.heap.size w w2) := B1.out.trans (hb.mono B1.out.size)
  have X2 : Hid (BoxAt w2 w.heap.size k vv a g t) := X1.out.below hb X1.out.lt
  clear hb
  go_wp2_with fail
  refine (err_same eL _ (HG.out.below hlt B2.out)).mono ?_
  rintro e w3 ⟨rfl, hb⟩
  have B3 : Hid (Below w.heap.size w w3) := B2.out.trans (hb.mono B2.out.size)
  have X3 : Hid (BoxAt w3 w.heap.size k vv a g t) := X2.out.below hb X2.out.lt
  clear hb X1 X2
  -- f, behind the entry
  go_upto_if 33 with fail
  go_cut [11] (fun v11 wc => ∃ f1 : Int, v11 = .int .i64 f1 ∧ Hid (f1 = if eL ≠ 0 then eL else bx) ∧ Hid (Below w.heap.size w wc) ∧ Hid (BoxAt wc w.heap.size k vv a g t))
  case first =>
    by_cases he : eL = 0
    · have heb : (eL == 0) = true := by simp [he]
      have HE0 : Hid (eL = 0) := he
      clear he
      obtain ⟨a0, a1, a2, a3, a4, af⟩ := X3.out
      go_wp2_with fail
      refine (rEntry_o HBX.out _).mono ?_
      rintro e w4 ⟨rfl, hb⟩
      have B4 : Hid (Below w.heap.size w w4) := B3.out.trans (hb.mono B3.out.size)
      have X4 : Hid (BoxAt w4 w.heap.size k vv a g t) := X3.out.below hb X3.out.lt
      clear hb a0 a1 a2 a3 a4 af
      go_wp2_with fail
      go_meet
      case rel => exact ⟨bx, rfl, (if_neg (by simpa using HE0.out)).symm, B4, X4⟩
    · have heb : (eL == 0) = false := by simp [he]
      have HE0 : Hid (¬ eL = 0) := he
      clear he
      go_wp2_with fail
      go_meet
      case rel => exact ⟨eL, rfl, (if_pos HE0.out).symm, B3, X3⟩
  case rest =>
    obtain ⟨w4, h⟩ : ∃ x, x = wc := ⟨_, rfl⟩
    subst h
    obtain ⟨f1, rfl, HF1, B4, X4⟩ := hcut
    clear B1 B2 B3 X3
    -- want, behind the document's Add
    go_upto_if 37 with fail
    go_cut [11, 12] (fun v11 v12 wc => ∃ V : Value, v11 = .int .i64 A3 ∧ v12 = V ∧ Hid (A3 = 0 → RowIs wc V A1) ∧ Hid (Below w.heap.size w wc) ∧ Hid (BoxAt wc w.heap.size k vv a g t))
    case first =>
      by_cases hf : f1 = 0
      · have hfb : (f1 == 0) = true := by simp [hf]
        have HE0 : Hid (eL = 0 ∧ bx = 0) := by
          have h1 := HF1.out
          by_cases he : eL = 0
          · rw [if_neg (by simpa using he)] at h1
            exact ⟨he, h1.symm.trans hf⟩
          · rw [if_pos he] at h1
            exact absurd (h1.symm.trans hf) he
        have HPt : Hid (putE l ⟨k, vv, a, g, t⟩ = (A1, A2, A3)) := (add_put (X := ⟨k, vv, a, g, t⟩) (HEL.out.trans HE0.out.1) (HBX.out.trans HE0.out.2)).symm.trans HAd.out
        clear hf
        obtain ⟨a0, a1, a2, a3, a4, af⟩ := X4.out
        go_wp2_with fail
        refine (rAdd_o HPt.out _ _ (HL.out.below B4.out) (badL_good (HEL.out.trans HE0.out.1)) (HBX.out.trans HE0.out.2)).mono ?_
        rintro e w5 ⟨v5, rfl, ho, hb⟩
        have R5 : Hid (RowIs w5 v5 A1) := ho
        have B5 : Hid (Below w.heap.size w w5) := B4.out.trans (hb.mono B4.out.size)
        have X5 : Hid (BoxAt w5 w.heap.size k vv a g t) := X4.out.below hb X4.out.lt
        clear hb ho a0 a1 a2 a3 a4 af
        go_wp2_with fail
        go_meet
        case rel => exact ⟨_, rfl, rfl, fun _ => R5.out, B5, X5⟩
      · have hfb : (f1 == 0) = false := by simp [hf]
        have HA3 : Hid (f1 = A3) := by
          have h1 := HF1.out
          by_cases he : eL = 0
          · rw [if_neg (by simpa using he)] at h1
            have h2 := (add_two (X := ⟨k, vv, a, g, t⟩) (HEL.out.trans he) HBX.out (by rw [← h1]; exact hf)).symm.trans HAd.out
            simp only [Prod.mk.injEq] at h2
            exact h1.trans h2.2.2
          · rw [if_pos he] at h1
            have h2 := (add_one (X := ⟨k, vv, a, g, t⟩) HEL.out he).symm.trans HAd.out
            simp only [Prod.mk.injEq] at h2
            exact h1.trans h2.2.2
        have HF0 : Hid (¬ f1 = 0) := hf
        clear hf
        go_wp2_with fail
        go_meet
        case rel => exact ⟨_, by rw [HA3.out], rfl, fun h => absurd (HA3.out.trans h) HF0.out, B4, X4⟩
    case rest =>
      obtain ⟨w5, h⟩ : ∃ x, x = wc := ⟨_, rfl⟩
      subst h
      obtain ⟨V12, rfl, hV, HW5, B5, X5⟩ := hcut
      have hV' := hV.symm
      clear hV
      subst hV'
      clear B4 X4 HF1
      go_upto_if 45 with fail
      go_cut [12, 13] (fun v12 v13 wc => ∃ V : Value, v12 = V ∧ v13 = .bool A2 ∧ Hid (RowIs wc V A1) ∧ Hid (Below w.heap.size w wc) ∧ Hid (BoxAt wc w.heap.size k vv a g t))
      case first =>
        by_cases hf : A3 = 0
        · have hfb : (A3 == 0) = true := by simp [hf]
          have HSm : Hid (sameL A1 l = !A2) := by
            have h := HAd.out
            rw [hf] at h
            exact put_changed (add_fine h).1 (add_fine h).2
          have R5 : Hid (RowIs w5 V12 A1) := HW5.out hf
          clear hf
          go_wp2_with fail
          refine (same_o HSm.out _ _ _ R5.out (HL.out.below B5.out)).mono ?_
          rintro e w6 ⟨rfl, hb⟩
          have R6 : Hid (RowIs w6 V12 A1) := R5.out.below hb
          have B6 : Hid (Below w.heap.size w w6) := B5.out.trans (hb.mono B5.out.size)
          have X6 : Hid (BoxAt w6 w.heap.size k vv a g t) := X5.out.below hb X5.out.lt
          clear hb
          go_wp2_with fail
          go_meet
          case rel => exact ⟨_, rfl, by simp, R6, B6, X6⟩
        · have hfb : (A3 == 0) = false := by simp [hf]
          have HZ : Hid (A1 = [] ∧ A2 = false) := add_fault HAd.out hf
          clear hf
          go_wp2_with fail
          go_meet
          case rel => exact ⟨_, rfl, by rw [HZ.out.2], (by rw [HZ.out.1]; exact RowIs.nil _), B5, X5⟩
      case rest =>
        obtain ⟨w6, h⟩ : ∃ x, x = wc := ⟨_, rfl⟩
        subst h
        clear HW5
        obtain ⟨W12, hV, rfl, R6, B6, X6⟩ := hcut
        have hV' := hV.symm
        clear hV
        subst hV'
        clear B5 X5
        obtain ⟨a0, a1, a2, a3, a4, af⟩ := X6.out
        go_wp2_with fail
        refine (addT HAd.out _ _ (HL.out.below B6.out)).mono ?_
        rintro e w7 ⟨v7, rfl, ho, hb⟩
        have R7 : Hid (RowIs w7 W12 A1) := R6.out.below hb
        have Y7 : Hid (RowIs w7 v7 A1) := RowIs.own ho
        have B7 : Hid (Below w.heap.size w w7) := B6.out.trans (hb.mono B6.out.size)
        clear hb ho a0 a1 a2 a3 a4 af X6 R6
        go_wp2_with fail
        refine (err_same A3 _ (HG.out.below hlt B7.out)).mono ?_
        rintro e w8 ⟨rfl, hb⟩
        have R8 : Hid (RowIs w8 W12 A1) := R7.out.below hb
        have Y8 : Hid (RowIs w8 v7 A1) := Y7.out.below hb
        have B8 : Hid (Below w.heap.size w w8) := B7.out.trans (hb.mono B7.out.size)
        clear hb R7 Y7 B7
        go_wp2_with fail
        refine (same_o (sameL_iff.2 rfl) _ _ _ Y8.out R8.out).mono ?_
        rintro e w9 ⟨rfl, hb⟩
        have B9 : Hid (Below w.heap.size w w9) := B8.out.trans (hb.mono B8.out.size)
        clear hb R8 Y8 B8
        obtain ⟨kb, HKb⟩ : ∃ b, Hid (isK key = b) := ⟨_, rfl⟩
        go_wp2_with fail
        refine (refKey_o HKb.out _).mono ?_
        rintro e w10 ⟨rfl, hb⟩
        obtain ⟨Z, HZs⟩ : ∃ Z, Hid (w9.heap.size = Z) := ⟨_, rfl⟩
        have HZl : Hid (w.heap.size ≤ Z) := show _ ≤ _ from (by rw [← HZs.out]; exact B9.out.size)
        have BZ : Hid (Below w.heap.size w (w9.alloc (.cells #[.int .i64 0, .int .i64 0, .int .i64 0, .bool false, .string ⟨#[]⟩] 24))) := B9.out.alloc B9.out.size _
        have B10 : Hid (Below w.heap.size w w10) := BZ.out.trans (hb.mono BZ.out.size)
        have Z10 : Hid (BoxAt w10 Z 0 0 0 false ⟨#[]⟩) := (box_new w9 0 0 0 false ⟨#[]⟩ Z HZs.out.symm).below hb (by rw [← HZs.out]; simp)
        rw [HZs.out]
        clear hb B9 BZ
        go_upto_region 18 with fail
        go_cut [78] (fun c wc => ∃ cb : Bool, c = .bool cb ∧ Hid (cb = ((eL == 0) && !kb)) ∧ wc = w10)
        case first =>
          by_cases he : eL = 0
          · have heb : (eL == 0) = true := by simp [he]
            clear he
            go_wp2_with fail
            go_meet
            case rel => exact ⟨_, rfl, (by show _ = _; rw [heb]; simp), rfl⟩
          · have heb : (eL == 0) = false := by simp [he]
            clear he
            go_wp2_with fail
            go_meet
            case rel => exact ⟨_, rfl, (by show _ = _; rw [heb]; simp), rfl⟩
        case rest =>
          obtain ⟨cb, rfl, HCb, hwc⟩ := hcut
          subst hwc
          go_upto_if 78 with fail
          go_cut [11, 20, 21] (fun v11 v20 v21 wc => v11 = .int .i64 C5 ∧ Hid (Below w.heap.size w wc) ∧ Hid (BoxAt wc Z C0 C1 C2 C3 C4))
          case first =>
            by_cases he : eL = 0
            · have heb : (eL == 0) = true := by simp [he]
              have HE0 : Hid (badL l = 0) := HEL.out.trans he
              have HE1 : Hid (eL = 0) := he
              clear he
              cases kb
              · have HC : Hid (C0 = 0 ∧ C1 = 0 ∧ C2 = 0 ∧ C3 = false ∧ C4 = ⟨#[]⟩ ∧ C5 = 1) := by
                  have h := (get_two HE0.out HKb.out).symm.trans HCg.out
                  simp only [Prod.mk.injEq, En.mk.injEq] at h
                  exact ⟨h.1.1.symm, h.1.2.1.symm, h.1.2.2.1.symm, h.1.2.2.2.1.symm, h.1.2.2.2.2.symm, h.2.symm⟩
                obtain rfl : cb = true := HCb.out.trans (by rw [heb]; rfl)
                go_wp2_with fail
                go_meet
                case rel =>
                  obtain ⟨rfl, rfl, rfl, rfl, rfl, rfl⟩ := HC.out
                  exact ⟨rfl, B10, Z10⟩
              · obtain rfl : cb = false := HCb.out.trans (by rw [heb]; rfl)
                cases hgt : getE l key with
                | none =>
                  have HC : Hid (C0 = 0 ∧ C1 = 0 ∧ C2 = 0 ∧ C3 = false ∧ C4 = ⟨#[]⟩ ∧ C5 = 5) := by
                    have h := (get_three HE0.out HKb.out hgt).symm.trans HCg.out
                    simp only [Prod.mk.injEq, En.mk.injEq] at h
                    exact ⟨h.1.1.symm, h.1.2.1.symm, h.1.2.2.1.symm, h.1.2.2.2.1.symm, h.1.2.2.2.2.symm, h.2.symm⟩
                  have HGt : Hid (getE l key = none) := hgt
                  clear hgt
                  go_wp2_with fail
                  refine (rGet_none HGt.out _ _ (HL.out.below B10.out)).mono ?_
                  rintro e w11 ⟨rfl, hb⟩
                  have B11 : Hid (Below w.heap.size w w11) := B10.out.trans (hb.mono B10.out.size)
                  have Z11 : Hid (BoxAt w11 Z 0 0 0 false ⟨#[]⟩) := Z10.out.below hb Z10.out.lt
                  have q1 : ¬ Z = w11.heap.size := by have := Z11.out.lt; omega
                  have q2 : Z < w11.heap.size := Z11.out.lt
                  have q3 : ¬ w11.heap.size = Z := by omega
                  clear hb
                  obtain ⟨z0, z1, z2, z3, z4, zf⟩ := Z11.out
                  go_wp2_with fail
                  go_meet
                  case rel =>
                    obtain ⟨rfl, rfl, rfl, rfl, rfl, rfl⟩ := HC.out
                    have hb := B11.out
                    have hZ := HZl.out
                    have h5 := ((((hb.setCell (p := ⟨Z, 0, none⟩) hZ (.int .i64 0)).setCell (p := ⟨Z, 1, none⟩) hZ (.int .i64 0)).setCell (p := ⟨Z, 2, none⟩) hZ (.int .i64 0)).setCell (p := ⟨Z, 3, none⟩) hZ (.bool false)).setCell (p := ⟨Z, 4, none⟩) hZ (.string ⟨#[]⟩)
                    exact ⟨rfl, h5.alloc h5.size _, (Z11.out.set 0 0 0 false ⟨#[]⟩).alloc _⟩
                | some y =>
                  have hC := (get_four HE0.out HKb.out hgt).symm.trans HCg.out
                  simp only [Prod.mk.injEq] at hC
                  obtain ⟨hCy, hC5⟩ := hC
                  have HC5 : Hid (C5 = 0) := hC5.symm
                  have HGt : Hid (getE l key = some ⟨C0, C1, C2, C3, C4⟩) := by rw [← hCy]; exact hgt
                  clear hgt hCy hC5
                  go_wp2_with fail
                  refine (rGet_some HGt.out _ _ (HL.out.below B10.out)).mono ?_
                  rintro e w11 ⟨rfl, hb⟩
                  have B11 : Hid (Below w.heap.size w w11) := B10.out.trans (hb.mono B10.out.size)
                  have Z11 : Hid (BoxAt w11 Z 0 0 0 false ⟨#[]⟩) := Z10.out.below hb Z10.out.lt
                  have q1 : ¬ Z = w11.heap.size := by have := Z11.out.lt; omega
                  have q2 : Z < w11.heap.size := Z11.out.lt
                  have q3 : ¬ w11.heap.size = Z := by omega
                  clear hb
                  obtain ⟨z0, z1, z2, z3, z4, zf⟩ := Z11.out
                  go_wp2_with fail
                  go_meet
                  case rel =>
                    have hb := B11.out
                    have hZ := HZl.out
                    have h5 := ((((hb.setCell (p := ⟨Z, 0, none⟩) hZ (.int .i64 C0)).setCell (p := ⟨Z, 1, none⟩) hZ (.int .i64 C1)).setCell (p := ⟨Z, 2, none⟩) hZ (.int .i64 C2)).setCell (p := ⟨Z, 3, none⟩) hZ (.bool C3)).setCell (p := ⟨Z, 4, none⟩) hZ (.string C4)
                    exact ⟨by rw [HC5.out, HE1.out], h5.alloc h5.size _, (Z11.out.set C0 C1 C2 C3 C4).alloc _⟩
            · have heb : (eL == 0) = false := by simp [he]
              obtain rfl : cb = false := HCb.out.trans (by rw [heb]; rfl)
              have HC : Hid (C0 = 0 ∧ C1 = 0 ∧ C2 = 0 ∧ C3 = false ∧ C4 = ⟨#[]⟩ ∧ C5 = eL) := by
                have h := (get_one HEL.out he).symm.trans HCg.out
                simp only [Prod.mk.injEq, En.mk.injEq] at h
                exact ⟨h.1.1.symm, h.1.2.1.symm, h.1.2.2.1.symm, h.1.2.2.2.1.symm, h.1.2.2.2.2.symm, h.2.symm⟩
              clear he
              go_wp2_with fail
              go_meet
              case rel =>
                obtain ⟨rfl, rfl, rfl, rfl, rfl, h5⟩ := HC.out
                exact ⟨by rw [h5], B10, Z10⟩
          case rest =>
            obtain ⟨w12, h⟩ : ∃ x, x = wc := ⟨_, rfl⟩
            subst h
            obtain ⟨rfl, B12, Z12⟩ := hcut
            clear B10 Z10
            have hq := eql_cells C0 C1 C2 C3 C4
            have hgd := eqGuard_en
            go_wp2_with fail
            refine (getT HCg.out _ _ (HL.out.below B12.out)).mono ?_
            rintro e w13 ⟨rfl, hb⟩
            have B13 : Hid (Below w.heap.size w w13) := B12.out.trans (hb.mono B12.out.size)
            have Z13 : Hid (BoxAt w13 Z C0 C1 C2 C3 C4) := Z12.out.below hb Z12.out.lt
            have B13a : Hid (Below w.heap.size w (w13.alloc (.cells #[.int .i64 C0, .int .i64 C1, .int .i64 C2, .bool C3, .string C4] 24))) := B13.out.alloc B13.out.size _
            clear hb
            go_wp2_with fail
            refine (err_same C5 _ (HG.out.below hlt B13a.out)).mono ?_
            rintro e w14 ⟨rfl, hb⟩
            have B14 : Hid (Below w.heap.size w w14) := B13a.out.trans (hb.mono B13a.out.size)
            have Z14 : Hid (BoxAt w14 Z C0 C1 C2 C3 C4) := (Z13.out.alloc _).below hb (Z13.out.alloc _).lt
            have Y14 : Hid (BoxAt w14 w13.heap.size C0 C1 C2 C3 C4) := (box_new w13 C0 C1 C2 C3 C4 w13.heap.size rfl).below hb (by simp)
            obtain ⟨z0, z1, z2, z3, z4, zf⟩ := Z14.out
            obtain ⟨y0, y1, y2, y3, y4, yf⟩ := Y14.out
            clear hb B12 Z12 Z13 B13a
            go_upto_if 105 with fail
            clear z0 z1 z2 z3 z4 zf y0 y1 y2 y3 y4 yf hq hgd
            obtain ⟨bm, HBM⟩ : ∃ n, Hid (badL m = n) := ⟨_, rfl⟩
            go_cut [9] (fun v9 wc => ∃ f1 : Int, v9 = .int .i64 f1 ∧ Hid (f1 = if eL ≠ 0 then eL else bm) ∧ Hid (Below w.heap.size w wc))
            case first =>
              by_cases he : eL = 0
              · have heb : (eL == 0) = true := by simp [he]
                have HE0 : Hid (eL = 0) := he
                clear he
                go_wp2_with fail
                refine (rCache_o HBM.out _ _ (HMr.out.below B14.out)).mono ?_
                rintro e w15 ⟨rfl, hb⟩
                have B15 : Hid (Below w.heap.size w w15) := B14.out.trans (hb.mono B14.out.size)
                clear hb
                go_wp2_with fail
                go_meet
                case rel => exact ⟨bm, rfl, (if_neg (by simpa using HE0.out)).symm, B15⟩
              · have heb : (eL == 0) = false := by simp [he]
                have HE0 : Hid (¬ eL = 0) := he
                clear he
                go_wp2_with fail
                go_meet
                case rel => exact ⟨eL, rfl, (if_pos HE0.out).symm, B14⟩
            case rest =>
              obtain ⟨w15, h⟩ : ∃ x, x = wc := ⟨_, rfl⟩
              subst h
              obtain ⟨f2, rfl, HF2, B15⟩ := hcut
              clear B14 Z14 Y14
              go_upto_if 109 with fail
              go_cut [9, 12] (fun v9 v12 wc => ∃ V : Value, v9 = .int .i64 D2 ∧ v12 = V ∧ Hid (D2 = 0 → RowIs wc V D1) ∧ Hid (Below w.heap.size w wc))
              case first =>
                by_cases hf : f2 = 0
                · have hfb : (f2 == 0) = true := by simp [hf]
                  have HE0 : Hid (eL = 0 ∧ bm = 0) := by
                    have h1 := HF2.out
                    by_cases he : eL = 0
                    · rw [if_neg (by simpa using he)] at h1
                      exact ⟨he, h1.symm.trans hf⟩
                    · rw [if_pos he] at h1
                      exact absurd (h1.symm.trans hf) he
                  have HAl : Hid (allE l m = (D1, D2)) := (both_all (HEL.out.trans HE0.out.1) (HBM.out.trans HE0.out.2)).symm.trans HDb.out
                  clear hf
                  go_wp2_with fail
                  refine (rAll_c _ _ l m D1 D2 _ (HL.out.below B15.out) (HMr.out.below B15.out) (badL_good (HEL.out.trans HE0.out.1)) (badL_good (HBM.out.trans HE0.out.2)) HAl.out).mono ?_
                  rintro e w16 ⟨v16, rfl, ho, hb⟩
                  have R16 : Hid (RowIs w16 v16 D1) := ho
                  have B16 : Hid (Below w.heap.size w w16) := B15.out.trans (hb.mono B15.out.size)
                  clear hb ho
                  go_wp2_with fail
                  go_meet
                  case rel => exact ⟨_, rfl, rfl, fun _ => R16.out, B16⟩
                · have hfb : (f2 == 0) = false := by simp [hf]
                  have HD2 : Hid (f2 = D2) := by
                    have h1 := HF2.out
                    by_cases he : eL = 0
                    · rw [if_neg (by simpa using he)] at h1
                      have h2 := (both_two (HEL.out.trans he) HBM.out (by rw [← h1]; exact hf)).symm.trans HDb.out
                      simp only [Prod.mk.injEq] at h2
                      exact h1.trans h2.2
                    · rw [if_pos he] at h1
                      have h2 := (both_one (b := m) HEL.out he).symm.trans HDb.out
                      simp only [Prod.mk.injEq] at h2
                      exact h1.trans h2.2
                  have HF0 : Hid (¬ f2 = 0) := hf
                  clear hf
                  go_wp2_with fail
                  go_meet
                  case rel => exact ⟨_, by rw [HD2.out], rfl, fun h => absurd (HD2.out.trans h) HF0.out, B15⟩
              case rest =>
                obtain ⟨w16, h⟩ : ∃ x, x = wc := ⟨_, rfl⟩
                subst h
                obtain ⟨V16, rfl, hV, HW16, B16⟩ := hcut
                have hV' := hV.symm
                clear hV
                subst hV'
                clear B15 HF2
                go_upto_if 117 with fail
                go_cut [12] (fun v12 wc => ∃ V : Value, v12 = V ∧ Hid (RowIs wc V D1) ∧ Hid (Below w.heap.size w wc))
                case first =>
                  by_cases hf : D2 = 0
                  · have hfb : (D2 == 0) = true := by simp [hf]
                    have hfc : (D2 != 0) = false := by simp [hf]
                    have R16 : Hid (RowIs w16 V16 D1) := HW16.out hf
                    clear hf
                    go_wp2_with fail
                    go_meet
                    case rel => exact ⟨_, rfl, R16, B16⟩
                  · have hfb : (D2 == 0) = false := by simp [hf]
                    have hfc : (D2 != 0) = true := by simp [hf]
                    have HZ : Hid (D1 = []) := both_fault HDb.out hf
                    clear hf
                    go_wp2_with fail
                    go_meet
                    case rel => exact ⟨_, rfl, (by rw [HZ.out]; exact RowIs.nil _), B16⟩
                case rest =>
                  obtain ⟨w17, h⟩ : ∃ x, x = wc := ⟨_, rfl⟩
                  subst h
                  clear HW16
                  obtain ⟨V17, hV, R17, B17⟩ := hcut
                  have hV' := hV.symm
                  clear hV
                  subst hV'
                  clear B16
                  go_wp2_with fail
                  refine (both_o HDb.out _ _ _ (HL.out.below B17.out) (HMr.out.below B17.out)).mono ?_
                  rintro e w18 ⟨v18, rfl, ho, hb⟩
                  have R18 : Hid (RowIs w18 V17 D1) := R17.out.below hb
                  have Y18 : Hid (RowIs w18 v18 D1) := RowIs.own ho
                  have B18 : Hid (Below w.heap.size w w18) := B17.out.trans (hb.mono B17.out.size)
                  clear hb ho R17 B17
                  go_wp2_with fail
                  refine (err_same D2 _ (HG.out.below hlt B18.out)).mono ?_
                  rintro e w19 ⟨rfl, hb⟩
                  have R19 : Hid (RowIs w19 V17 D1) := R18.out.below hb
                  have Y19 : Hid (RowIs w19 v18 D1) := Y18.out.below hb
                  have B19 : Hid (Below w.heap.size w w19) := B18.out.trans (hb.mono B18.out.size)
                  clear hb R18 Y18 B18
                  go_wp2_with fail
                  refine (same_o (sameL_iff.2 rfl) _ _ _ Y19.out R19.out).mono ?_
                  rintro e w20 ⟨rfl, hb⟩
                  have B20 : Hid (Below w.heap.size w w20) := B19.out.trans (hb.mono B19.out.size)
                  clear hb R19 Y19 B19
                  go_wp2_with fail
                  go_ret
                  exact ⟨rfl, B20.out⟩
end Go.Proofs.YtgncclahhejcdabDoor
