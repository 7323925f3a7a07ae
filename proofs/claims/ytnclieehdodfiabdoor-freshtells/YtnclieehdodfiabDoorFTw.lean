/-
  The walk of merelaw1.FreshTells.
-/
import Derived.Test.YtnclieehdodfiabDoorFT
namespace Go.Proofs.YtnclieehdodfiabDoor
set_option linter.unusedVariables false
set_option linter.unusedSimpArgs false
open Go.RowKit

set_option maxRecDepth 100000 in
set_option maxHeartbeats 8000000 in
theorem ftells_walk (vl : Value) (l : List En) (key least ver seq : Int) (w : World) (hrl : RowIs w vl l) (hg : HasErr w) :
    Calls Tryd.prog 4 #[vl, .int .i64 key, .int .i64 least, .int .i64 ver, .int .i64 seq] w fun e w' => e = .returned (.bool true) ∧ Below w.heap.size w w' := by
  have HG : Hid (HasErr w) := hg
  have hlt := hg.lt
  have HL : Hid (RowIs w vl l) := hrl
  clear hg
  obtain ⟨hlen, p, cap, rfl, hrow⟩ := hrl
  have HRow : Hid (l ≠ [] → ∃ b o, p = some ⟨b, o, none⟩ ∧ b < w.heap.size ∧ ∀ j (h : j < l.length), EnAt w b (o + j * 5) l[j]) := hrow
  clear hrow
  obtain ⟨n, HN⟩ : ∃ n, Hid (l.length = n) := ⟨_, rfl⟩
  rw [HN.out] at hlen HL ⊢
  have hn63 : n ≤ 9223372036854775807 := hlen
  obtain ⟨eL, HEL⟩ : ∃ n, Hid (badL l = n) := ⟨_, rfl⟩
  obtain ⟨XS, f1, HSt⟩ : ∃ XS f1, Hid (freshStale l least = (XS, f1)) := ⟨_, _, rfl⟩
  obtain ⟨kb, HKb⟩ : ∃ b, Hid (isK key = b) := ⟨_, rfl⟩
  obtain ⟨H0, H1, H2, H3, H4, HHd⟩ : ∃ H0 H1 H2 H3 H4, Hid (hadE (getE l key) = ⟨H0, H1, H2, H3, H4⟩) := ⟨_, _, _, _, _, rfl⟩
  obtain ⟨bi, HBi⟩ : ∃ b, Hid ((getE l key).isSome = b) := ⟨_, rfl⟩
  obtain ⟨G0, G1, G2, G3, G4, G5, HFg⟩ : ∃ G0 G1 G2 G3 G4 G5, Hid (freshGet l key least = (⟨G0, G1, G2, G3, G4⟩, G5)) := ⟨_, _, _, _, _, _, rfl⟩
  obtain ⟨T1, T2, HTo⟩ : ∃ T1 T2, Hid (freshTouch l key ver seq = (T1, T2)) := ⟨_, _, rfl⟩
  go_enter Tryd.func4, Tryd.ntmps4
  -- is the floor wrong?
  go_upto_region 2 with fail
  go_cut [34] (fun c wc => ∃ cb : Bool, c = .bool cb ∧ Hid (cb = !isSeqB least) ∧ Hid (Below w.heap.size w wc))
  case first =>
    as_aux_lemma =>
      by_cases h0 : least < 0
      · have hd0 : decide (least < 0) = true := by simpa using h0
        have HS : Hid (isSeqB least = false) := by show _ = _; simp [isSeqB]; omega
        clear h0
        go_wp2_with fail
        go_meet
        case rel => exact ⟨_, rfl, (by show _ = _; rw [HS.out]; simp), Below.refl _ _⟩
      · have hd0 : decide (least < 0) = false := by simpa using h0
        obtain ⟨b1, hd1⟩ : ∃ b, decide (1000 < least) = b := ⟨_, rfl⟩
        have HS : Hid (isSeqB least = !b1) := by
          show _ = _
          have e0 : (0 : Int) ≤ least := by omega
          rw [← hd1]
          simp [isSeqB, e0]
          rw [← decide_not]
          simp
        clear h0
        go_wp2_with fail
        go_meet
        case rel => exact ⟨_, rfl, (by show _ = _; rw [HS.out]; simp), Below.refl _ _⟩
  case rest =>
    obtain ⟨w0, h⟩ : ∃ x, x = wc := ⟨_, rfl⟩
    subst h
    obtain ⟨cb, rfl, HCb, B0⟩ := hcut
    go_upto_if 34 with fail
    go_cut [11] (fun v11 wc => v11 = .int .i64 f1 ∧ Hid (Below w.heap.size w wc))
    case first =>
      as_aux_lemma =>
        cases cb
        · have HF1 : Hid (f1 = eL) := by
            show f1 = eL
            have h := HCb.out
            rw [stale_n HSt.out, if_neg (by intro h'; rw [h'] at h; cases h), HEL.out]
          go_wp2_with fail
          refine (rCache_p HEL.out _ _ (HL.out.below B0.out)).mono ?_
          rintro e w1 ⟨rfl, hb⟩
          have B1 : Hid (Below w.heap.size w w1) := B0.out.trans (hb.mono B0.out.size)
          clear hb
          go_wp2_with fail
          go_meet
          case rel => exact ⟨by rw [HF1.out], B1⟩
        · have HF1 : Hid (f1 = 1) := by
            show f1 = 1
            have h := HCb.out
            rw [stale_n HSt.out, if_pos (by cases hq : isSeqB least; rfl; rw [hq] at h; cases h)]
          go_wp2_with fail
          go_meet
          case rel => exact ⟨by rw [HF1.out], B0⟩
    case rest =>
      obtain ⟨w1, h⟩ : ∃ x, x = wc := ⟨_, rfl⟩
      subst h
      obtain ⟨rfl, B1⟩ := hcut
      clear HCb
      -- the keys that are stale
      go_upto_block 0 with fail
      go_cut [13, 14] (fun v13 v14 wc => ∃ V : Value, v13 = V ∧ Hid (IntsIs wc V XS) ∧ Hid (Below w.heap.size w wc))
      case first =>
        as_aux_lemma =>
          go_wp2_with fail
          go_loopw [13, 14] (fun s13 s14 wr => ∃ (j : Nat) (v13 : Value), s13 = v13 ∧ j ≤ n ∧ s14 = .int .i64 j ∧ Hid (f1 ≠ 0 → j = 0) ∧ Hid (wr.ownsRow w.heap.size 3 1 v13 (staleE (l.take j) least).length (intC (staleE (l.take j) least))) ∧ Hid (Below w.heap.size w wr)) (fun _ i _ => n - (intOf i).toNat)
          case atStart => exact ⟨0, .slice none 0 0, rfl, Nat.zero_le _, rfl, fun _ => rfl, World.ownsRow_nil _ _ _ _, B1⟩
          case round =>
            obtain ⟨j, v13, hs13, hj, rfl, HJ0, HO, HB⟩ := hrel
            have hs13' := hs13.symm
            clear hs13
            subst hs13'
            by_cases hf : f1 = 0
            · have hfb : (f1 == 0) = true := by simp [hf]
              have HF0 : Hid (f1 = 0) := hf
              have HSt0 : Hid (freshStale l least = (XS, 0)) := by show _ = _; rw [HSt.out, hf]
              clear hf
              by_cases hlt1 : j < n
              · have hjl : j < l.length := by rw [HN.out]; exact hlt1
                have hlti : decide ((j : Int) < (n : Int)) = true := by simp; omega
                have hltj : (j : Int) < (n : Int) := by omega
                obtain ⟨b, o, rfl, hbw, hat⟩ := HRow.out (fun h => by simp [h] at hjl)
                have HAt : Hid (EnAt wr b (o + j * 5) l[j]) := (hat j hjl).of_block (HB.out.block b hbw)
                clear hat
                have hbr : b < wr.heap.size := by have := HB.out.size; omega
                have hws := HB.out.size
                have HY : Hid (∀ ha : l[j].a < least, staleE (l.take (j + 1)) least = staleE (l.take j) least ++ [l[j].k]) := fun ha => staleE_yes hjl ha
                have HNo : Hid (∀ ha : ¬ l[j].a < least, staleE (l.take (j + 1)) least = staleE (l.take j) least) := fun ha => staleE_no hjl ha
                have HLn : Hid ((staleE (l.take j) least).length ≤ 8) := by
                  have hb0 := (stale_fine HSt0.out).2.1
                  exact Nat.le_trans (staleE_len _ _) (Nat.le_trans (List.length_take_le _ _) (Nat.le_trans hj (by rw [← HN.out]; exact (badL_good hb0).len)))
                obtain ⟨x, HX⟩ : ∃ x, Hid (l[j] = x) := ⟨l[j], show l[j] = l[j] from rfl⟩
                rw [HX.out] at HAt HY HNo
                obtain ⟨x0, x1, x2, x3, x4⟩ := x
                obtain ⟨c0, c1, c2, c3, c4⟩ := HAt.out
                dsimp only at c0 c1 c2 c3 c4
                obtain ⟨xs, HXs⟩ : ∃ xs, Hid (staleE (l.take j) least = xs) := ⟨_, rfl⟩
                rw [HXs.out] at HO HY HNo HLn
                by_cases hx : x2 < least
                · have HE : Hid (staleE (l.take (j + 1)) least = xs ++ [x0]) := HY.out hx
                  clear HY HNo
                  have HOa : Hid ((wr.alloc (.cells #[.int .i64 x0] 3)).ownsRow w.heap.size 3 1 v13 xs.length (intC xs)) := HO.out.alloc _
                  have HVa : Hid ((wr.alloc (.cells #[.int .i64 x0] 3)).heap[wr.heap.size]? = some (.cells #[.int .i64 x0] 3 (0, 0))) := alloc_at _ _ _ rfl
                  have HSa : Hid (w.heap.size ≤ (wr.alloc (.cells #[.int .i64 x0] 3)).heap.size) := show _ ≤ _ from (by simp; omega)
                  have HLa : Hid (xs.length ≤ 100) := Nat.le_trans HLn.out (by omega)
                  have HBa : Hid (Below w.heap.size w (wr.alloc (.cells #[.int .i64 x0] 3))) := HB.out.alloc hws _
                  go_wp2_with (at_builtin; refine wp_appI _ rfl _ _ rfl w.heap.size _ xs x0 rfl HOa.out _ rfl HVa.out HLa.out HSa.out ?_)
                  intro va wa hown hgrow
                  have HOp : Hid (wa.ownsRow w.heap.size 3 1 va (xs ++ [x0]).length (intC (xs ++ [x0]))) := hown
                  have HBp : Hid (Below w.heap.size w wa) := below_grownF (HBa.out) (Nat.le_refl _) hgrow.out (fun c hc => ownsRow_fromF HO.out c hc)
                  clear hown hgrow HOa HVa HLa HSa
                  clear c0 c1 c2 c3 c4
                  go_wp2_with fail
                  go_roundw
                  case rel =>
                    refine ⟨j + 1, va, rfl, by omega, by go_num, fun h => absurd HF0.out h, ?_, HBp⟩
                    show World.ownsRow _ _ _ _ _ _ _
                    rw [HE.out]
                    exact HOp.out
                  case measure => simp [intOf]; omega
                · have HE : Hid (staleE (l.take (j + 1)) least = xs) := HNo.out hx
                  clear HY HNo
                  go_wp2_with fail
                  go_roundw
                  case rel =>
                    refine ⟨j + 1, v13, rfl, by omega, by go_num, fun h => absurd HF0.out h, ?_, HB⟩
                    show World.ownsRow _ _ _ _ _ _ _
                    rw [HE.out]
                    exact HO.out
                  case measure => simp [intOf]; omega
              · obtain rfl : j = n := by omega
                have hlti : decide ((j : Int) < (j : Int)) = false := by simp
                have HX : Hid (staleE (l.take j) least = XS) := by
                  show _ = _
                  rw [← HN.out, List.take_length, (stale_fine HSt0.out).2.2]
                go_wp2_with fail
                go_meet
                case rel => exact ⟨v13, rfl, IntsIs.own (by rw [← HX.out]; exact HO.out), HB⟩
            · have hfb : (f1 == 0) = false := by simp [hf]
              obtain rfl : j = 0 := HJ0.out hf
              have HX : Hid (staleE (l.take 0) least = XS) := by
                show _ = _
                rw [stale_fault HSt.out hf]
                rfl
              clear hf
              by_cases hz : 0 < n
              · go_wp2_with fail
                go_meet
                case rel => exact ⟨v13, rfl, IntsIs.own (by rw [← HX.out]; exact HO.out), HB⟩
              · go_wp2_with fail
                go_meet
                case rel => exact ⟨v13, rfl, IntsIs.own (by rw [← HX.out]; exact HO.out), HB⟩
      case rest =>
        obtain ⟨w2, h⟩ : ∃ x, x = wc := ⟨_, rfl⟩
        subst h
        obtain ⟨V13, hV, I2, B2⟩ := hcut
        have hV' := hV.symm
        clear hV
        subst hV'
        clear B1
        -- one
        go_wp2_with fail
        refine (stale_p HSt.out _ _ (HL.out.below B2.out)).mono ?_
        rintro e w3 ⟨v3, rfl, hi, hb⟩
        have I3 : Hid (IntsIs w3 v3 XS) := hi
        have J3 : Hid (IntsIs w3 V13 XS) := I2.out.below hb
        have B3 : Hid (Below w.heap.size w w3) := B2.out.trans (hb.mono B2.out.size)
        clear hb hi I2 B2
        go_wp2_with fail
        refine (err_same f1 _ (HG.out.below hlt B3.out)).mono ?_
        rintro e w4 ⟨rfl, hb⟩
        have I4 : Hid (IntsIs w4 v3 XS) := I3.out.below hb
        have J4 : Hid (IntsIs w4 V13 XS) := J3.out.below hb
        have B4 : Hid (Below w.heap.size w w4) := B3.out.trans (hb.mono B3.out.size)
        clear hb I3 J3 B3
        go_wp2_with fail
        refine (ints_p XS _ _ _ I4.out J4.out).mono ?_
        rintro e w5 ⟨rfl, hb⟩
        have B5 : Hid (Below w.heap.size w w5) := B4.out.trans (hb.mono B4.out.size)
        clear hb I4 J4 B4
        go_wp2_with fail
        refine (refKey_p HKb.out _).mono ?_
        rintro e w6 ⟨rfl, hb⟩
        have B6 : Hid (Below w.heap.size w w6) := B5.out.trans (hb.mono B5.out.size)
        clear hb B5
        go_wp2_with fail
        refine (rGet_p HHd.out HBi.out _ _ (HL.out.below B6.out)).mono ?_
        rintro e w7 ⟨rfl, hb⟩
        have B7 : Hid (Below w.heap.size w w7) := B6.out.trans (hb.mono B6.out.size)
        clear hb B6
        go_upto_region 17 with fail
        obtain ⟨w8, HW8⟩ : ∃ W, W = (w7.alloc (.cells #[.int .i64 H0, .int .i64 H1, .int .i64 H2, .bool H3, .string H4] 24)).alloc (.cells #[.int .i64 0, .int .i64 0, .int .i64 0, .bool false, .string ⟨#[]⟩] 24) := ⟨_, rfl⟩
        rw [← HW8]
        have B8 : Hid (Below w.heap.size w w8) := by rw [HW8]; exact (B7.out.alloc B7.out.size _).alloc (by have := B7.out.size; simp; omega) _
        have E8 : Hid (BoxAt w8 w7.heap.size H0 H1 H2 H3 H4) := by rw [HW8]; exact (box_new w7 H0 H1 H2 H3 H4 _ rfl).alloc _
        have F8 : Hid (BoxAt w8 (w7.heap.size + 1) 0 0 0 false ⟨#[]⟩) := by rw [HW8]; exact box_new _ 0 0 0 false ⟨#[]⟩ _ (by simp)
        obtain ⟨Z, HZ⟩ : ∃ Z, Hid (w7.heap.size = Z) := ⟨_, rfl⟩
        have HZl : Hid (w.heap.size ≤ Z) := show _ ≤ _ from (by rw [← HZ.out]; exact B7.out.size)
        rw [HZ.out] at E8 F8 ⊢
        clear HW8 HZ B7
        go_cut [90] (fun c wc => ∃ cb : Bool, c = .bool cb ∧ Hid (cb = ((f1 == 0) && !kb)) ∧ Hid (Below w.heap.size w wc) ∧ Hid (BoxAt wc Z H0 H1 H2 H3 H4) ∧ Hid (BoxAt wc (Z + 1) 0 0 0 false ⟨#[]⟩))
        case first =>
          as_aux_lemma =>
            by_cases he : f1 = 0
            · have heb : (f1 == 0) = true := by simp [he]
              clear he
              go_wp2_with fail
              go_meet
              case rel => exact ⟨_, rfl, (by show _ = _; rw [heb]; simp), B8, E8, F8⟩
            · have heb : (f1 == 0) = false := by simp [he]
              clear he
              go_wp2_with fail
              go_meet
              case rel => exact ⟨_, rfl, (by show _ = _; rw [heb]; simp), B8, E8, F8⟩
        case rest =>
          obtain ⟨w9, h⟩ : ∃ x, x = wc := ⟨_, rfl⟩
          subst h
          obtain ⟨cb, rfl, HCb, B9, E9, F9⟩ := hcut
          clear B8 E8 F8
          go_upto_if 90 with fail
          go_cut [12] (fun v12 wc => v12 = .int .i64 G5 ∧ Hid (Below w.heap.size w wc) ∧ Hid (BoxAt wc Z H0 H1 H2 H3 H4) ∧ Hid (BoxAt wc (Z + 1) G0 G1 G2 G3 G4))
          case first =>
            as_aux_lemma =>
              by_cases he : f1 = 0
              · have heb : (f1 == 0) = true := by simp [he]
                have HF0 : Hid (f1 = 0) := he
                have HSt0 : Hid (freshStale l least = (XS, 0)) := by show _ = _; rw [HSt.out, he]
                clear he
                cases kb
                · have HC : Hid (G0 = 0 ∧ G1 = 0 ∧ G2 = 0 ∧ G3 = false ∧ G4 = ⟨#[]⟩ ∧ G5 = 1) := by
                    have h := (fg_of (stale_fine HSt0.out).1 (cg_key (stale_fine HSt0.out).2.1 HKb.out) (by decide)).symm.trans HFg.out
                    simp only [zeroEn, Prod.mk.injEq, En.mk.injEq] at h
                    exact ⟨h.1.1.symm, h.1.2.1.symm, h.1.2.2.1.symm, h.1.2.2.2.1.symm, h.1.2.2.2.2.symm, h.2.symm⟩
                  obtain rfl : cb = true := HCb.out.trans (by rw [heb]; rfl)
                  go_wp2_with fail
                  go_meet
                  case rel =>
                    obtain ⟨rfl, rfl, rfl, rfl, rfl, rfl⟩ := HC.out
                    exact ⟨rfl, B9, E9, F9⟩
                · obtain rfl : cb = false := HCb.out.trans (by rw [heb]; rfl)
                  cases bi
                  · have HC : Hid (G0 = 0 ∧ G1 = 0 ∧ G2 = 0 ∧ G3 = false ∧ G4 = ⟨#[]⟩ ∧ G5 = 5) := by
                      have h := (fg_of (stale_fine HSt0.out).1 (cg_none (stale_fine HSt0.out).2.1 HKb.out (had_none HBi.out)) (by decide)).symm.trans HFg.out
                      simp only [zeroEn, Prod.mk.injEq, En.mk.injEq] at h
                      exact ⟨h.1.1.symm, h.1.2.1.symm, h.1.2.2.1.symm, h.1.2.2.2.1.symm, h.1.2.2.2.2.symm, h.2.symm⟩
                    go_wp2_with fail
                    go_meet
                    case rel =>
                      obtain ⟨rfl, rfl, rfl, rfl, rfl, rfl⟩ := HC.out
                      exact ⟨rfl, B9, E9, F9⟩
                  · obtain ⟨e0, e1, e2, e3, e4, ef⟩ := E9.out
                    by_cases ha : H2 < least
                    · have hab : decide (H2 < least) = true := by simpa using ha
                      have HC : Hid (G0 = 0 ∧ G1 = 0 ∧ G2 = 0 ∧ G3 = false ∧ G4 = ⟨#[]⟩ ∧ G5 = 8) := by
                        have h := (fg_old (stale_fine HSt0.out).1 (cg_some (stale_fine HSt0.out).2.1 HKb.out (had_some HHd.out HBi.out)) ha).symm.trans HFg.out
                        simp only [zeroEn, Prod.mk.injEq, En.mk.injEq] at h
                        exact ⟨h.1.1.symm, h.1.2.1.symm, h.1.2.2.1.symm, h.1.2.2.2.1.symm, h.1.2.2.2.2.symm, h.2.symm⟩
                      clear ha
                      go_wp2_with fail
                      go_meet
                      case rel =>
                        obtain ⟨rfl, rfl, rfl, rfl, rfl, rfl⟩ := HC.out
                        exact ⟨rfl, B9, E9, F9⟩
                    · have hab : decide (H2 < least) = false := by simpa using ha
                      have HC : Hid (G0 = H0 ∧ G1 = H1 ∧ G2 = H2 ∧ G3 = H3 ∧ G4 = H4 ∧ G5 = 0) := by
                        have h := (fg_new (stale_fine HSt0.out).1 (cg_some (stale_fine HSt0.out).2.1 HKb.out (had_some HHd.out HBi.out)) ha).symm.trans HFg.out
                        simp only [Prod.mk.injEq, En.mk.injEq] at h
                        exact ⟨h.1.1.symm, h.1.2.1.symm, h.1.2.2.1.symm, h.1.2.2.2.1.symm, h.1.2.2.2.2.symm, h.2.symm⟩
                      clear ha
                      obtain ⟨g0, g1, g2, g3, g4, gf⟩ := F9.out
                      go_wp2_with fail
                      go_meet
                      case rel =>
                        obtain ⟨rfl, rfl, rfl, rfl, rfl, h5⟩ := HC.out
                        have hZ : w.heap.size ≤ Z + 1 := Nat.le_succ_of_le HZl.out
                        exact ⟨by rw [h5, HF0.out], ((((B9.out.setCell (p := ⟨Z + 1, 0, none⟩) hZ (.int .i64 G0)).setCell (p := ⟨Z + 1, 1, none⟩) hZ (.int .i64 G1)).setCell (p := ⟨Z + 1, 2, none⟩) hZ (.int .i64 G2)).setCell (p := ⟨Z + 1, 3, none⟩) hZ (.bool G3)).setCell (p := ⟨Z + 1, 4, none⟩) hZ (.string G4), E9.out.other (by omega) _ _ _ _ _, F9.out.set G0 G1 G2 G3 G4⟩
              · have heb : (f1 == 0) = false := by simp [he]
                have HC : Hid (G0 = 0 ∧ G1 = 0 ∧ G2 = 0 ∧ G3 = false ∧ G4 = ⟨#[]⟩ ∧ G5 = f1) := by
                  have h := (fg_bad (key := key) HSt.out he).symm.trans HFg.out
                  simp only [zeroEn, Prod.mk.injEq, En.mk.injEq] at h
                  exact ⟨h.1.1.symm, h.1.2.1.symm, h.1.2.2.1.symm, h.1.2.2.2.1.symm, h.1.2.2.2.2.symm, h.2.symm⟩
                obtain rfl : cb = false := HCb.out.trans (by rw [heb]; rfl)
                clear he
                go_wp2_with fail
                go_meet
                case rel =>
                  obtain ⟨rfl, rfl, rfl, rfl, rfl, h5⟩ := HC.out
                  exact ⟨by rw [h5], B9, E9, F9⟩
          case rest =>
            obtain ⟨w10, h⟩ : ∃ x, x = wc := ⟨_, rfl⟩
            subst h
            obtain ⟨rfl, B10, E10, F10⟩ := hcut
            clear B9 E9 F9 HCb
            -- two
            have hq := eql_cells G0 G1 G2 G3 G4
            have hgd := eqGuard_en
            go_wp2_with fail
            refine (freshGet_p HFg.out _ _ (HL.out.below B10.out)).mono ?_
            rintro e w11 ⟨rfl, hb⟩
            have B11 : Hid (Below w.heap.size w w11) := B10.out.trans (hb.mono B10.out.size)
            have E11 : Hid (BoxAt w11 Z H0 H1 H2 H3 H4) := E10.out.below hb E10.out.lt
            have F11 : Hid (BoxAt w11 (Z + 1) G0 G1 G2 G3 G4) := F10.out.below hb F10.out.lt
            have B11a : Hid (Below w.heap.size w (w11.alloc (.cells #[.int .i64 G0, .int .i64 G1, .int .i64 G2, .bool G3, .string G4] 24))) := B11.out.alloc B11.out.size _
            clear hb
            go_wp2_with fail
            refine (err_same G5 _ (HG.out.below hlt B11a.out)).mono ?_
            rintro e w12 ⟨rfl, hb⟩
            have B12 : Hid (Below w.heap.size w w12) := B11a.out.trans (hb.mono B11a.out.size)
            have E12 : Hid (BoxAt w12 Z H0 H1 H2 H3 H4) := (E11.out.alloc _).below hb (E11.out.alloc _).lt
            have F12 : Hid (BoxAt w12 (Z + 1) G0 G1 G2 G3 G4) := (F11.out.alloc _).below hb (F11.out.alloc _).lt
            have Y12 : Hid (BoxAt w12 w11.heap.size G0 G1 G2 G3 G4) := (box_new w11 G0 G1 G2 G3 G4 w11.heap.size rfl).below hb (by simp)
            obtain ⟨z0, z1, z2, z3, z4, zf⟩ := F12.out
            obtain ⟨y0, y1, y2, y3, y4, yf⟩ := Y12.out
            clear hb B10 B11 E10 E11 F10 F11 B11a
            go_wp2_with fail
            refine (rCache_p HEL.out _ _ (HL.out.below B12.out)).mono ?_
            rintro e w13 ⟨rfl, hb⟩
            have B13 : Hid (Below w.heap.size w w13) := B12.out.trans (hb.mono B12.out.size)
            have E13 : Hid (BoxAt w13 Z H0 H1 H2 H3 H4) := E12.out.below hb E12.out.lt
            clear hb z0 z1 z2 z3 z4 zf y0 y1 y2 y3 y4 yf hq hgd B12 E12 F12 Y12
            go_upto_region 29 with fail
            go_cut [130] (fun c wc => ∃ cb : Bool, c = .bool cb ∧ Hid (cb = ((eL == 0) && !kb)) ∧ Hid (Below w.heap.size w wc) ∧ Hid (BoxAt wc Z H0 H1 H2 H3 H4))
            case first =>
              as_aux_lemma =>
                by_cases he : eL = 0
                · have heb : (eL == 0) = true := by simp [he]
                  clear he
                  go_wp2_with fail
                  go_meet
                  case rel => exact ⟨_, rfl, (by show _ = _; rw [heb]; simp), B13, E13⟩
                · have heb : (eL == 0) = false := by simp [he]
                  clear he
                  go_wp2_with fail
                  go_meet
                  case rel => exact ⟨_, rfl, (by show _ = _; rw [heb]; simp), B13, E13⟩
            case rest =>
              obtain ⟨w14, h⟩ : ∃ x, x = wc := ⟨_, rfl⟩
              subst h
              obtain ⟨cb, rfl, HCb, B14, E14⟩ := hcut
              clear B13 E13
              go_upto_if 130 with fail
              go_cut [11] (fun v11 wc => v11 = .int .i64 T2 ∧ Hid (Below w.heap.size w wc))
              case first =>
                as_aux_lemma =>
                  by_cases he : eL = 0
                  · have heb : (eL == 0) = true := by simp [he]
                    have HE0 : Hid (eL = 0) := he
                    have HB0 : Hid (badL l = 0) := HEL.out.trans he
                    clear he
                    cases kb
                    · have HC : Hid (T2 = 1) := (pair_eq ((ft_of (ver := ver) (seq := seq) (cg_key HB0.out HKb.out) (by decide)).symm.trans HTo.out)).2.symm
                      obtain rfl : cb = true := HCb.out.trans (by rw [heb]; rfl)
                      go_wp2_with fail
                      go_meet
                      case rel => exact ⟨by rw [HC.out], B14⟩
                    · obtain rfl : cb = false := HCb.out.trans (by rw [heb]; rfl)
                      cases bi
                      · have HC : Hid (T2 = 5) := (pair_eq ((ft_of (ver := ver) (seq := seq) (cg_none HB0.out HKb.out (had_none HBi.out)) (by decide)).symm.trans HTo.out)).2.symm
                        go_wp2_with fail
                        go_meet
                        case rel => exact ⟨by rw [HC.out], B14⟩
                      · have HCg : Hid (cacheGet l key = (⟨H0, H1, H2, H3, H4⟩, 0)) := cg_some HB0.out HKb.out (had_some HHd.out HBi.out)
                        obtain ⟨e0, e1, e2, e3, e4, ef⟩ := E14.out
                        by_cases a1 : seq < 0
                        · have d1 : decide (seq < 0) = true := by simpa using a1
                          have HC : Hid (T2 = 1) := (pair_eq ((ft_says HCg.out (show saysB ver seq = false by simp [saysB, isSeqB]; omega)).symm.trans HTo.out)).2.symm
                          clear a1
                          go_wp2_with fail
                          go_meet
                          case rel => exact ⟨by rw [HC.out], B14⟩
                        · have d1 : decide (seq < 0) = false := by simpa using a1
                          by_cases a2 : 1000 < seq
                          · have d2 : decide (1000 < seq) = true := by simpa using a2
                            have HC : Hid (T2 = 1) := (pair_eq ((ft_says HCg.out (show saysB ver seq = false by simp [saysB, isSeqB]; omega)).symm.trans HTo.out)).2.symm
                            clear a1 a2
                            go_wp2_with fail
                            go_meet
                            case rel => exact ⟨by rw [HC.out], B14⟩
                          · have d2 : decide (1000 < seq) = false := by simpa using a2
                            by_cases a3 : ver < 0
                            · have d3 : decide (ver < 0) = true := by simpa using a3
                              have HC : Hid (T2 = 1) := (pair_eq ((ft_says HCg.out (show saysB ver seq = false by simp [saysB, isSeqB]; omega)).symm.trans HTo.out)).2.symm
                              clear a1 a2 a3
                              go_wp2_with fail
                              go_meet
                              case rel => exact ⟨by rw [HC.out], B14⟩
                            · have d3 : decide (ver < 0) = false := by simpa using a3
                              by_cases a4 : seq < ver
                              · have d4 : decide (seq < ver) = true := by simpa using a4
                                have HC : Hid (T2 = 1) := (pair_eq ((ft_says HCg.out (show saysB ver seq = false by simp [saysB, isSeqB]; omega)).symm.trans HTo.out)).2.symm
                                clear a1 a2 a3 a4
                                go_wp2_with fail
                                go_meet
                                case rel => exact ⟨by rw [HC.out], B14⟩
                              · have d4 : decide (seq < ver) = false := by simpa using a4
                                have HSy : Hid (saysB ver seq = true) := by show _ = _; simp [saysB, isSeqB]; omega
                                clear a1 a2 a3 a4
                                by_cases a5 : ver < H1
                                · have d5 : decide (ver < H1) = true := by simpa using a5
                                  have HC : Hid (T2 = 7) := (pair_eq ((ft_denies HCg.out HSy.out (show deniesB H1 H2 ver = true by simp [deniesB]; omega)).symm.trans HTo.out)).2.symm
                                  clear a5
                                  go_wp2_with fail
                                  go_meet
                                  case rel => exact ⟨by rw [HC.out], B14⟩
                                · have d5 : decide (ver < H1) = false := by simpa using a5
                                  by_cases a6 : H1 < ver
                                  · have d6 : decide (H1 < ver) = true := by simpa using a6
                                    by_cases a7 : ver ≤ H2
                                    · have d7 : decide (ver ≤ H2) = true := by simpa using a7
                                      have HC : Hid (T2 = 7) := (pair_eq ((ft_denies HCg.out HSy.out (show deniesB H1 H2 ver = true by simp [deniesB]; omega)).symm.trans HTo.out)).2.symm
                                      clear a5 a6 a7
                                      go_wp2_with fail
                                      go_meet
                                      case rel => exact ⟨by rw [HC.out], B14⟩
                                    · have d7 : decide (ver ≤ H2) = false := by simpa using a7
                                      have HC : Hid (T2 = 0) := (pair_eq ((ft_goes HCg.out HSy.out (show deniesB H1 H2 ver = false by simp [deniesB]; omega)).symm.trans HTo.out)).2.symm
                                      clear a5 a6 a7
                                      go_wp2_with fail
                                      go_meet
                                      case rel => exact ⟨by rw [HC.out, HE0.out], B14⟩
                                  · have d6 : decide (H1 < ver) = false := by simpa using a6
                                    have HC : Hid (T2 = 0) := (pair_eq ((ft_goes HCg.out HSy.out (show deniesB H1 H2 ver = false by simp [deniesB]; omega)).symm.trans HTo.out)).2.symm
                                    clear a5 a6
                                    go_wp2_with fail
                                    go_meet
                                    case rel => exact ⟨by rw [HC.out, HE0.out], B14⟩
                  · have heb : (eL == 0) = false := by simp [he]
                    have HC : Hid (T2 = eL) := (pair_eq ((ft_of (ver := ver) (seq := seq) (cg_bad (key := key) HEL.out he) he).symm.trans HTo.out)).2.symm
                    obtain rfl : cb = false := HCb.out.trans (by rw [heb]; rfl)
                    clear he
                    go_wp2_with fail
                    go_meet
                    case rel => exact ⟨by rw [HC.out], B14⟩
              case rest =>
                obtain ⟨w15, h⟩ : ∃ x, x = wc := ⟨_, rfl⟩
                subst h
                obtain ⟨rfl, B15⟩ := hcut
                clear B14 E14 HCb
                -- what is left
                go_upto_block 2 with fail
                go_cut [24, 25, 26] (fun v24 v25 v26 wc => ∃ V : Value, v24 = V ∧ Hid (RowIs wc V T1) ∧ Hid (Below w.heap.size w wc))
                case first =>
                  go_wp2_with fail
                  go_loopw [24, 25] (fun s24 s25 wr => ∃ (j : Nat) (v24 : Value), s24 = v24 ∧ j ≤ n ∧ s25 = .int .i64 j ∧ Hid (T2 ≠ 0 → j = 0) ∧ Hid (wr.ownsRow w.heap.size 24 5 v24 (leftE key ver seq (l.take j)).length (rowC (leftE key ver seq (l.take j)))) ∧ Hid (Below w.heap.size w wr)) (fun _ i _ => n - (intOf i).toNat)
                  case atStart => exact ⟨0, .slice none 0 0, rfl, Nat.zero_le _, rfl, fun _ => rfl, World.ownsRow_nil _ _ _ _, B15⟩
                  case round =>
                    obtain ⟨j, v24, hs24, hj, rfl, HJ0, HO, HB⟩ := hrel
                    have hs24' := hs24.symm
                    clear hs24
                    subst hs24'
                    by_cases hf : T2 = 0
                    · have hfb : (T2 == 0) = true := by simp [hf]
                      have HF0 : Hid (T2 = 0) := hf
                      have HTo0 : Hid (freshTouch l key ver seq = (T1, 0)) := by show _ = _; rw [HTo.out, hf]
                      clear hf
                      by_cases hlt1 : j < n
                      · have hjl : j < l.length := by rw [HN.out]; exact hlt1
                        have hltj : (j : Int) < (n : Int) := by omega
                        obtain ⟨b, o, rfl, hbw, hat⟩ := HRow.out (fun h => by simp [h] at hjl)
                        have HAt : Hid (EnAt wr b (o + j * 5) l[j]) := (hat j hjl).of_block (HB.out.block b hbw)
                        clear hat
                        have hws := HB.out.size
                        have HSt : Hid (leftE key ver seq (l.take (j + 1)) = leftE key ver seq (l.take j) ++ stepE key ver seq l[j]) := leftE_take hjl
                        have HLn : Hid ((leftE key ver seq (l.take j)).length ≤ 100) := by
                          obtain ⟨x, hx, _⟩ := ft_fine HTo0.out
                          have h8 := (cacheGet_ok hx).1.len
                          have h1 := leftE_len (l := l.take j) key ver seq
                          have h2 := List.length_take_le j l
                          show _ ≤ _
                          rw [HN.out] at h8
                          omega
                        obtain ⟨x, HX⟩ : ∃ x, Hid (l[j] = x) := ⟨l[j], show l[j] = l[j] from rfl⟩
                        rw [HX.out] at HAt HSt
                        obtain ⟨x0, x1, x2, x3, x4⟩ := x
                        obtain ⟨c0, c1, c2, c3, c4⟩ := HAt.out
                        dsimp only at c0 c1 c2 c3 c4
                        obtain ⟨xs, HXs⟩ : ∃ xs, Hid (leftE key ver seq (l.take j) = xs) := ⟨_, rfl⟩
                        rw [HXs.out] at HO HSt HLn
                        go_upto_region 41 with fail
                        obtain ⟨wz, HWz⟩ : ∃ W, W = wr.alloc (.cells #[.int .i64 x0, .int .i64 x1, .int .i64 x2, .bool x3, .string x4] 24) := ⟨_, rfl⟩
                        rw [← HWz]
                        have Bz : Hid (Below w.heap.size w wz) := by rw [HWz]; exact HB.out.alloc hws _
                        have Ez : Hid (BoxAt wz wr.heap.size x0 x1 x2 x3 x4) := by rw [HWz]; exact box_new wr x0 x1 x2 x3 x4 _ rfl
                        have Oz : Hid (wz.ownsRow w.heap.size 24 5 v24 xs.length (rowC xs)) := by rw [HWz]; exact HO.out.alloc _
                        have hzv : ∀ c, v24.ownBlock = some c → c < wr.heap.size := fun c hc => ownsRow_lt HO.out c hc
                        have HZv : Hid (∀ c, v24.ownBlock = some c → c < wr.heap.size) := hzv
                        clear HWz c0 c1 c2 c3 c4 hzv
                        obtain ⟨e0, e1, e2, e3, e4, ef⟩ := Ez.out
                        by_cases hk : x0 = key
                        · have hkb : (x0 == key) = true := by simp [hk]
                          by_cases hv : x1 < ver
                          · have HSp : Hid (stepE key ver seq ⟨x0, x1, x2, x3, x4⟩ = []) := by show _ = _; rw [stepE, if_pos hk, if_pos hv]
                            clear hk
                            go_wp2_with fail
                            go_roundw
                            case rel =>
                              refine ⟨j + 1, v24, rfl, by omega, by go_num, fun h => absurd HF0.out h, ?_, Bz⟩
                              show World.ownsRow _ _ _ _ _ _ _
                              rw [HSt.out, HSp.out, List.append_nil]
                              exact Oz.out
                            case measure => simp [intOf]; omega
                          · by_cases hs : x2 < seq
                            · have HSp : Hid (stepE key ver seq ⟨x0, x1, x2, x3, x4⟩ = [⟨x0, x1, seq, x3, x4⟩]) := by show _ = _; rw [stepE, if_pos hk, if_neg hv]; rw [Int.max_eq_right (show x2 ≤ seq by omega)]
                              clear hk
                              go_upto_region 45 with fail
                              obtain ⟨wy, HWy⟩ : ∃ W, W = wz.setCell ⟨wr.heap.size, 2, none⟩ (.int .i64 seq) := ⟨_, rfl⟩
                              rw [← HWy]
                              have By : Hid (Below w.heap.size w wy) := by rw [HWy]; exact Bz.out.setCell (p := ⟨wr.heap.size, 2, none⟩) hws _
                              have Ey : Hid (BoxAt wy wr.heap.size x0 x1 seq x3 x4) := by rw [HWy]; exact Ez.out.time seq
                              have Oy : Hid (wy.ownsRow w.heap.size 24 5 v24 xs.length (rowC xs)) := by
                                rw [HWy]
                                exact ownsRow_blocks Oz.out (fun c hc => Below.heap_setCell _ _ _ c (by have := HZv.out c hc; show c ≠ wr.heap.size; omega))
                              clear HWy e0 e1 e2 e3 e4 ef
                              obtain ⟨e0, e1, e2, e3, e4, ef⟩ := Ey.out
                              have HOa : Hid ((wy.alloc (.cells #[.int .i64 x0, .int .i64 x1, .int .i64 seq, .bool x3, .string x4] 24)).ownsRow w.heap.size 24 5 v24 xs.length (rowC xs)) := Oy.out.alloc _
                              have HVa : Hid ((wy.alloc (.cells #[.int .i64 x0, .int .i64 x1, .int .i64 seq, .bool x3, .string x4] 24)).heap[wy.heap.size]? = some (.cells (En.cells (En.mk x0 x1 seq x3 x4)).toArray 24 (0, 0))) := alloc_at _ _ _ rfl
                              have HSa : Hid (w.heap.size ≤ (wy.alloc (.cells #[.int .i64 x0, .int .i64 x1, .int .i64 seq, .bool x3, .string x4] 24)).heap.size) := show _ ≤ _ from (by have := By.out.size; simp; omega)
                              have HBa : Hid (Below w.heap.size w (wy.alloc (.cells #[.int .i64 x0, .int .i64 x1, .int .i64 seq, .bool x3, .string x4] 24))) := By.out.alloc By.out.size _
                              go_wp2_with (at_builtin; refine wp_app _ rfl _ _ rfl w.heap.size _ xs (En.mk x0 x1 seq x3 x4) rfl HOa.out _ rfl HVa.out HLn.out HSa.out ?_)
                              intro va wa hown hgrow
                              have HOp : Hid (wa.ownsRow w.heap.size 24 5 va (xs ++ [En.mk x0 x1 seq x3 x4]).length (rowC (xs ++ [En.mk x0 x1 seq x3 x4]))) := hown
                              have HBp : Hid (Below w.heap.size w wa) := below_grown HBa.out (Nat.le_refl _) hgrow.out (fun c hc => ownsRow_from HO.out c hc)
                              clear hown hgrow HOa HVa HSa e0 e1 e2 e3 e4 ef
                              go_wp2_with fail
                              go_roundw
                              case rel =>
                                refine ⟨j + 1, va, rfl, by omega, by go_num, fun h => absurd HF0.out h, ?_, HBp⟩
                                show World.ownsRow _ _ _ _ _ _ _
                                rw [HSt.out, HSp.out]
                                exact HOp.out
                              case measure => simp [intOf]; omega
                            · have HSp : Hid (stepE key ver seq ⟨x0, x1, x2, x3, x4⟩ = [⟨x0, x1, x2, x3, x4⟩]) := by show _ = _; rw [stepE, if_pos hk, if_neg hv]; rw [Int.max_eq_left (show seq ≤ x2 by omega)]
                              clear hk
                              have HOa : Hid ((wz.alloc (.cells #[.int .i64 x0, .int .i64 x1, .int .i64 x2, .bool x3, .string x4] 24)).ownsRow w.heap.size 24 5 v24 xs.length (rowC xs)) := Oz.out.alloc _
                              have HVa : Hid ((wz.alloc (.cells #[.int .i64 x0, .int .i64 x1, .int .i64 x2, .bool x3, .string x4] 24)).heap[wz.heap.size]? = some (.cells (En.cells (En.mk x0 x1 x2 x3 x4)).toArray 24 (0, 0))) := alloc_at _ _ _ rfl
                              have HSa : Hid (w.heap.size ≤ (wz.alloc (.cells #[.int .i64 x0, .int .i64 x1, .int .i64 x2, .bool x3, .string x4] 24)).heap.size) := show _ ≤ _ from (by have := Bz.out.size; simp; omega)
                              have HBa : Hid (Below w.heap.size w (wz.alloc (.cells #[.int .i64 x0, .int .i64 x1, .int .i64 x2, .bool x3, .string x4] 24))) := Bz.out.alloc Bz.out.size _
                              go_wp2_with (at_builtin; refine wp_app _ rfl _ _ rfl w.heap.size _ xs (En.mk x0 x1 x2 x3 x4) rfl HOa.out _ rfl HVa.out HLn.out HSa.out ?_)
                              intro va wa hown hgrow
                              have HOp : Hid (wa.ownsRow w.heap.size 24 5 va (xs ++ [En.mk x0 x1 x2 x3 x4]).length (rowC (xs ++ [En.mk x0 x1 x2 x3 x4]))) := hown
                              have HBp : Hid (Below w.heap.size w wa) := below_grown HBa.out (Nat.le_refl _) hgrow.out (fun c hc => ownsRow_from HO.out c hc)
                              clear hown hgrow HOa HVa HSa e0 e1 e2 e3 e4 ef
                              go_wp2_with fail
                              go_roundw
                              case rel =>
                                refine ⟨j + 1, va, rfl, by omega, by go_num, fun h => absurd HF0.out h, ?_, HBp⟩
                                show World.ownsRow _ _ _ _ _ _ _
                                rw [HSt.out, HSp.out]
                                exact HOp.out
                              case measure => simp [intOf]; omega
                        · have hkb : (x0 == key) = false := by simp [hk]
                          have HSp : Hid (stepE key ver seq ⟨x0, x1, x2, x3, x4⟩ = [⟨x0, x1, x2, x3, x4⟩]) := by show _ = _; rw [stepE, if_neg hk]
                          clear hk
                          have HOa : Hid ((wz.alloc (.cells #[.int .i64 x0, .int .i64 x1, .int .i64 x2, .bool x3, .string x4] 24)).ownsRow w.heap.size 24 5 v24 xs.length (rowC xs)) := Oz.out.alloc _
                          have HVa : Hid ((wz.alloc (.cells #[.int .i64 x0, .int .i64 x1, .int .i64 x2, .bool x3, .string x4] 24)).heap[wz.heap.size]? = some (.cells (En.cells (En.mk x0 x1 x2 x3 x4)).toArray 24 (0, 0))) := alloc_at _ _ _ rfl
                          have HSa : Hid (w.heap.size ≤ (wz.alloc (.cells #[.int .i64 x0, .int .i64 x1, .int .i64 x2, .bool x3, .string x4] 24)).heap.size) := show _ ≤ _ from (by have := Bz.out.size; simp; omega)
                          have HBa : Hid (Below w.heap.size w (wz.alloc (.cells #[.int .i64 x0, .int .i64 x1, .int .i64 x2, .bool x3, .string x4] 24))) := Bz.out.alloc Bz.out.size _
                          go_wp2_with (at_builtin; refine wp_app _ rfl _ _ rfl w.heap.size _ xs (En.mk x0 x1 x2 x3 x4) rfl HOa.out _ rfl HVa.out HLn.out HSa.out ?_)
                          intro va wa hown hgrow
                          have HOp : Hid (wa.ownsRow w.heap.size 24 5 va (xs ++ [En.mk x0 x1 x2 x3 x4]).length (rowC (xs ++ [En.mk x0 x1 x2 x3 x4]))) := hown
                          have HBp : Hid (Below w.heap.size w wa) := below_grown HBa.out (Nat.le_refl _) hgrow.out (fun c hc => ownsRow_from HO.out c hc)
                          clear hown hgrow HOa HVa HSa e0 e1 e2 e3 e4 ef
                          go_wp2_with fail
                          go_roundw
                          case rel =>
                            refine ⟨j + 1, va, rfl, by omega, by go_num, fun h => absurd HF0.out h, ?_, HBp⟩
                            show World.ownsRow _ _ _ _ _ _ _
                            rw [HSt.out, HSp.out]
                            exact HOp.out
                          case measure => simp [intOf]; omega
                      · obtain rfl : j = n := by omega
                        have HX : Hid (leftE key ver seq (l.take j) = T1) := by
                          show _ = _
                          obtain ⟨x, hx, _, _, ht⟩ := ft_fine HTo0.out
                          rw [← HN.out, List.take_length, ht]
                          exact left_touch (cacheGet_ok hx).1.rise (cacheGet_ok hx).2.2
                        go_wp2_with fail
                        go_meet
                        case rel => exact ⟨v24, rfl, RowIs.own (B := w.heap.size) (by rw [← HX.out]; exact HO.out), HB⟩
                    · have hfb : (T2 == 0) = false := by simp [hf]
                      obtain rfl : j = 0 := HJ0.out hf
                      have HX : Hid (leftE key ver seq (l.take 0) = T1) := by
                        show _ = _
                        rw [ft_fault HTo.out hf]
                        rfl
                      clear hf
                      by_cases hz : 0 < n
                      · go_wp2_with fail
                        go_meet
                        case rel => exact ⟨v24, rfl, RowIs.own (B := w.heap.size) (by rw [← HX.out]; exact HO.out), HB⟩
                      · go_wp2_with fail
                        go_meet
                        case rel => exact ⟨v24, rfl, RowIs.own (B := w.heap.size) (by rw [← HX.out]; exact HO.out), HB⟩
                case rest =>
                  obtain ⟨w16, h⟩ : ∃ x, x = wc := ⟨_, rfl⟩
                  subst h
                  obtain ⟨V24, hV, R16, B16⟩ := hcut
                  have hV' := hV.symm
                  clear hV
                  subst hV'
                  clear B15
                  go_wp2_with fail
                  refine (touch_p HTo.out _ _ (HL.out.below B16.out)).mono ?_
                  rintro e w17 ⟨v17, rfl, ho, hb⟩
                  have Y17 : Hid (RowIs w17 v17 T1) := ho
                  have R17 : Hid (RowIs w17 V24 T1) := R16.out.below hb
                  have B17 : Hid (Below w.heap.size w w17) := B16.out.trans (hb.mono B16.out.size)
                  clear hb ho R16 B16
                  go_wp2_with fail
                  refine (err_same T2 _ (HG.out.below hlt B17.out)).mono ?_
                  rintro e w18 ⟨rfl, hb⟩
                  have Y18 : Hid (RowIs w18 v17 T1) := Y17.out.below hb
                  have R18 : Hid (RowIs w18 V24 T1) := R17.out.below hb
                  have B18 : Hid (Below w.heap.size w w18) := B17.out.trans (hb.mono B17.out.size)
                  clear hb Y17 R17 B17
                  go_wp2_with fail
                  refine (same_p (sameL_iff.2 rfl) _ _ _ Y18.out R18.out).mono ?_
                  rintro e w19 ⟨rfl, hb⟩
                  have B19 : Hid (Below w.heap.size w w19) := B18.out.trans (hb.mono B18.out.size)
                  clear hb Y18 R18 B18
                  go_wp2_with fail
                  go_ret
                  exact ⟨rfl, B19.out⟩
end Go.Proofs.YtnclieehdodfiabDoor
