/-
  The walk of merelaw1.TreeParts.
-/
import Derived.Test.YtpfljcacdcpojadDoorTrX
import Derived.Deep.CutBlock
namespace Go.Proofs.YtpfljcacdcpojadDoor
set_option linter.unusedVariables false
set_option linter.unusedSimpArgs false
open Go.RowKit

theorem toL_ne {s t : ByteArray} (h : s ≠ t) : (s.toList == t.toList) = false := by
  rw [beq_eq_false_iff_ne]
  intro he
  apply h
  rw [ByteArray.toList_eq, ByteArray.toList_eq] at he
  exact ByteArray.ext (Array.toList_inj.mp he)
set_option maxHeartbeats 16000000 in
set_option maxRecDepth 100000 in
theorem treeParts_w (va vb : Value) (a b : List En) (w : World) (hra : RowIs w va a) (hrb : RowIs w vb b) (hT : Lib.TabIs Tryd.prog w powName .u64 Lib.pow10Tab) :
    Calls Tryd.prog 7 #[va, vb] w fun e w' => e = .returned (.bool true) ∧ Below w.heap.size w w' := by
  have HT : Hid (Lib.TabBelow Tryd.prog w.heap.size w powName .u64 Lib.pow10Tab) := Lib.tabBelow_of_tabIs hT
  have HRa : Hid (RowIs w va a) := hra
  have HRb : Hid (RowIs w vb b) := hrb
  clear hT hra hrb
  go_enter Tryd.func7, Tryd.ntmps7
  go_upto_region 2 with fail
  obtain ⟨w1, HW1⟩ : ∃ x, x = w.alloc (.cells #[.int .i64 6, .int .i64 1, .int .i64 1, .bool false, .string ⟨#[120]⟩] 23) := ⟨_, rfl⟩
  rw [← HW1]
  have X1 : Hid (BoxAt w1 w.heap.size 6 1 1 false ⟨#[120]⟩) := by
    rw [HW1]
    exact box_new w 6 1 1 false ⟨#[120]⟩ _ rfl
  have B1 : Hid (Below w.heap.size w w1) := by
    rw [HW1]
    exact (Below.refl _ w).alloc (Nat.le_refl _) _
  clear HW1
  go_wp2_with fail
  refine (diff_fact X1.out (HT.out _ B1.out)).mono ?_
  rintro e w2 ⟨b', o', cap', rfl, c6, hb⟩
  have B2 : Hid (Below w.heap.size w w2) := B1.out.trans (hb.mono B1.out.size)
  have hb' := World.block_lt_of_cell? w2 _ c6
  clear hb B1 X1
  go_upto_region 5 with fail
  clear c6 hb'
  by_cases hgood : badL a = 0 ∧ badL b = 0
  · obtain ⟨ha, hb0⟩ := hgood
    have HGa : Hid (badL a = 0) := ha
    have HGb : Hid (badL b = 0) := hb0
    obtain ⟨K, HK⟩ : ∃ K, Hid (partK (leafN a) (leafN b) 1 = K) := ⟨_, rfl⟩
    obtain ⟨N, HN⟩ : ∃ N, Hid (partN (leafN a) (leafN b) 1 = N) := ⟨_, rfl⟩
    have HC1 : Hid (∀ w', Below w.heap.size w w' → Calls Tryd.prog 21 #[va, vb] w' fun e w'' => ∃ v', e = .returned (.tuple #[v', .int .i64 (N : Nat), .nilIface]) ∧ OwnI w'.heap.size w'' v' K ∧ Below w'.heap.size w' w'') := fun w' hw => diff_p va vb a b w HRa.out HRb.out ha hb0 HT.out K N HK.out HN.out w' hw
    have HC2 : Hid (∀ w', Below w.heap.size w w' → Calls Tryd.prog 21 #[vb, va] w' fun e w'' => ∃ v', e = .returned (.tuple #[v', .int .i64 (N : Nat), .nilIface]) ∧ OwnI w'.heap.size w'' v' K ∧ Below w'.heap.size w' w'') := fun w' hw => diff_p vb va b a w HRb.out HRa.out hb0 ha HT.out K N ((part_turn _ _ 1).1.trans HK.out) ((part_turn _ _ 1).2.trans HN.out) w' hw
    have HC3 : Hid (∀ w', Below w.heap.size w w' → Calls Tryd.prog 21 #[va, va] w' fun e w'' => ∃ v', e = .returned (.tuple #[v', .int .i64 ((1 : Nat) : Int), .nilIface]) ∧ OwnI w'.heap.size w'' v' [] ∧ Below w'.heap.size w' w'') := fun w' hw => diff_p va va a a w HRa.out HRa.out ha ha HT.out [] 1 (part_alike rfl).1 (part_alike rfl).2 w' hw
    have hN1 : ¬ (N : Int) < 1 := by have := part_pos (leafN a) (leafN b) 1; rw [HN.out] at this; omega
    have hfew : N ≤ 1 + 6 * K.length := by have := part_few (leafN a) (leafN b); rw [HN.out, HK.out] at this; exact this
    have hKl : K.length ≤ 8 := by have := partK_len (leafN a) (leafN b) 1; rw [HK.out] at this; exact this
    obtain ⟨m, HM⟩ : ∃ m, Hid (K.length = m) := ⟨_, rfl⟩
    rw [HM.out] at hfew hKl
    obtain ⟨q6, hq6⟩ : ∃ q : Nat, 6 * m = q := ⟨_, rfl⟩
    obtain ⟨r6, hr6⟩ : ∃ q : Nat, 1 + q6 = q := ⟨_, rfl⟩
    have f1 : (6 : Int) * (m : Int) = (q6 : Int) := by omega
    have f2 : (1 : Int) + (q6 : Int) = (r6 : Int) := by omega
    have f3 : IntKind.i64.wrap (q6 : Int) = (q6 : Int) := wrap_small _ (by omega) (by omega)
    have f4 : IntKind.i64.wrap (r6 : Int) = (r6 : Int) := wrap_small _ (by omega) (by omega)
    have f5 : ¬ (r6 : Int) < (N : Int) := by omega
    have hm63 : m ≤ 9223372036854775807 := by omega
    clear ha hb0 hq6 hr6 hfew
    go_wp2_with fail
    refine (HC1.out _ B2.out).mono ?_
    rintro e w3 ⟨v1, rfl, ho1, hb⟩
    have B3 : Hid (Below w.heap.size w w3) := B2.out.trans (hb.mono B2.out.size)
    have O3 : Hid (OwnI w.heap.size w3 v1 K) := ho1.base B2.out.size
    clear hb ho1 B2 HC1
    obtain ⟨p, cap, rfl⟩ := O3.out.slice
    rw [HM.out] at O3 ⊢
    go_wp2_with fail
    refine (HC2.out _ B3.out).mono ?_
    rintro e w4 ⟨v2, rfl, ho2, hb⟩
    have B4 : Hid (Below w.heap.size w w4) := B3.out.trans (hb.mono B3.out.size)
    have O4 : Hid (OwnI w.heap.size w4 (.slice p m cap) K) := O3.out.below hb
    have P4 : Hid (IntsIs w4 v2 K) := ho2.ints
    clear hb ho2 B3 O3 HC2
    go_wp2_with fail
    refine (HC3.out _ B4.out).mono ?_
    rintro e w5 ⟨v3, rfl, ho3, hb⟩
    have B5 : Hid (Below w.heap.size w w5) := B4.out.trans (hb.mono B4.out.size)
    have O5 : Hid (OwnI w.heap.size w5 (.slice p m cap) K) := O4.out.below hb
    have P5 : Hid (IntsIs w5 v2 K) := P4.out.below hb
    obtain ⟨p3, cap3, rfl⟩ := ho3.slice
    clear hb ho3 B4 O4 P4 HC3
    have HQ5 : Hid (IntsIs w5 (.slice p m cap) K) := O5.out.ints
    go_upto_region 10 with fail
    go_cut [117] (fun v117 wc => v117 = .bool false ∧ Hid (OwnI w.heap.size wc (.slice p m cap) K) ∧ Hid (Below w.heap.size w wc))
    case first =>
      go_wp2_with fail
      refine (by
        have c := ints_c (.slice p m cap) v2 K K w5 HQ5.out P5.out
        rw [beq_self_eq_true] at c
        exact c : Calls Tryd.prog 22 #[.slice p m cap, v2] w5 fun e w' => e = .returned (.bool true) ∧ Below w5.heap.size w5 w').mono ?_
      rintro e w6 ⟨rfl, hb⟩
      have B6 : Hid (Below w.heap.size w w6) := B5.out.trans (hb.mono B5.out.size)
      have O6 : Hid (OwnI w.heap.size w6 (.slice p m cap) K) := O5.out.below hb
      clear hb B5 O5 P5 HQ5
      go_wp2_with fail
      go_meet
      case rel => exact ⟨by simp; omega, O6, B6⟩
    case rest =>
    obtain ⟨w6, h⟩ : ∃ x, x = wc := ⟨_, rfl⟩
    subst h
    obtain ⟨rfl, O6, B6⟩ := hcut
    clear B5 O5 P5 HQ5
    go_upto_region 12 with fail
    clear f1 f2 f3 f4 f5 hN1
    have HU : Hid (∀ (j : Nat) (hj : j < K.length), ∃ q : Nat, K[j] = (q : Int) ∧ q < 8 ∧ leafN a q ≠ leafN b q) := fun j hj => part_mem (by rw [HK.out]; exact List.getElem_mem _)
    have HRs : Hid (∀ (i j : Nat) (hi : i < K.length) (hj : j < K.length), i < j → K[i] < K[j]) := by
      have h := part_rise (leafN a) (leafN b)
      rw [HK.out] at h
      exact fun i j hi hj hij => (List.pairwise_iff_getElem.1 h) i j hi hj hij
    go_wp2_with fail
    go_loopw [18] (fun i wr => ∃ j : Nat, j ≤ m ∧ i = .int .i64 j ∧ Hid (OwnI w.heap.size wr (.slice p m cap) K) ∧ Hid (Below w.heap.size w wr)) (fun i _ => m - (intOf i).toNat)
    case atStart => exact ⟨0, Nat.zero_le _, rfl, O6, B6⟩
    case round =>
      clear O6 B6
      obtain ⟨j, hj, rfl, OR, BR⟩ := hrel
      by_cases hlt : j < m
      · have hjl : j < K.length := by rw [HM.out]; exact hlt
        obtain ⟨bk, rfl, hbk, hcell⟩ := OR.out.cell j hjl
        obtain ⟨q, hq, hq8, hun⟩ := HU.out j hjl
        have ck := hcell j hjl
        rw [hq] at ck
        have HCell : Hid (∀ i (hi : i < K.length), wr.cell? ⟨bk, i, none⟩ = some (.int .i64 K[i])) := hcell
        have HQ : Hid (K[j] = (q : Int)) := hq
        have HUn : Hid (leafN a q ≠ leafN b q) := hun
        clear hq hun hcell
        obtain ⟨x0, x1, x2, x3, x4, EA, cA, hA⟩ := getP_e va a q HGa.out hq8 w HRa.out
        obtain ⟨y0, y1, y2, y3, y4, EB, cB, hB⟩ := getP_e vb b q HGb.out hq8 w HRb.out
        have HH := (show Hid (_ ∨ _ ∨ _) from told_how HGa.out HGb.out HUn.out hA hB)
        have HCa : Hid (∀ w', Below w.heap.size w w' → Calls Tryd.prog 23 #[va, .int .i64 (q : Nat)] w' fun e w'' => e = .returned (.tuple #[.agg #[.int .i64 x0, .int .i64 x1, .int .i64 x2, .bool x3, .string x4], EA]) ∧ Below w'.heap.size w' w'') := cA
        have HCb : Hid (∀ w', Below w.heap.size w w' → Calls Tryd.prog 23 #[vb, .int .i64 (q : Nat)] w' fun e w'' => e = .returned (.tuple #[.agg #[.int .i64 y0, .int .i64 y1, .int .i64 y2, .bool y3, .string y4], EB]) ∧ Below w'.heap.size w' w'') := cB
        clear cA cB hA hB HUn
        have hlti : (j : Int) < (m : Int) := by omega
        have hj0 : (0 : Int) ≤ (j : Int) := by omega
        go_wp2_with fail
        refine (HCa.out _ BR.out).mono ?_
        rintro e w7 ⟨rfl, hb⟩
        have B7 : Hid (Below w.heap.size w w7) := BR.out.trans (hb.mono BR.out.size)
        have O7 : Hid (OwnI w.heap.size w7 (.slice (some ⟨bk, 0, none⟩) m cap) K) := OR.out.below hb
        clear hb ck HCell HCa OR BR hbk
        go_upto_region 16 with fail
        obtain ⟨w8, HW8⟩ : ∃ x, x = w7.alloc (.cells #[.int .i64 x0, .int .i64 x1, .int .i64 x2, .bool x3, .string x4] 23) := ⟨_, rfl⟩
        rw [← HW8]
        obtain ⟨bx, HBx⟩ : ∃ b, Hid (w7.heap.size = b) := ⟨_, rfl⟩
        have B8 : Hid (Below w.heap.size w w8) := by
          rw [HW8]
          exact B7.out.alloc B7.out.size _
        have O8 : Hid (OwnI w.heap.size w8 (.slice (some ⟨bk, 0, none⟩) m cap) K) := by
          rw [HW8]
          exact O7.out.below ((Below.refl _ _).alloc (Nat.le_refl _) _)
        have X8 : Hid (BoxAt w8 bx x0 x1 x2 x3 x4) := by
          rw [HW8]
          exact box_new w7 x0 x1 x2 x3 x4 _ HBx.out.symm
        rw [HBx.out]
        clear HW8 HBx B7 O7
        obtain ⟨bk', hbk', hbk, hcell⟩ := O8.out.cell j hjl
        obtain rfl : bk = bk' := by simpa using hbk'
        have ck := hcell j hjl
        rw [HQ.out] at ck
        clear hcell hbk'
        go_wp2_with fail
        refine (HCb.out _ B8.out).mono ?_
        rintro e w9 ⟨rfl, hb⟩
        have B9 : Hid (Below w.heap.size w w9) := B8.out.trans (hb.mono B8.out.size)
        have O9 : Hid (OwnI w.heap.size w9 (.slice (some ⟨bk, 0, none⟩) m cap) K) := O8.out.below hb
        have X9 : Hid (BoxAt w9 bx x0 x1 x2 x3 x4) := X8.out.below hb X8.out.lt
        clear hb ck HCb O8 B8 X8 hbk
        go_upto_region 17 with fail
        obtain ⟨wa, HWa⟩ : ∃ x, x = w9.alloc (.cells #[.int .i64 y0, .int .i64 y1, .int .i64 y2, .bool y3, .string y4] 23) := ⟨_, rfl⟩
        rw [← HWa]
        obtain ⟨by', HBy⟩ : ∃ b, Hid (w9.heap.size = b) := ⟨_, rfl⟩
        have BA : Hid (Below w.heap.size w wa) := by
          rw [HWa]
          exact B9.out.alloc B9.out.size _
        have OA : Hid (OwnI w.heap.size wa (.slice (some ⟨bk, 0, none⟩) m cap) K) := by
          rw [HWa]
          exact O9.out.below ((Below.refl _ _).alloc (Nat.le_refl _) _)
        have XA : Hid (BoxAt wa bx x0 x1 x2 x3 x4) := by
          rw [HWa]
          exact X9.out.alloc _
        have YA : Hid (BoxAt wa by' y0 y1 y2 y3 y4) := by
          rw [HWa]
          exact box_new w9 y0 y1 y2 y3 y4 _ HBy.out.symm
        rw [HBy.out]
        clear HWa HBy B9 O9 X9
        go_cut [206] (fun v206 wc => v206 = .bool false ∧ Hid (OwnI w.heap.size wc (.slice (some ⟨bk, 0, none⟩) m cap) K) ∧ Hid (Below w.heap.size w wc))
        case first =>
          obtain ⟨bk', hbk', hbk, hcell⟩ := OA.out.cell j hjl
          obtain rfl : bk = bk' := by simpa using hbk'
          have ck := hcell j hjl
          have hK0 : (0 : Int) ≤ K[j] := by rw [HQ.out]; omega
          have hK7 : K[j] ≤ 7 := by rw [HQ.out]; omega
          have HPrev : Hid (∀ i, j = i + 1 → ∃ P : Int, wa.cell? ⟨bk, i, none⟩ = some (.int .i64 P) ∧ P < K[j]) := fun i hi => ⟨K[i]'(by omega), hcell i (by omega), HRs.out i j (by omega) hjl (by omega)⟩
          obtain ⟨Q, HQ'⟩ : ∃ Q, Hid (K[j] = Q) := ⟨K[j], show K[j] = K[j] from rfl⟩
          rw [HQ'.out] at ck hK0 hK7 HPrev
          clear hcell hbk' HQ' HQ HU HRs
          have d1 : decide (Q < 0) = false := by simp; omega
          have d2 : decide (7 < Q) = false := by simp; omega
          obtain ⟨a0, a1, a2, a3, a4, af⟩ := XA.out
          obtain ⟨e0, e1, e2, e3, e4, ef⟩ := YA.out
          have hbx := XA.out.lt
          have hby := YA.out.lt
          by_cases h0 : j = 0
          · subst h0
            rcases HH.out with ⟨rfl, rfl⟩ | ⟨rfl, rfl⟩ | ⟨rfl, rfl, hv | ⟨hv, hgg⟩ | ⟨hv, hgg, htt⟩⟩
            · as_aux_lemma =>
                clear HH
                dsimp only [List.append]
                go_quiet (fail)
                go_wp2_with fail
                go_meet
                case rel => exact ⟨rfl, OA.out.below (below_drewN _ _ _), BA.out.trans (below_drewN _ _ _)⟩
            · as_aux_lemma =>
                clear HH
                dsimp only [List.append]
                go_quiet (fail)
                go_wp2_with fail
                go_meet
                case rel => exact ⟨rfl, OA.out.below (below_drewN _ _ _), BA.out.trans (below_drewN _ _ _)⟩
            · as_aux_lemma =>
                clear HH
                have hvb : (x1 == y1) = false := by simpa using hv
                clear hv
                dsimp only [List.append]
                go_quiet (fail)
                go_wp2_with fail
                go_meet
                case rel => exact ⟨rfl, OA.out.below (below_drewN _ _ _), BA.out.trans (below_drewN _ _ _)⟩
            · as_aux_lemma =>
                clear HH
                have hvb : (x1 == y1) = true := by simpa using hv
                have hgb : (x3 == y3) = false := by simpa using hgg
                clear hv hgg
                dsimp only [List.append]
                go_quiet (fail)
                go_wp2_with fail
                go_meet
                case rel => exact ⟨rfl, OA.out.below (below_drewN _ _ _), BA.out.trans (below_drewN _ _ _)⟩
            · as_aux_lemma =>
                clear HH
                have hvb : (x1 == y1) = true := by simpa using hv
                have hgb : (x3 == y3) = true := by simpa using hgg
                have htb : (x4.toList == y4.toList) = false := toL_ne htt
                clear hv hgg htt
                dsimp only [List.append]
                go_quiet (fail)
                go_wp2_with fail
                go_meet
                case rel => exact ⟨rfl, OA.out.below (below_drewN _ _ _), BA.out.trans (below_drewN _ _ _)⟩
          · obtain ⟨i, rfl⟩ : ∃ i, j = i + 1 := ⟨j - 1, by omega⟩
            obtain ⟨P, cp, hP⟩ := HPrev.out i rfl
            have g0 : (0 : Int) < ((i : Int) + 1) := by omega
            have g1 : ((i : Int) + 1 - 1) = i := by omega
            have g2 : (i : Int) < (m : Int) := by omega
            have g3 : (0 : Int) ≤ (i : Int) := by omega
            have d3 : decide (Q ≤ P) = false := by simp; omega
            rcases HH.out with ⟨rfl, rfl⟩ | ⟨rfl, rfl⟩ | ⟨rfl, rfl, hv | ⟨hv, hgg⟩ | ⟨hv, hgg, htt⟩⟩
            · as_aux_lemma =>
                clear HH
                dsimp only [List.append]
                go_quiet (fail)
                go_wp2_with fail
                go_meet
                case rel => exact ⟨rfl, OA.out.below (below_drewN _ _ _), BA.out.trans (below_drewN _ _ _)⟩
            · as_aux_lemma =>
                clear HH
                dsimp only [List.append]
                go_quiet (fail)
                go_wp2_with fail
                go_meet
                case rel => exact ⟨rfl, OA.out.below (below_drewN _ _ _), BA.out.trans (below_drewN _ _ _)⟩
            · as_aux_lemma =>
                clear HH
                have hvb : (x1 == y1) = false := by simpa using hv
                clear hv
                dsimp only [List.append]
                go_quiet (fail)
                go_wp2_with fail
                go_meet
                case rel => exact ⟨rfl, OA.out.below (below_drewN _ _ _), BA.out.trans (below_drewN _ _ _)⟩
            · as_aux_lemma =>
                clear HH
                have hvb : (x1 == y1) = true := by simpa using hv
                have hgb : (x3 == y3) = false := by simpa using hgg
                clear hv hgg
                dsimp only [List.append]
                go_quiet (fail)
                go_wp2_with fail
                go_meet
                case rel => exact ⟨rfl, OA.out.below (below_drewN _ _ _), BA.out.trans (below_drewN _ _ _)⟩
            · as_aux_lemma =>
                clear HH
                have hvb : (x1 == y1) = true := by simpa using hv
                have hgb : (x3 == y3) = true := by simpa using hgg
                have htb : (x4.toList == y4.toList) = false := toL_ne htt
                clear hv hgg htt
                dsimp only [List.append]
                go_quiet (fail)
                go_wp2_with fail
                go_meet
                case rel => exact ⟨rfl, OA.out.below (below_drewN _ _ _), BA.out.trans (below_drewN _ _ _)⟩
        case rest =>
          obtain ⟨wb, h⟩ : ∃ x, x = wc := ⟨_, rfl⟩
          subst h
          obtain ⟨rfl, OB, BB⟩ := hcut
          clear BA OA XA YA HH
          go_wp2_with fail
          go_roundw
          case rel => exact ⟨j + 1, by omega, by go_num, OB, BB⟩
          case measure => simp [intOf]; omega
      · obtain rfl : j = m := by omega
        clear HU HRs
        have HAl : Hid (partK (leafN a) (leafN (mixU a b K 8)) 1 = []) := by
          rw [← HK.out]
          exact mixU_alike HGa.out HGb.out
        have HGc : Hid (badL (mixU a b K 8) = 0) := mixU_good K HGa.out HGb.out
        have HLen : Hid (∀ i, i ≤ 8 → (mixU a b K i).length ≤ 100) := fun i hi => Nat.le_trans (mixU_props K HGa.out HGb.out i).1 (by omega)
        go_wp2_with fail
        go_loopw [23, 24] (fun s23 s24 wr => ∃ (i : Nat) (v23 : Value), s23 = v23 ∧ i ≤ 8 ∧ s24 = .int .i64 i ∧ Hid (wr.ownsRow w.heap.size 23 5 v23 (mixU a b K i).length (rowC (mixU a b K i))) ∧ Hid (OwnI w.heap.size wr (.slice p j cap) K) ∧ Hid (Below w.heap.size w wr)) (fun _ s _ => 8 - (intOf s).toNat)
        case atStart => exact ⟨0, .slice none 0 0, rfl, Nat.zero_le _, rfl, World.ownsRow_nil _ _ _ _, OR, BR⟩
        case round =>
          clear OR BR
          obtain ⟨i, v23, hs23, hi8, rfl, CR, OR, BR⟩ := hrel
          have hs23' := hs23.symm
          clear hs23
          subst hs23'
          by_cases hlt8 : i < 8
          · have hlt8i : (i : Int) < 8 := by omega
            obtain ⟨c, HIn⟩ : ∃ c, Hid (K.contains (i : Int) = c) := ⟨_, rfl⟩
            obtain ⟨VF, HVF⟩ : ∃ VF, Hid (VF = if K.contains (i : Int) = true then va else vb) := ⟨_, rfl⟩
            have HRF : Hid (RowIs w VF (fromU a b K i)) := by
              rw [HVF.out]
              unfold fromU
              by_cases hc : K.contains (i : Int) = true
              · rw [if_pos hc, if_pos hc]
                exact HRa
              · rw [if_neg hc, if_neg hc]
                exact HRb
            obtain ⟨x0, x1, x2, x3, x4, EV, cF, hF⟩ := getP_e VF (fromU a b K i) i (fromU_good HGa.out HGb.out) hlt8 w HRF.out
            have HCF : Hid (∀ w', Below w.heap.size w w' → Calls Tryd.prog 23 #[VF, .int .i64 (i : Nat)] w' fun e w'' => e = .returned (.tuple #[.agg #[.int .i64 x0, .int .i64 x1, .int .i64 x2, .bool x3, .string x4], EV]) ∧ Below w'.heap.size w' w'') := cF
            have HF := (show Hid (_ ∨ _) from hF)
            clear cF hF HRF
            have HOi : Hid (IntsIs wr (.slice p j cap) K) := OR.out.ints
            go_wp2_with fail
            refine (in_o _ K (i : Int) c HIn.out _ HOi.out).mono ?_
            rintro e w7 ⟨rfl, hb⟩
            have B7 : Hid (Below w.heap.size w w7) := BR.out.trans (hb.mono BR.out.size)
            have O7 : Hid (OwnI w.heap.size w7 (.slice p j cap) K) := OR.out.below hb
            have C7 : Hid (w7.ownsRow w.heap.size 23 5 v23 (mixU a b K i).length (rowC (mixU a b K i))) := ownsRow_belowF CR.out hb
            clear hb OR BR CR HOi
            go_upto_if 215 with fail
            go_cut [26] (fun v26 wc => v26 = VF ∧ wc = w7)
            case first =>
              cases c with
              | true =>
                go_wp2_with fail
                go_meet
                case rel => exact ⟨by rw [HVF.out, if_pos HIn.out], rfl⟩
              | false =>
                go_wp2_with fail
                go_meet
                case rel => exact ⟨by rw [HVF.out, if_neg (by rw [HIn.out]; simp)], rfl⟩
            case rest =>
              obtain ⟨hvf, hwc⟩ := hcut
              subst hwc
              subst hvf
              go_wp2_with fail
              refine (HCF.out _ B7.out).mono ?_
              rintro e w8 ⟨rfl, hb⟩
              have B8 : Hid (Below w.heap.size w w8) := B7.out.trans (hb.mono B7.out.size)
              have O8 : Hid (OwnI w.heap.size w8 (.slice p j cap) K) := O7.out.below hb
              have C8 : Hid (w8.ownsRow w.heap.size 23 5 v23 (mixU a b K i).length (rowC (mixU a b K i))) := ownsRow_belowF C7.out hb
              clear hb B7 O7 C7 HCF
              go_upto_region 28 with fail
              obtain ⟨w9, HW9⟩ : ∃ x, x = w8.alloc (.cells #[.int .i64 x0, .int .i64 x1, .int .i64 x2, .bool x3, .string x4] 23) := ⟨_, rfl⟩
              rw [← HW9]
              obtain ⟨bx, HBx⟩ : ∃ b, Hid (w8.heap.size = b) := ⟨_, rfl⟩
              have B9 : Hid (Below w.heap.size w w9) := by
                rw [HW9]
                exact B8.out.alloc B8.out.size _
              have O9 : Hid (OwnI w.heap.size w9 (.slice p j cap) K) := by
                rw [HW9]
                exact O8.out.below ((Below.refl _ _).alloc (Nat.le_refl _) _)
              have C9 : Hid (w9.ownsRow w.heap.size 23 5 v23 (mixU a b K i).length (rowC (mixU a b K i))) := by
                rw [HW9]
                exact ownsRow_belowF C8.out ((Below.refl _ _).alloc (Nat.le_refl _) _)
              have X9 : Hid (BoxAt w9 bx x0 x1 x2 x3 x4) := by
                rw [HW9]
                exact box_new w8 x0 x1 x2 x3 x4 _ HBx.out.symm
              rw [HBx.out]
              clear HW9 HBx B8 O8 C8
              have HL9 : Hid ((mixU a b K i).length ≤ 100) := HLen.out i hi8
              rcases HF.out with ⟨rfl, hget⟩ | ⟨rfl, hget⟩
              · have HE : Hid (mixU a b K (i + 1) = mixU a b K i ++ [En.mk x0 x1 x2 x3 x4]) := mixU_some hget
                clear hget HF
                obtain ⟨xs, HXs⟩ : ∃ xs, Hid (mixU a b K i = xs) := ⟨_, rfl⟩
                rw [HXs.out] at C9 HE HL9
                clear HXs
                have BA : Hid (Below w.heap.size w (w9.alloc (.cells #[.int .i64 x0, .int .i64 x1, .int .i64 x2, .bool x3, .string x4] 23))) := B9.out.alloc B9.out.size _
                have CA : Hid ((w9.alloc (.cells #[.int .i64 x0, .int .i64 x1, .int .i64 x2, .bool x3, .string x4] 23)).ownsRow w.heap.size 23 5 v23 xs.length (rowC xs)) := C9.out.alloc _
                have OA : Hid (OwnI w.heap.size (w9.alloc (.cells #[.int .i64 x0, .int .i64 x1, .int .i64 x2, .bool x3, .string x4] 23)) (.slice p j cap) K) := O9.out.below ((Below.refl _ _).alloc (Nat.le_refl _) _)
                have VA : Hid ((w9.alloc (.cells #[.int .i64 x0, .int .i64 x1, .int .i64 x2, .bool x3, .string x4] 23)).heap[w9.heap.size]? = some (.cells (En.cells (En.mk x0 x1 x2 x3 x4)).toArray 23 (0, 0))) := alloc_at _ _ _ rfl
                have SA : Hid (w.heap.size ≤ (w9.alloc (.cells #[.int .i64 x0, .int .i64 x1, .int .i64 x2, .bool x3, .string x4] 23)).heap.size) := BA.out.size
                obtain ⟨a0, a1, a2, a3, a4, af⟩ := X9.out
                have hbx := X9.out.lt
                go_wp2_with (at_builtin; refine wp_app _ rfl _ _ rfl w.heap.size _ xs (En.mk x0 x1 x2 x3 x4) rfl CA.out _ rfl VA.out HL9.out SA.out ?_)
                intro vc wb hown hgrow
                have CB : Hid (wb.ownsRow w.heap.size 23 5 vc (xs ++ [En.mk x0 x1 x2 x3 x4]).length (rowC (xs ++ [En.mk x0 x1 x2 x3 x4]))) := hown
                have OB : Hid (OwnI w.heap.size wb (.slice p j cap) K) := own_beside OA.out CA.out (by decide) hgrow.out
                have BB : Hid (Below w.heap.size w wb) := below_grownF BA.out (Nat.le_refl _) hgrow.out (fun c hc => ownsRow_fromF CA.out c hc)
                clear hown hgrow BA CA OA VA SA a0 a1 a2 a3 a4 af hbx X9 B9 O9 C9
                go_wp2_with fail
                go_roundw
                case rel =>
                  refine ⟨i + 1, vc, rfl, by omega, by go_num, ?_, OB, BB⟩
                  show World.ownsRow _ _ _ _ _ _ _
                  rw [HE.out]
                  exact CB.out
                case measure => simp [intOf]; omega
              · have HE : Hid (mixU a b K (i + 1) = mixU a b K i) := mixU_none hget
                clear hget HF
                go_wp2_with fail
                go_roundw
                case rel =>
                  refine ⟨i + 1, v23, rfl, by omega, by go_num, ?_, O9, B9⟩
                  show World.ownsRow _ _ _ _ _ _ _
                  rw [HE.out]
                  exact C9.out
                case measure => simp [intOf]; omega
          · obtain rfl : i = 8 := by omega
            obtain ⟨N3, HN3⟩ : ∃ N3, Hid (partN (leafN a) (leafN (mixU a b K 8)) 1 = N3) := ⟨_, rfl⟩
            have HRc : Hid (RowIs wr v23 (mixU a b K 8)) := RowIs.own CR.out
            have HC4 : Hid (Calls Tryd.prog 21 #[va, v23] wr fun e w'' => ∃ v', e = .returned (.tuple #[v', .int .i64 (N3 : Nat), .nilIface]) ∧ OwnI wr.heap.size w'' v' [] ∧ Below wr.heap.size wr w'') := diff_p va v23 a (mixU a b K 8) wr (HRa.out.below BR.out) HRc.out HGa.out HGc.out (Lib.tabBelow_of_tabIs (HT.out _ BR.out)) [] N3 HAl.out HN3.out wr (Below.refl _ _)
            clear CR HRc HLen
            go_wp2_with fail
            refine HC4.out.mono ?_
            rintro e w7 ⟨v7, rfl, ho, hb⟩
            have B7 : Hid (Below w.heap.size w w7) := BR.out.trans (hb.mono BR.out.size)
            obtain ⟨p7, cap7, rfl⟩ := ho.slice
            clear hb ho BR OR
            go_wp2_with fail
            go_ret
            exact ⟨rfl, B7.out⟩
  · obtain ⟨n, c⟩ := diff_fails va vb a b w2 (HRa.out.below B2.out) (HRb.out.below B2.out) hgood (HT.out _ B2.out)
    have HC := (show Hid (Calls _ _ _ _ _) from c)
    clear c hgood
    go_wp2_with fail
    refine HC.out.mono ?_
    rintro e w3 ⟨rfl, hb⟩
    have B3 : Hid (Below w.heap.size w w3) := B2.out.trans (hb.mono B2.out.size)
    clear hb HC
    go_wp2_with fail
    go_ret
    exact ⟨rfl, B3.out⟩
end Go.Proofs.YtpfljcacdcpojadDoor
