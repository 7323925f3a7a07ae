/-
  Package entry by its contracts: what two entries of one key know; whether one is true at a number.
-/
import Derived.Test.YtpcnfoaoajfhlaaDoorEn2
import Derived.BigRegion
namespace Go.Proofs.YtpcnfoaoajfhlaaDoor
set_option linter.unusedVariables false
set_option linter.unusedSimpArgs false
open Go.RowKit
set_option maxHeartbeats 4000000 in
theorem join_same (ka va aa : Int) (ga : Bool) (ta : ByteArray) (kb vb ab : Int) (gb : Bool) (tb : ByteArray) (w : World) (h : bad2 (bad ka va aa ga ta) (bad kb vb ab gb tb) = 0) (hk : ka = kb) :
    Calls Tryd.prog 106 #[.agg #[.int .i64 ka, .int .i64 va, .int .i64 aa, .bool ga, .string ta], .agg #[.int .i64 kb, .int .i64 vb, .int .i64 ab, .bool gb, .string tb]] w fun e w' => e = .returned (.tuple #[(joinE ⟨ka, va, aa, ga, ta⟩ ⟨kb, vb, ab, gb, tb⟩).1.val, eV (joinE ⟨ka, va, aa, ga, ta⟩ ⟨kb, vb, ab, gb, tb⟩).2]) ∧ Below w.heap.size w w' := by
  have H : Hid (bad2 (bad ka va aa ga ta) (bad kb vb ab gb tb) = 0) := h
  clear h
  subst hk
  have HJ : Hid (joinE ⟨ka, va, aa, ga, ta⟩ ⟨ka, vb, ab, gb, tb⟩ = if newerB va aa vb ab = true then (if clashB vb ab gb tb va ga ta = true then (⟨0, 0, 0, false, ⟨#[]⟩⟩, 7) else (⟨ka, va, aa, ga, ta⟩, 0)) else if clashB va aa ga ta vb gb tb = true then (⟨0, 0, 0, false, ⟨#[]⟩⟩, 7) else (⟨ka, vb, ab, gb, tb⟩, 0)) := by
    show joinE _ _ = _
    unfold joinE
    rw [if_neg (by simpa using H.out), if_neg (by simp)]
  obtain ⟨nb, HN⟩ : ∃ b, Hid (newerB va aa vb ab = b) := ⟨_, rfl⟩
  obtain ⟨J, HE⟩ : ∃ J, Hid (joinE ⟨ka, va, aa, ga, ta⟩ ⟨ka, vb, ab, gb, tb⟩ = J) := ⟨_, rfl⟩
  rw [HE.out]
  go_enter Tryd.func106, Tryd.ntmps106
  go_wp2_with fail
  refine (all_c (w.heap.size + 1 + 1 + 1) ka va aa ga ta ka vb ab gb tb _ (alloc_at _ _ _ (by simp))).mono ?_
  rintro e w1 ⟨rfl, hb⟩
  rw [H.out, eV, if_pos rfl]
  have B1 : Hid (Below w.heap.size w w1) := Below.trans (by go_grown) (hb.mono (by simp; omega))
  obtain ⟨e0, e1, e2, e3, e4, ef⟩ := ((box_new _ 0 0 0 false ⟨#[]⟩ (w.heap.size + 1 + 1) (by simp)).alloc _).below hb (by simp)
  obtain ⟨a0, a1, a2, a3, a4, af⟩ := ((((box_new w ka va aa ga ta w.heap.size rfl).alloc _).alloc _).alloc _).below hb (by simp; omega)
  obtain ⟨b0, b1, b2, b3, b4, bf⟩ := (((box_new _ ka vb ab gb tb (w.heap.size + 1) (by simp)).alloc _).alloc _).below hb (by simp)
  have hz : w.heap.size + 4 ≤ w1.heap.size := by have := hb.size; simp at this; omega
  have p1 : w.heap.size < w1.heap.size := by omega
  have p2 : ¬ w.heap.size = w1.heap.size := by omega
  have p3 : w.heap.size < w1.heap.size + 1 := by omega
  have p4 : ¬ w.heap.size = w1.heap.size + 1 := by omega
  have q1 : w.heap.size + 1 < w1.heap.size := by omega
  have q2 : ¬ w.heap.size + 1 = w1.heap.size := by omega
  have q3 : w.heap.size + 1 < w1.heap.size + 1 := by omega
  have q4 : ¬ w.heap.size + 1 = w1.heap.size + 1 := by omega
  have r1 : w.heap.size + 1 + 1 < w1.heap.size := by omega
  have r2 : ¬ w.heap.size + 1 + 1 = w1.heap.size := by omega
  have r3 : w.heap.size + 1 + 1 < w1.heap.size + 1 := by omega
  have r4 : ¬ w.heap.size + 1 + 1 = w1.heap.size + 1 := by omega
  clear hb hz
  go_upto_region 6 with fail
  go_cut [7, 8] (fun v7 v8 wc => ∃ O N : Nat, v7 = .pointer (some ⟨O, 0, none⟩) ∧ v8 = .pointer (some ⟨N, 0, none⟩) ∧ O ≠ N ∧ w.heap.size + 3 ≤ O ∧ w.heap.size + 3 ≤ N ∧ BoxAt wc O ka va aa ga ta ∧ BoxAt wc N ka vb ab gb tb ∧ Hid (Below w1.heap.size w1 wc))
  case first =>
    as_aux_lemma =>
      go_region
      · go_wp2_with fail
        go_meet
        case rel => 
          refine ⟨_, _, rfl, rfl, by omega, by omega, by omega, ?_, ?_, ?_⟩
          · exact ((box_new _ _ _ _ _ _ _ rfl).alloc _).drew
          · exact (box_new _ _ _ _ _ _ _ (by simp)).drew
          · show Below _ _ _; go_grown
      · go_wp2_with fail
        go_meet
        case rel => 
          refine ⟨_, _, rfl, rfl, by omega, by omega, by omega, ?_, ?_, ?_⟩
          · exact (box_new _ _ _ _ _ _ _ (by simp)).drew
          · exact ((box_new _ _ _ _ _ _ _ rfl).alloc _).drew
          · show Below _ _ _; go_grown
  case rest =>
    obtain ⟨w2, h⟩ : ∃ x, x = wc := ⟨_, rfl⟩
    subst h
    obtain ⟨O, N, rfl, rfl, hON, hO, hN, bO, bN, HB2⟩ := hcut
    have A2 := (BoxAt.mk a0 a1 a2 a3 a4 af).below HB2.out p1
    have R2 := (BoxAt.mk e0 e1 e2 e3 e4 ef).below HB2.out r1
    have D2 := (BoxAt.mk b0 b1 b2 b3 b4 bf).below HB2.out q1
    clear a0 a1 a2 a3 a4 af b0 b1 b2 b3 b4 bf e0 e1 e2 e3 e4 ef
    have X2 : Hid (BoxAt w2 w.heap.size ka va aa ga ta) := A2
    have Y2 : Hid (BoxAt w2 (w.heap.size + 1) ka vb ab gb tb) := D2
    have Z2 : Hid (BoxAt w2 (w.heap.size + 1 + 1) 0 0 0 false ⟨#[]⟩) := R2
    have O2 : Hid (BoxAt w2 O ka va aa ga ta) := bO
    have N2 : Hid (BoxAt w2 N ka vb ab gb tb) := bN
    obtain ⟨a0, a1, a2, a3, a4, af⟩ := A2
    obtain ⟨b0, b1, b2, b3, b4, bf⟩ := D2
    clear R2 bO bN
    go_wp2_with fail
    refine (isNewer_c ka va aa ga ta ka vb ab gb tb _).mono ?_
    rintro e w3 ⟨rfl, hb⟩
    rw [HN.out]
    have hsz := hb.size
    have oL := O2.out.lt
    have nL := N2.out.lt
    have B3 : Hid (Below w.heap.size w w3) := (B1.out.trans (HB2.out.mono B1.out.size)).trans (hb.mono (by omega))
    obtain ⟨a0, a1, a2, a3, a4, af⟩ := X2.out.below hb X2.out.lt
    obtain ⟨b0, b1, b2, b3, b4, bf⟩ := Y2.out.below hb Y2.out.lt
    obtain ⟨e0, e1, e2, e3, e4, ef⟩ := Z2.out.below hb Z2.out.lt
    obtain ⟨o0, o1, o2, o3, o4, of⟩ := O2.out.below hb O2.out.lt
    obtain ⟨n0, n1, n2, n3, n4, nf⟩ := N2.out.below hb N2.out.lt
    clear hb
    have g1 : ¬ O = N := hON
    have g2 : ¬ N = O := fun h => hON h.symm
    have fO0 : ¬ O = w.heap.size := by omega
    have kO0 : ¬ w.heap.size = O := by omega
    have fO1 : ¬ O = w.heap.size + 1 := by omega
    have kO1 : ¬ w.heap.size + 1 = O := by omega
    have fO2 : ¬ O = w.heap.size + 1 + 1 := by omega
    have kO2 : ¬ w.heap.size + 1 + 1 = O := by omega
    have fN0 : ¬ N = w.heap.size := by omega
    have kN0 : ¬ w.heap.size = N := by omega
    have fN1 : ¬ N = w.heap.size + 1 := by omega
    have kN1 : ¬ w.heap.size + 1 = N := by omega
    have fN2 : ¬ N = w.heap.size + 1 + 1 := by omega
    have kN2 : ¬ w.heap.size + 1 + 1 = N := by omega
    cases nb
    · go_wp2_with fail
      obtain ⟨cb, HC⟩ : ∃ b, Hid (clashB va aa ga ta vb gb tb = b) := ⟨_, rfl⟩
      refine (clash_c ka va aa ga ta ka vb ab gb tb _).mono ?_
      rintro e w4 ⟨rfl, hb⟩
      rw [HC.out]
      have B4 : Hid (Below w.heap.size w w4) := B3.out.trans (hb.mono B3.out.size)
      obtain ⟨n0, n1, n2, n3, n4, nf⟩ := BoxAt.below (BoxAt.mk n0 n1 n2 n3 n4 nf) hb (BoxAt.mk n0 n1 n2 n3 n4 nf).lt
      obtain ⟨e0, e1, e2, e3, e4, ef⟩ := BoxAt.below (BoxAt.mk e0 e1 e2 e3 e4 ef) hb (BoxAt.mk e0 e1 e2 e3 e4 ef).lt
      clear hb
      cases cb
      · go_wp2_with fail
        refine bodyPost_ret (v := .tuple #[.agg #[.int .i64 ka, .int .i64 vb, .int .i64 ab, .bool gb, .string tb], .nilIface]) (by simp [results, Tryd.results106, go_sem, e0, e1, e2, e3, e4]) rfl ?_
        refine ⟨by rw [← HE.out, HJ.out, HN.out, HC.out]; rfl, ?_⟩
        have hb := B4.out
        go_grown
      · go_wp2_with fail
        refine bodyPost_ret (v := .tuple #[.agg #[.int .i64 0, .int .i64 0, .int .i64 0, .bool false, .string ⟨#[]⟩], .iface 71 (.int .i64 7)]) (by simp [results, Tryd.results106, go_sem, e0, e1, e2, e3, e4]) rfl ?_
        refine ⟨by rw [← HE.out, HJ.out, HN.out, HC.out]; rfl, ?_⟩
        have hb := B4.out
        go_grown
    · go_upto_region 8 with fail
      go_cut [7] (fun v7 wc => v7 = .pointer (some ⟨O, 0, none⟩) ∧ BoxAt wc O ka vb ab gb tb ∧ BoxAt wc N ka va aa ga ta ∧ BoxAt wc (w.heap.size + 1 + 1) 0 0 0 false ⟨#[]⟩ ∧ Hid (Below w.heap.size w wc))
      case first =>
        go_region
        go_wp2_with fail
        go_meet
        case rel =>
          have t1 := (((BoxAt.mk o0 o1 o2 o3 o4 of).set ka vb ab gb tb).other g1 (.int .i64 ka) (.int .i64 va) (.int .i64 aa) (.bool ga) (.string ta)).drew
          have t2 := (((BoxAt.mk n0 n1 n2 n3 n4 nf).other g2 (.int .i64 ka) (.int .i64 vb) (.int .i64 ab) (.bool gb) (.string tb)).set ka va aa ga ta).drew
          have t3 := (((BoxAt.mk e0 e1 e2 e3 e4 ef).other kO2 (.int .i64 ka) (.int .i64 vb) (.int .i64 ab) (.bool gb) (.string tb)).other kN2 (.int .i64 ka) (.int .i64 va) (.int .i64 aa) (.bool ga) (.string ta)).drew
          refine ⟨rfl, t1, t2, t3, ?_⟩
          have hb := B3.out
          have hO1 : w.heap.size ≤ O := by omega
          have hN1 : w.heap.size ≤ N := by omega
          show Below _ _ _
          exact ((((((((((hb.setCell hO1 _).setCell hO1 _).setCell hO1 _).setCell hO1 _).setCell hO1 _).setCell hN1 _).setCell hN1 _).setCell hN1 _).setCell hN1 _).setCell hN1 _).drew
      case rest =>
        obtain ⟨w5, h⟩ : ∃ x, x = wc := ⟨_, rfl⟩
        subst h
        obtain ⟨rfl, bO, bN, bR, B5⟩ := hcut
        have hN5 : Hid (BoxAt w5 N ka va aa ga ta) := bN
        have hR5 : Hid (BoxAt w5 (w.heap.size + 1 + 1) 0 0 0 false ⟨#[]⟩) := bR
        clear a0 a1 a2 a3 a4 af b0 b1 b2 b3 b4 bf e0 e1 e2 e3 e4 ef o0 o1 o2 o3 o4 of n0 n1 n2 n3 n4 nf bR
        obtain ⟨o0, o1, o2, o3, o4, of⟩ := bO
        obtain ⟨n0, n1, n2, n3, n4, nf⟩ := bN
        go_wp2_with fail
        obtain ⟨cb, HC⟩ : ∃ b, Hid (clashB vb ab gb tb va ga ta = b) := ⟨_, rfl⟩
        refine (clash_c ka vb ab gb tb ka va aa ga ta _).mono ?_
        rintro e w4 ⟨rfl, hb⟩
        rw [HC.out]
        have B4 : Hid (Below w.heap.size w w4) := B5.out.trans (hb.mono B5.out.size)
        obtain ⟨n0, n1, n2, n3, n4, nf⟩ := BoxAt.below (hN5.out) hb (hN5.out).lt
        obtain ⟨e0, e1, e2, e3, e4, ef⟩ := BoxAt.below (hR5.out) hb (hR5.out).lt
        clear hb
        cases cb
        · go_wp2_with fail
          refine bodyPost_ret (v := .tuple #[.agg #[.int .i64 ka, .int .i64 va, .int .i64 aa, .bool ga, .string ta], .nilIface]) (by simp [results, Tryd.results106, go_sem, e0, e1, e2, e3, e4]) rfl ?_
          refine ⟨by rw [← HE.out, HJ.out, HN.out, HC.out]; rfl, ?_⟩
          have hb := B4.out
          go_grown
        · go_wp2_with fail
          refine bodyPost_ret (v := .tuple #[.agg #[.int .i64 0, .int .i64 0, .int .i64 0, .bool false, .string ⟨#[]⟩], .iface 71 (.int .i64 7)]) (by simp [results, Tryd.results106, go_sem, e0, e1, e2, e3, e4]) rfl ?_
          refine ⟨by rw [← HE.out, HJ.out, HN.out, HC.out]; rfl, ?_⟩
          have hb := B4.out
          go_grown
end Go.Proofs.YtpcnfoaoajfhlaaDoor
