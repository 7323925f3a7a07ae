/-
  Package entry by its contracts: what two entries of one key know; whether one is true at a number.
  Package entry by its contracts: Join of any two entries; True.
  A cache in memory: a row of entries; what is wrong with one, as plain functions.
  Package cache by its contracts: Check.
-/
import Derived.Test.YtpcnfoaoajfhlaaGreatDoorRaaa
import Derived.BigRegion
import Derived.BigQuiet
namespace Go.Proofs.YtpcnfoaoajfhlaaGreatDoor
set_option linter.unusedVariables false
set_option linter.unusedSimpArgs false
set_option linter.unusedVariables false
set_option linter.unusedSimpArgs false
open Go.RowKit
set_option maxHeartbeats 4000000 in
theorem join_same (ka va aa : Int) (ga : Bool) (ta : ByteArray) (kb vb ab : Int) (gb : Bool) (tb : ByteArray) (w : World) (h : bad2 (bad ka va aa ga ta) (bad kb vb ab gb tb) = 0) (hk : ka = kb) :
    Calls Tryz.prog 119 #[.agg #[.int .i64 ka, .int .i64 va, .int .i64 aa, .bool ga, .string ta], .agg #[.int .i64 kb, .int .i64 vb, .int .i64 ab, .bool gb, .string tb]] w fun e w' => e = .returned (.tuple #[(joinE ⟨ka, va, aa, ga, ta⟩ ⟨kb, vb, ab, gb, tb⟩).1.val, eV (joinE ⟨ka, va, aa, ga, ta⟩ ⟨kb, vb, ab, gb, tb⟩).2]) ∧ Below w.heap.size w w' := by
  have H : Hid (bad2 (bad ka va aa ga ta) (bad kb vb ab gb tb) = 0) := h
  clear h
  subst hk
  have HJ : Hid (joinE ⟨ka, va, aa, ga, ta⟩ ⟨ka, vb, ab, gb, tb⟩ = if newerB va aa vb ab = true then (if clashB vb ab gb tb va ga ta = true then (⟨0, 0, 0, false, ⟨#[]⟩⟩, 7) else (⟨ka, va, aa, ga, ta⟩, 0)) else if clashB va aa ga ta vb gb tb = true then (⟨0, 0, 0, false, ⟨#[]⟩⟩, 7) else (⟨ka, vb, ab, gb, tb⟩, 0)) := by
    show joinE _ _ = _
    unfold joinE
    rw [if_neg (by simpa using H.out), if_neg (by simp)]
  obtain ⟨nb, HN⟩ : ∃ b, Hid (newerB va aa vb ab = b) := ⟨_, rfl⟩
  obtain ⟨J, HE⟩ : ∃ J, Hid (joinE ⟨ka, va, aa, ga, ta⟩ ⟨ka, vb, ab, gb, tb⟩ = J) := ⟨_, rfl⟩
  rw [HE.out]
  go_enter Tryz.func119, Tryz.ntmps119
  go_wp2_with fail
  refine (all_c (w.heap.size + 1 + 1 + 1) ka va aa ga ta ka vb ab gb tb _ (alloc_at _ _ _ (by simp))).mono ?_
  rintro e w1 ⟨rfl, hb⟩
  rw [H.out, eV, if_pos rfl]
  have B1 : Hid (Below w.heap.size w w1) := Below.trans (by go_grown) (hb.mono (by simp; omega))
  obtain ⟨e0, e1, e2, e3, e4, ef⟩ := ((box_new _ 0 0 0 false ⟨#[]⟩ (w.heap.size + 1 + 1) (by simp)).alloc _).below hb (by simp)
  obtain ⟨a0, a1, a2, a3, a4, af⟩ := ((((box_new w ka va aa ga ta w.heap.size rfl).alloc _).alloc _).alloc _).below hb (by simp; omega)
  obtain ⟨b0, b1, b2, b3, b4, bf⟩ := (((box_new _ ka vb ab gb tb (w.heap.size + 1) (by simp)).alloc _).alloc _).below hb (by simp)
  have hz : w.heap.size + 4 ≤ w1.heap.size := by have := hb.size; simp at this; omega
  have p1 : w.heap.size < w1.heap.size := by omega
  have p2 : ¬ w.heap.size = w1.heap.size := by omega
  have p3 : w.heap.size < w1.heap.size + 1 := by omega
  have p4 : ¬ w.heap.size = w1.heap.size + 1 := by omega
  have q1 : w.heap.size + 1 < w1.heap.size := by omega
  have q2 : ¬ w.heap.size + 1 = w1.heap.size := by omega
  have q3 : w.heap.size + 1 < w1.heap.size + 1 := by omega
  have q4 : ¬ w.heap.size + 1 = w1.heap.size + 1 := by omega
  have r1 : w.heap.size + 1 + 1 < w1.heap.size := by omega
  have r2 : ¬ w.heap.size + 1 + 1 = w1.heap.size := by omega
  have r3 : w.heap.size + 1 + 1 < w1.heap.size + 1 := by omega
  have r4 : ¬ w.heap.size + 1 + 1 = w1.heap.size + 1 := by omega
  clear hb hz
  go_upto_region 6 with fail
  go_cut [7, 8] (fun v7 v8 wc => ∃ O N : Nat, v7 = .pointer (some ⟨O, 0, none⟩) ∧ v8 = .pointer (some ⟨N, 0, none⟩) ∧ O ≠ N ∧ w.heap.size + 3 ≤ O ∧ w.heap.size + 3 ≤ N ∧ BoxAt wc O ka va aa ga ta ∧ BoxAt wc N ka vb ab gb tb ∧ Hid (Below w1.heap.size w1 wc))
  case first =>
    as_aux_lemma =>
      go_region
      · go_wp2_with fail
        go_meet
        case rel => 
          refine ⟨_, _, rfl, rfl, by omega, by omega, by omega, ?_, ?_, ?_⟩
          · exact ((box_new _ _ _ _ _ _ _ rfl).alloc _).drew
          · exact (box_new _ _ _ _ _ _ _ (by simp)).drew
          · show Below _ _ _; go_grown
      · go_wp2_with fail
        go_meet
        case rel => 
          refine ⟨_, _, rfl, rfl, by omega, by omega, by omega, ?_, ?_, ?_⟩
          · exact (box_new _ _ _ _ _ _ _ (by simp)).drew
          · exact ((box_new _ _ _ _ _ _ _ rfl).alloc _).drew
          · show Below _ _ _; go_grown
  case rest =>
    obtain ⟨w2, h⟩ : ∃ x, x = wc := ⟨_, rfl⟩
    subst h
    obtain ⟨O, N, rfl, rfl, hON, hO, hN, bO, bN, HB2⟩ := hcut
    have A2 := (BoxAt.mk a0 a1 a2 a3 a4 af).below HB2.out p1
    have R2 := (BoxAt.mk e0 e1 e2 e3 e4 ef).below HB2.out r1
    have D2 := (BoxAt.mk b0 b1 b2 b3 b4 bf).below HB2.out q1
    clear a0 a1 a2 a3 a4 af b0 b1 b2 b3 b4 bf e0 e1 e2 e3 e4 ef
    have X2 : Hid (BoxAt w2 w.heap.size ka va aa ga ta) := A2
    have Y2 : Hid (BoxAt w2 (w.heap.size + 1) ka vb ab gb tb) := D2
    have Z2 : Hid (BoxAt w2 (w.heap.size + 1 + 1) 0 0 0 false ⟨#[]⟩) := R2
    have O2 : Hid (BoxAt w2 O ka va aa ga ta) := bO
    have N2 : Hid (BoxAt w2 N ka vb ab gb tb) := bN
    obtain ⟨a0, a1, a2, a3, a4, af⟩ := A2
    obtain ⟨b0, b1, b2, b3, b4, bf⟩ := D2
    clear R2 bO bN
    go_wp2_with fail
    refine (isNewer_c ka va aa ga ta ka vb ab gb tb _).mono ?_
    rintro e w3 ⟨rfl, hb⟩
    rw [HN.out]
    have hsz := hb.size
    have oL := O2.out.lt
    have nL := N2.out.lt
    have B3 : Hid (Below w.heap.size w w3) := (B1.out.trans (HB2.out.mono B1.out.size)).trans (hb.mono (by omega))
    obtain ⟨a0, a1, a2, a3, a4, af⟩ := X2.out.below hb X2.out.lt
    obtain ⟨b0, b1, b2, b3, b4, bf⟩ := Y2.out.below hb Y2.out.lt
    obtain ⟨e0, e1, e2, e3, e4, ef⟩ := Z2.out.below hb Z2.out.lt
    obtain ⟨o0, o1, o2, o3, o4, of⟩ := O2.out.below hb O2.out.lt
    obtain ⟨n0, n1, n2, n3, n4, nf⟩ := N2.out.below hb N2.out.lt
    clear hb
    have g1 : ¬ O = N := hON
    have g2 : ¬ N = O := fun h => hON h.symm
    have fO0 : ¬ O = w.heap.size := by omega
    have kO0 : ¬ w.heap.size = O := by omega
    have fO1 : ¬ O = w.heap.size + 1 := by omega
    have kO1 : ¬ w.heap.size + 1 = O := by omega
    have fO2 : ¬ O = w.heap.size + 1 + 1 := by omega
    have kO2 : ¬ w.heap.size + 1 + 1 = O := by omega
    have fN0 : ¬ N = w.heap.size := by omega
    have kN0 : ¬ w.heap.size = N := by omega
    have fN1 : ¬ N = w.heap.size + 1 := by omega
    have kN1 : ¬ w.heap.size + 1 = N := by omega
    have fN2 : ¬ N = w.heap.size + 1 + 1 := by omega
    have kN2 : ¬ w.heap.size + 1 + 1 = N := by omega
    cases nb
    · go_wp2_with fail
      obtain ⟨cb, HC⟩ : ∃ b, Hid (clashB va aa ga ta vb gb tb = b) := ⟨_, rfl⟩
      refine (clash_c ka va aa ga ta ka vb ab gb tb _).mono ?_
      rintro e w4 ⟨rfl, hb⟩
      rw [HC.out]
      have B4 : Hid (Below w.heap.size w w4) := B3.out.trans (hb.mono B3.out.size)
      obtain ⟨n0, n1, n2, n3, n4, nf⟩ := BoxAt.below (BoxAt.mk n0 n1 n2 n3 n4 nf) hb (BoxAt.mk n0 n1 n2 n3 n4 nf).lt
      obtain ⟨e0, e1, e2, e3, e4, ef⟩ := BoxAt.below (BoxAt.mk e0 e1 e2 e3 e4 ef) hb (BoxAt.mk e0 e1 e2 e3 e4 ef).lt
      clear hb
      cases cb
      · go_wp2_with fail
        refine bodyPost_ret (v := .tuple #[.agg #[.int .i64 ka, .int .i64 vb, .int .i64 ab, .bool gb, .string tb], .nilIface]) (by simp [results, Tryz.results119, go_sem, e0, e1, e2, e3, e4]) rfl ?_
        refine ⟨by rw [← HE.out, HJ.out, HN.out, HC.out]; rfl, ?_⟩
        have hb := B4.out
        go_grown
      · go_wp2_with fail
        refine bodyPost_ret (v := .tuple #[.agg #[.int .i64 0, .int .i64 0, .int .i64 0, .bool false, .string ⟨#[]⟩], .iface 85 (.int .i64 7)]) (by simp [results, Tryz.results119, go_sem, e0, e1, e2, e3, e4]) rfl ?_
        refine ⟨by rw [← HE.out, HJ.out, HN.out, HC.out]; rfl, ?_⟩
        have hb := B4.out
        go_grown
    · go_upto_region 8 with fail
      go_cut [7] (fun v7 wc => v7 = .pointer (some ⟨O, 0, none⟩) ∧ BoxAt wc O ka vb ab gb tb ∧ BoxAt wc N ka va aa ga ta ∧ BoxAt wc (w.heap.size + 1 + 1) 0 0 0 false ⟨#[]⟩ ∧ Hid (Below w.heap.size w wc))
      case first =>
        go_region
        go_wp2_with fail
        go_meet
        case rel =>
          have t1 := (((BoxAt.mk o0 o1 o2 o3 o4 of).set ka vb ab gb tb).other g1 (.int .i64 ka) (.int .i64 va) (.int .i64 aa) (.bool ga) (.string ta)).drew
          have t2 := (((BoxAt.mk n0 n1 n2 n3 n4 nf).other g2 (.int .i64 ka) (.int .i64 vb) (.int .i64 ab) (.bool gb) (.string tb)).set ka va aa ga ta).drew
          have t3 := (((BoxAt.mk e0 e1 e2 e3 e4 ef).other kO2 (.int .i64 ka) (.int .i64 vb) (.int .i64 ab) (.bool gb) (.string tb)).other kN2 (.int .i64 ka) (.int .i64 va) (.int .i64 aa) (.bool ga) (.string ta)).drew
          refine ⟨rfl, t1, t2, t3, ?_⟩
          have hb := B3.out
          have hO1 : w.heap.size ≤ O := by omega
          have hN1 : w.heap.size ≤ N := by omega
          show Below _ _ _
          exact ((((((((((hb.setCell hO1 _).setCell hO1 _).setCell hO1 _).setCell hO1 _).setCell hO1 _).setCell hN1 _).setCell hN1 _).setCell hN1 _).setCell hN1 _).setCell hN1 _).drew
      case rest =>
        obtain ⟨w5, h⟩ : ∃ x, x = wc := ⟨_, rfl⟩
        subst h
        obtain ⟨rfl, bO, bN, bR, B5⟩ := hcut
        have hN5 : Hid (BoxAt w5 N ka va aa ga ta) := bN
        have hR5 : Hid (BoxAt w5 (w.heap.size + 1 + 1) 0 0 0 false ⟨#[]⟩) := bR
        clear a0 a1 a2 a3 a4 af b0 b1 b2 b3 b4 bf e0 e1 e2 e3 e4 ef o0 o1 o2 o3 o4 of n0 n1 n2 n3 n4 nf bR
        obtain ⟨o0, o1, o2, o3, o4, of⟩ := bO
        obtain ⟨n0, n1, n2, n3, n4, nf⟩ := bN
        go_wp2_with fail
        obtain ⟨cb, HC⟩ : ∃ b, Hid (clashB vb ab gb tb va ga ta = b) := ⟨_, rfl⟩
        refine (clash_c ka vb ab gb tb ka va aa ga ta _).mono ?_
        rintro e w4 ⟨rfl, hb⟩
        rw [HC.out]
        have B4 : Hid (Below w.heap.size w w4) := B5.out.trans (hb.mono B5.out.size)
        obtain ⟨n0, n1, n2, n3, n4, nf⟩ := BoxAt.below (hN5.out) hb (hN5.out).lt
        obtain ⟨e0, e1, e2, e3, e4, ef⟩ := BoxAt.below (hR5.out) hb (hR5.out).lt
        clear hb
        cases cb
        · go_wp2_with fail
          refine bodyPost_ret (v := .tuple #[.agg #[.int .i64 ka, .int .i64 va, .int .i64 aa, .bool ga, .string ta], .nilIface]) (by simp [results, Tryz.results119, go_sem, e0, e1, e2, e3, e4]) rfl ?_
          refine ⟨by rw [← HE.out, HJ.out, HN.out, HC.out]; rfl, ?_⟩
          have hb := B4.out
          go_grown
        · go_wp2_with fail
          refine bodyPost_ret (v := .tuple #[.agg #[.int .i64 0, .int .i64 0, .int .i64 0, .bool false, .string ⟨#[]⟩], .iface 85 (.int .i64 7)]) (by simp [results, Tryz.results119, go_sem, e0, e1, e2, e3, e4]) rfl ?_
          refine ⟨by rw [← HE.out, HJ.out, HN.out, HC.out]; rfl, ?_⟩
          have hb := B4.out
          go_grown
end Go.Proofs.YtpcnfoaoajfhlaaGreatDoor

namespace Go.Proofs.YtpcnfoaoajfhlaaGreatDoor
set_option linter.unusedVariables false
set_option linter.unusedSimpArgs false
open Go.RowKit
theorem join_c (ka va aa : Int) (ga : Bool) (ta : ByteArray) (kb vb ab : Int) (gb : Bool) (tb : ByteArray) (w : World) :
    Calls Tryz.prog 119 #[.agg #[.int .i64 ka, .int .i64 va, .int .i64 aa, .bool ga, .string ta], .agg #[.int .i64 kb, .int .i64 vb, .int .i64 ab, .bool gb, .string tb]] w fun e w' => e = .returned (.tuple #[(joinE ⟨ka, va, aa, ga, ta⟩ ⟨kb, vb, ab, gb, tb⟩).1.val, eV (joinE ⟨ka, va, aa, ga, ta⟩ ⟨kb, vb, ab, gb, tb⟩).2]) ∧ Below w.heap.size w w' := by
  by_cases h : bad2 (bad ka va aa ga ta) (bad kb vb ab gb tb) = 0
  · by_cases hk : ka = kb
    · exact join_same ka va aa ga ta kb vb ab gb tb w h hk
    · refine (join_key ka va aa ga ta kb vb ab gb tb w h hk).mono ?_
      rintro e w' ⟨rfl, hb⟩
      refine ⟨?_, hb⟩
      have hj : joinE ⟨ka, va, aa, ga, ta⟩ ⟨kb, vb, ab, gb, tb⟩ = (⟨0, 0, 0, false, ⟨#[]⟩⟩, 3) := by
        unfold joinE
        rw [if_neg (by simpa using h), if_pos hk]
      rw [hj]
      rfl
  · refine (join_bad ka va aa ga ta kb vb ab gb tb w _ h rfl).mono ?_
    rintro e w' ⟨rfl, hb⟩
    refine ⟨?_, hb⟩
    have hj : joinE ⟨ka, va, aa, ga, ta⟩ ⟨kb, vb, ab, gb, tb⟩ = (⟨0, 0, 0, false, ⟨#[]⟩⟩, bad2 (bad ka va aa ga ta) (bad kb vb ab gb tb)) := by
      unfold joinE
      rw [if_pos h]
    rw [hj]
    show _ = Ending.returned (.tuple #[_, eV (bad2 (bad ka va aa ga ta) (bad kb vb ab gb tb))])
    rw [eV, if_neg h]
    rfl
/-- the result of Join, written out -/
theorem join_o {ka va aa : Int} {ga : Bool} {ta : ByteArray} {kb vb ab : Int} {gb : Bool} {tb : ByteArray} {k v a : Int} {g : Bool} {t : ByteArray} {n : Int} (h : joinE ⟨ka, va, aa, ga, ta⟩ ⟨kb, vb, ab, gb, tb⟩ = (⟨k, v, a, g, t⟩, n)) (w : World) :
    Calls Tryz.prog 119 #[.agg #[.int .i64 ka, .int .i64 va, .int .i64 aa, .bool ga, .string ta], .agg #[.int .i64 kb, .int .i64 vb, .int .i64 ab, .bool gb, .string tb]] w fun e w' => e = .returned (.tuple #[.agg #[.int .i64 k, .int .i64 v, .int .i64 a, .bool g, .string t], eV n]) ∧ Below w.heap.size w w' := by
  have c := join_c ka va aa ga ta kb vb ab gb tb w
  rw [h] at c
  exact c
theorem join_ok {ka va aa : Int} {ga : Bool} {ta : ByteArray} {kb vb ab : Int} {gb : Bool} {tb : ByteArray} {k v a : Int} {g : Bool} {t : ByteArray} (h : joinE ⟨ka, va, aa, ga, ta⟩ ⟨kb, vb, ab, gb, tb⟩ = (⟨k, v, a, g, t⟩, 0)) (w : World) :
    Calls Tryz.prog 119 #[.agg #[.int .i64 ka, .int .i64 va, .int .i64 aa, .bool ga, .string ta], .agg #[.int .i64 kb, .int .i64 vb, .int .i64 ab, .bool gb, .string tb]] w fun e w' => e = .returned (.tuple #[.agg #[.int .i64 k, .int .i64 v, .int .i64 a, .bool g, .string t], .nilIface]) ∧ Below w.heap.size w w' :=
  join_o h w
theorem join_err {ka va aa : Int} {ga : Bool} {ta : ByteArray} {kb vb ab : Int} {gb : Bool} {tb : ByteArray} {k v a : Int} {g : Bool} {t : ByteArray} {n : Int} (h : joinE ⟨ka, va, aa, ga, ta⟩ ⟨kb, vb, ab, gb, tb⟩ = (⟨k, v, a, g, t⟩, n)) (hn : n ≠ 0) (w : World) :
    Calls Tryz.prog 119 #[.agg #[.int .i64 ka, .int .i64 va, .int .i64 aa, .bool ga, .string ta], .agg #[.int .i64 kb, .int .i64 vb, .int .i64 ab, .bool gb, .string tb]] w fun e w' => e = .returned (.tuple #[.agg #[.int .i64 k, .int .i64 v, .int .i64 a, .bool g, .string t], .iface 85 (.int .i64 n)]) ∧ Below w.heap.size w w' := by
  have c := join_o h w
  rw [eV, if_neg hn] at c
  exact c
/-- two entries with the same cells -/
def En.same (x y : En) : Bool := (x.k == y.k) && ((x.v == y.v) && ((x.a == y.a) && ((x.g == y.g) && (x.t.toList == y.t.toList))))
theorem eql_enIn (x y : En) (w : World) : (Op.equalIn 10000 46 x.val y.val).run Tryz.prog w = .ok (x.same y) w := by
  unfold En.val
  rw [run_equalIn_agg w 9999 46 _ _ (by kernel_rfl) (by kernel_rfl)]
  simp [Op.eqFields, Program.fieldsOf, Tryz.underlying46, go_sem, Tryz.underlying3, Tryz.underlying4, Tryz.underlying9, En.same]
  by_cases h0 : x.k = y.k <;> by_cases h1 : x.v = y.v <;> by_cases h2 : x.a = y.a <;> by_cases h3 : x.g = y.g <;> by_cases h4 : x.t.toList = y.t.toList <;> simp [h0, h1, h2, h3, h4]
theorem eql_en (x y : En) (w : World) : (binOp .eql 46 x.val y.val).run Tryz.prog w = .ok (.bool (x.same y)) w := by
  have h := eql_enIn x y w
  unfold En.val at h ⊢
  rw [run_eql_struct, h]
  rfl
theorem En.same_self (x : En) : x.same x = true := by simp [En.same]
theorem eql_cells (x0 x1 x2 : Int) (x3 : Bool) (x4 : ByteArray) (w : World) : (binOp .eql 46 (.agg #[.int .i64 x0, .int .i64 x1, .int .i64 x2, .bool x3, .string x4]) (.agg #[.int .i64 x0, .int .i64 x1, .int .i64 x2, .bool x3, .string x4])).run Tryz.prog w = .ok (.bool true) w := by
  have h := eql_en ⟨x0, x1, x2, x3, x4⟩ ⟨x0, x1, x2, x3, x4⟩ w
  rw [En.same_self] at h
  exact h
theorem eqlIn_cells (x0 x1 x2 : Int) (x3 : Bool) (x4 : ByteArray) (w : World) : (Op.equalIn 10000 46 (.agg #[.int .i64 x0, .int .i64 x1, .int .i64 x2, .bool x3, .string x4]) (.agg #[.int .i64 x0, .int .i64 x1, .int .i64 x2, .bool x3, .string x4])).run Tryz.prog w = .ok true w := by
  have h := eql_enIn ⟨x0, x1, x2, x3, x4⟩ ⟨x0, x1, x2, x3, x4⟩ w
  rw [En.same_self] at h
  exact h
theorem eqGuard_en : Tryz.prog.eqGuardType Tryz.prog.depth 46 = false := by kernel_rfl
end Go.Proofs.YtpcnfoaoajfhlaaGreatDoor

namespace Go.Proofs.YtpcnfoaoajfhlaaGreatDoor
set_option linter.unusedVariables false
set_option linter.unusedSimpArgs false
open Go.RowKit

/-- what is wrong with an entry -/
def En.bad (e : En) : Int := Go.Proofs.YtpcnfoaoajfhlaaGreatDoor.bad e.k e.v e.a e.g e.t
/-- what is wrong with a row, behind a key -/
def badRow : Option Int → List En → Int
  | _, [] => 0
  | p, e :: l => if e.bad ≠ 0 then e.bad else if (match p with | some q => decide (e.k ≤ q) | none => false) = true then 3 else badRow (some e.k) l
/-- what is wrong with a cache -/
def badL (l : List En) : Int := if 8 < l.length then 4 else badRow none l

def En.cells (e : En) : List Value := [.int .i64 e.k, .int .i64 e.v, .int .i64 e.a, .bool e.g, .string e.t]
def rowC : List En → List Value
  | [] => []
  | e :: l => e.cells ++ rowC l
theorem En.cells_length (e : En) : e.cells.length = 5 := rfl
theorem rowC_append (l m : List En) : rowC (l ++ m) = rowC l ++ rowC m := by
  induction l with
  | nil => rfl
  | cons c l ih => simp only [List.cons_append, rowC, ih, List.append_assoc]
theorem rowC_length (l : List En) : (rowC l).length = l.length * 5 := by
  induction l with
  | nil => rfl
  | cons c l ih => simp only [rowC, List.length_append, En.cells_length, ih, List.length_cons]; omega
theorem rowC_one (l : List En) : ∀ u ∈ rowC l, u.oneCell' = true := by
  induction l with
  | nil => intro u hu; simp [rowC] at hu
  | cons c l ih =>
    intro u hu
    simp only [rowC, List.mem_append] at hu
    rcases hu with h | h
    · simp only [En.cells, List.mem_cons, List.not_mem_nil, or_false] at h
      rcases h with rfl | rfl | rfl | rfl | rfl <;> rfl
    · exact ih u h
theorem rowC_get (l : List En) (j : Nat) (h : j < l.length) :
    (rowC l)[j * 5]? = some (.int .i64 l[j].k) ∧ (rowC l)[j * 5 + 1]? = some (.int .i64 l[j].v) ∧ (rowC l)[j * 5 + 2]? = some (.int .i64 l[j].a) ∧ (rowC l)[j * 5 + 3]? = some (.bool l[j].g) ∧ (rowC l)[j * 5 + 4]? = some (.string l[j].t) := by
  induction l generalizing j with
  | nil => simp at h
  | cons c l ih =>
    cases j with
    | zero => simp [rowC, En.cells]
    | succ j =>
      have e := ih j (by simpa using h)
      have e0 : (j + 1) * 5 = j * 5 + 5 := by omega
      simp only [rowC, En.cells, List.cons_append, List.nil_append, e0, List.getElem_cons_succ]
      have e1 : j * 5 + 5 + 1 = (j * 5 + 1) + 5 := by omega
      have e2 : j * 5 + 5 + 2 = (j * 5 + 2) + 5 := by omega
      have e3 : j * 5 + 5 + 3 = (j * 5 + 3) + 5 := by omega
      have e4 : j * 5 + 5 + 4 = (j * 5 + 4) + 5 := by omega
      rw [e1, e2, e3, e4]
      simpa using e
theorem rowC_take (l : List En) (i : Nat) : rowC (l.take i) = (rowC l).take (i * 5) := by
  induction l generalizing i with
  | nil => simp [rowC]
  | cons c l ih =>
    cases i with
    | zero => simp [rowC]
    | succ i =>
      rw [List.take_succ_cons, rowC, ih, rowC, show (i + 1) * 5 = c.cells.length + i * 5 by rw [En.cells_length]; omega, List.take_length_add_append]
theorem rowC_drop (l : List En) (i : Nat) : rowC (l.drop i) = (rowC l).drop (i * 5) := by
  induction l generalizing i with
  | nil => simp [rowC]
  | cons c l ih =>
    cases i with
    | zero => simp [rowC]
    | succ i =>
      rw [List.drop_succ_cons, ih, rowC, show (i + 1) * 5 = c.cells.length + i * 5 by rw [En.cells_length]; omega, List.drop_length_add_append]

/-- an entry's five cells at a place -/
structure EnAt (w : World) (b o : Nat) (e : En) : Prop where
  c0 : w.cell? ⟨b, o, none⟩ = some (.int .i64 e.k)
  c1 : w.cell? ⟨b, o + 1, none⟩ = some (.int .i64 e.v)
  c2 : w.cell? ⟨b, o + 2, none⟩ = some (.int .i64 e.a)
  c3 : w.cell? ⟨b, o + 3, none⟩ = some (.bool e.g)
  c4 : w.cell? ⟨b, o + 4, none⟩ = some (.string e.t)
theorem EnAt.of_block {w w' : World} {b o : Nat} {e : En} (h : EnAt w b o e) (hb : w'.heap[b]? = w.heap[b]?) : EnAt w' b o e :=
  ⟨(World.cell?_of_block (a := ⟨b, o, none⟩) hb).trans h.c0, (World.cell?_of_block (a := ⟨b, o + 1, none⟩) hb).trans h.c1, (World.cell?_of_block (a := ⟨b, o + 2, none⟩) hb).trans h.c2, (World.cell?_of_block (a := ⟨b, o + 3, none⟩) hb).trans h.c3, (World.cell?_of_block (a := ⟨b, o + 4, none⟩) hb).trans h.c4⟩

/-- a slice that holds a row of entries -/
def RowIs (w : World) (v : Value) (l : List En) : Prop :=
  l.length ≤ maxLen ∧ ∃ p cap, v = .slice p l.length cap ∧ (l ≠ [] → ∃ b o, p = some ⟨b, o, none⟩ ∧ b < w.heap.size ∧ ∀ j (h : j < l.length), EnAt w b (o + j * 5) l[j])
theorem RowIs.blocks {w w' : World} {v : Value} {l : List En} (h : RowIs w v l) (hs : w.heap.size ≤ w'.heap.size) (hb : ∀ c, v.ownBlock = some c → c < w.heap.size → w'.heap[c]? = w.heap[c]?) : RowIs w' v l := by
  obtain ⟨h0, p, cap, rfl, h1⟩ := h
  refine ⟨h0, p, cap, rfl, fun hn => ?_⟩
  obtain ⟨b, o, rfl, hlt, hc⟩ := h1 hn
  exact ⟨b, o, rfl, Nat.lt_of_lt_of_le hlt hs, fun j hj => (hc j hj).of_block (hb b rfl hlt)⟩
theorem RowIs.below {w w' : World} {v : Value} {l : List En} (h : RowIs w v l) (hb : Below w.heap.size w w') : RowIs w' v l :=
  h.blocks hb.size (fun c _ hc => hb.block c hc)
theorem RowIs.nil (w : World) : RowIs w (.slice none 0 0) [] := ⟨by simp, none, 0, rfl, fun h => absurd rfl h⟩
/-- a row that the call owns is one -/
theorem RowIs.own {w : World} {B : Nat} {v : Value} {l : List En} (h : w.ownsRow B 46 5 v l.length (rowC l)) : RowIs w v l := by
  have hcell : ∀ g, v.ownBlock = some g → ∀ j u, (rowC l)[j]? = some u → w.cell? ⟨g, j, none⟩ = some u := fun g hg j u hu => by
    have := h.cells (g := g) hg j u hu
    simpa [Addr.add_lit] using this
  rcases h.2 with ⟨rfl, h0⟩ | ⟨g, cap, cur, rfl, _, hg, hc1, hc2, _⟩
  · rw [List.length_eq_zero_iff.1 h0]
    exact RowIs.nil w
  · refine ⟨Nat.le_trans hc1 hc2, _, cap, rfl, fun _ => ⟨g, 0, rfl, (Array.getElem?_eq_some_iff.1 hg).1, fun j hj => ?_⟩⟩
    obtain ⟨a0, a1, a2, a3, a4⟩ := rowC_get l j hj
    exact ⟨by simpa using hcell g rfl _ _ a0, by simpa using hcell g rfl _ _ a1, by simpa using hcell g rfl _ _ a2, by simpa using hcell g rfl _ _ a3, by simpa using hcell g rfl _ _ a4⟩
theorem RowIs.cells {w : World} {b o cap : Nat} {l : List En} (hc : ∀ j (h : j < l.length), EnAt w b (o + j * 5) l[j]) : ∀ i u, (rowC l)[i]? = some u → w.cell? ⟨b, o + i, none⟩ = some u := by
  intro i u hu
  have hi : i < l.length * 5 := by
    have := (List.getElem?_eq_some_iff.1 hu).1
    rwa [rowC_length] at this
  have hj : i / 5 < l.length := by omega
  obtain ⟨a0, a1, a2, a3, a4⟩ := rowC_get l (i / 5) hj
  have hr : i = i / 5 * 5 + i % 5 := by omega
  have h5 : i % 5 < 5 := by omega
  obtain ⟨x0, x1, x2, x3, x4⟩ := hc (i / 5) hj
  generalize i % 5 = r at hr h5
  rw [hr] at hu ⊢
  match r, h5 with
  | 0, _ => rw [Nat.add_zero] at hu ⊢; rw [a0] at hu; rw [← Option.some.inj hu]; exact x0
  | 1, _ => rw [a1] at hu; rw [← Option.some.inj hu, ← Nat.add_assoc]; exact x1
  | 2, _ => rw [a2] at hu; rw [← Option.some.inj hu, ← Nat.add_assoc]; exact x2
  | 3, _ => rw [a3] at hu; rw [← Option.some.inj hu, ← Nat.add_assoc]; exact x3
  | 4, _ => rw [a4] at hu; rw [← Option.some.inj hu, ← Nat.add_assoc]; exact x4

theorem infoEn : (Tryz.prog.info? 46).map (fun i => (i.zero, i.size, i.bytes)) = some (some (.agg #[.int .i64 0, .int .i64 0, .int .i64 0, .bool false, .string ⟨#[]⟩]), 5, 48) := by kernel_rfl
end Go.Proofs.YtpcnfoaoajfhlaaGreatDoor

namespace Go.Proofs.YtpcnfoaoajfhlaaGreatDoor
set_option linter.unusedVariables false
set_option linter.unusedSimpArgs false
open Go.RowKit

theorem badRow_step (l : List En) (j : Nat) (p : Option Int) (h : j < l.length) : badRow p (l.drop j) = if l[j].bad ≠ 0 then l[j].bad else if (match p with | some q => decide (l[j].k ≤ q) | none => false) = true then 3 else badRow (some l[j].k) (l.drop (j + 1)) := by
  rw [List.drop_eq_getElem_cons h]
  cases p <;> rfl
theorem badRow_bad {l : List En} {j : Nat} {p : Option Int} (h : j < l.length) (hb : l[j].bad ≠ 0) : badRow p (l.drop j) = l[j].bad := by rw [badRow_step l j p h, if_pos hb]
theorem badRow_low {l : List En} {j : Nat} {q : Int} (h : j < l.length) (hb : l[j].bad = 0) (hk : l[j].k ≤ q) : badRow (some q) (l.drop j) = 3 := by rw [badRow_step l j _ h, if_neg (by simpa using hb), if_pos (by simpa using hk)]
theorem badRow_next {l : List En} {j : Nat} {q : Int} (h : j < l.length) (hb : l[j].bad = 0) (hk : ¬ l[j].k ≤ q) : badRow (some q) (l.drop j) = badRow (some l[j].k) (l.drop (j + 1)) := by rw [badRow_step l j _ h, if_neg (by simpa using hb), if_neg (by simpa using hk)]
theorem badRow_first {l : List En} {j : Nat} (h : j < l.length) (hb : l[j].bad = 0) : badRow none (l.drop j) = badRow (some l[j].k) (l.drop (j + 1)) := by rw [badRow_step l j _ h, if_neg (by simpa using hb), if_neg (by simp)]

/-- the key ahead of a place -/
def keyAhead (l : List En) (j : Nat) : Option Int := if h : 0 < j ∧ j - 1 < l.length then some (l[j - 1]'h.2).k else none
theorem keyAhead_zero (l : List En) : keyAhead l 0 = none := by simp [keyAhead]
theorem keyAhead_succ (l : List En) (j : Nat) (h : j < l.length) : keyAhead l (j + 1) = some l[j].k := by simp [keyAhead, h]

set_option maxHeartbeats 4000000 in
theorem cacheCheck_c (v : Value) (l : List En) (w : World) (hr : RowIs w v l) :
    Calls Tryz.prog 70 #[v] w fun e w' => e = .returned (eV (badL l)) ∧ Below w.heap.size w w' := by
  obtain ⟨hlen, p, cap, rfl, hrow⟩ := hr
  by_cases h8 : 8 < l.length
  · have e : badL l = 4 := by rw [badL, if_pos h8]
    rw [e]
    have h8i : (8 : Int) < (l.length : Int) := by omega
    go_enter Tryz.func70, Tryz.ntmps70
    go_wp2_with fail
    go_ret
    exact ⟨rfl, by go_grown⟩
  · have E : Hid (badL l = badRow (keyAhead l 0) (l.drop 0)) := by
      show badL l = _
      rw [badL, if_neg h8, keyAhead_zero, List.drop_zero]
    obtain ⟨R, HR⟩ : ∃ R, Hid (badL l = R) := ⟨_, rfl⟩
    rw [HR.out]
    have HRow : Hid (l ≠ [] → ∃ b o, p = some ⟨b, o, none⟩ ∧ b < w.heap.size ∧ ∀ j (h : j < l.length), EnAt w b (o + j * 5) l[j]) := hrow
    clear hrow
    have h8i : ¬ (8 : Int) < (l.length : Int) := by omega
    generalize hn : l.length = n at hlen h8 h8i ⊢
    have HN : Hid (l.length = n) := hn
    clear hn
    go_enter Tryz.func70, Tryz.ntmps70
    go_wp2_with fail
    go_loopw [12] (fun i wr => ∃ j : Nat, j ≤ n ∧ i = .int .i64 j ∧ Hid (R = badRow (keyAhead l j) (l.drop j)) ∧ Hid (Below w.heap.size w wr)) (fun i _ => n - (intOf i).toNat)
    case atStart => exact ⟨0, Nat.zero_le _, rfl, HR.out.symm.trans E.out, Below.refl _ _⟩
    case round =>
      obtain ⟨j, hj, rfl, HJ, HB⟩ := hrel
      by_cases hlt : j < n
      · have hl : l ≠ [] := by intro h; have := HN.out; rw [h] at this; simp at this; omega
        obtain ⟨b, o, rfl, hbw, hat⟩ := HRow.out hl
        have hjl : j < l.length := by rw [HN.out]; exact hlt
        have HA : Hid (∀ j (h : j < l.length), EnAt wr b (o + j * 5) l[j]) := fun j h => (hat j h).of_block (HB.out.block b hbw)
        clear hat
        have hws := HB.out.size
        have hbr : b < wr.heap.size := by omega
        obtain ⟨x, HX⟩ : ∃ x, Hid (l[j] = x) := ⟨l[j], show l[j] = l[j] from rfl⟩
        obtain ⟨c0, c1, c2, c3, c4⟩ := HA.out j hjl
        rw [HX.out] at c0 c1 c2 c3 c4
        obtain ⟨k, vv, a, g, t⟩ := x
        dsimp only at c0 c1 c2 c3 c4
        obtain ⟨m, HM⟩ : ∃ m, Hid (bad k vv a g t = m) := ⟨_, rfl⟩
        have HLb : Hid (l[j].bad = m) := by
          show l[j].bad = m
          rw [HX.out]
          exact HM.out
        have HLk : Hid (l[j].k = k) := by
          show l[j].k = k
          rw [HX.out]
        clear HX
        go_wp2_with fail
        by_cases hm : m = 0
        · subst hm
          refine (check_ok HM.out _).mono ?_
          rintro e w1 ⟨rfl, hb⟩
          have B1 : Hid (Below w.heap.size w w1) := (HB.out.alloc hws _).trans (hb.mono (by simp; omega))
          obtain ⟨d0, d1, d2, d3, d4, df⟩ := (box_new wr k vv a g t wr.heap.size rfl).below hb (by simp)
          have HA1 : Hid (∀ j (h : j < l.length), EnAt w1 b (o + j * 5) l[j]) := fun j h => ((HA.out j h).of_block (Below.heap_alloc _ _ _ hbr)).of_block (hb.block b (by simp; omega))
          clear hb c0 c1 c2 c3 c4 HA HM
          by_cases h0 : j = 0
          · subst h0
            rw [keyAhead_zero, badRow_first hjl HLb.out, HLk.out] at HJ
            go_upto_region 9 with fail
            go_region
            all_goals go_wp2_with fail
            all_goals go_roundw
            case rel => exact ⟨1, by omega, by go_num, by rw [show (1 : Nat) = 0 + 1 from rfl, keyAhead_succ l 0 hjl, HLk.out]; exact HJ, B1.out.drew⟩
            case measure => simp [intOf]; omega
          · obtain ⟨i, rfl⟩ : ∃ i, j = i + 1 := ⟨j - 1, by omega⟩
            have hil : i < l.length := by omega
            obtain ⟨q, HQ⟩ : ∃ q, Hid (l[i].k = q) := ⟨l[i].k, show l[i].k = l[i].k from rfl⟩
            rw [keyAhead_succ l i hil, HQ.out] at HJ
            have y0 := (HA1.out i hil).c0
            rw [HQ.out] at y0
            have g0 : (0 : Int) < ((i : Int) + 1) := by omega
            have g1 : ((i : Int) + 1 - 1) = i := by omega
            have g2 : (i : Int) < (n : Int) := by omega
            by_cases hk : k ≤ q
            · rw [badRow_low hjl HLb.out (by rw [HLk.out]; exact hk)] at HJ
              go_upto_region 9 with fail
              go_region
              all_goals go_wp2_with fail
              all_goals go_ret
              all_goals exact ⟨by rw [HJ.out]; rfl, B1.out.drew⟩
            · rw [badRow_next hjl HLb.out (by rw [HLk.out]; exact hk), HLk.out] at HJ
              go_upto_region 9 with fail
              go_region
              all_goals go_wp2_with fail
              all_goals go_roundw
              case rel => exact ⟨i + 1 + 1, by omega, by go_num, by rw [keyAhead_succ l (i + 1) hjl, HLk.out]; exact HJ, B1.out.drew⟩
              case measure => simp [intOf]; omega
        · refine (check_err HM.out hm _).mono ?_
          rintro e w1 ⟨rfl, hb⟩
          have B1 : Hid (Below w.heap.size w w1) := (HB.out.alloc hws _).trans (hb.mono (by simp; omega))
          clear hb
          rw [badRow_bad hjl (by rw [HLb.out]; exact hm), HLb.out] at HJ
          go_wp2_with fail
          go_ret
          exact ⟨by rw [HJ.out]; simp [eV, hm], B1.out⟩
      · obtain rfl : j = n := by omega
        have HR0 : Hid (R = 0) := by
          show R = 0
          rw [HJ.out, List.drop_eq_nil_of_le (by rw [HN.out]; exact Nat.le_refl _)]
          cases keyAhead l j <;> rfl
        go_wp2_with fail
        go_ret
        exact ⟨by rw [HR0.out]; rfl, HB.out⟩
end Go.Proofs.YtpcnfoaoajfhlaaGreatDoor
