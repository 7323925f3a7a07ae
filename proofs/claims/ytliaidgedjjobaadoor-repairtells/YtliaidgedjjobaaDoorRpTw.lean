/-
  merelaw2.RepairTells answers true, whatever the caches, the key and the numbers.
-/
import Derived.Test.YtliaidgedjjobaaDoorRrD
import Derived.Test.YtliaidgedjjobaaDoorRrS
import Derived.Test.YtliaidgedjjobaaDoorRfLf
import Derived.Test.YtliaidgedjjobaaDoorTbR
import Derived.Test.YtliaidgedjjobaaDoorTbJ
import Derived.Test.YtliaidgedjjobaaDoorRpQ
import Derived.Test.YtliaidgedjjobaaDoorErrA
import Derived.Deep.DeepCutAuto
import Derived.Deep.CutBlock
import Derived.BigRegion
import Derived.BigQuiet
import Derived.WalkSmall
namespace Go.Proofs.YtliaidgedjjobaaDoor
set_option linter.unusedVariables false
set_option linter.unusedSimpArgs false
open Go.RowKit

theorem rKeyP_c (k : Int) (w : World) : Calls Tryd.prog 8 #[.int .i64 k] w fun e w' => e = .returned (.bool (isKeyB k)) ∧ w' = w := by
  by_cases h : 0 ≤ k
  · have hd : decide (0 ≤ k) = true := by simpa using h
    go_enter Tryd.func8, Tryd.ntmps8
    go_wp2
    go_ret
    refine ⟨?_, rfl⟩
    simp [isKeyB, h]
    congr 1
    omega
  · have hd : decide (0 ≤ k) = false := by simpa using h
    go_enter Tryd.func8, Tryd.ntmps8
    go_wp2
    go_ret
    refine ⟨?_, rfl⟩
    have h' : ¬ 0 ≤ k := by omega
    simp [isKeyB, h']
/-- what is wrong with caches and a key -/
def badLK (ls : List (List En)) (key : Int) : Int := if badLs ls = 0 ∧ isKeyB key = false then 1 else badLs ls
theorem readR_bad {ls : List (List En)} {key n : Int} (h : badLK ls key = n) (hn : n ≠ 0) : readR ls key = (zeroEn, n) := by
  unfold badLK at h
  split at h
  · rename_i hh
    rw [readR, if_neg (by simpa using hh.1), if_pos hh.2, h]
  · rename_i hh
    rw [readR, if_pos (by rw [h]; exact hn), h]
theorem readR_fine {ls : List (List En)} {key : Int} (h : badLK ls key = 0) : GoodLs ls ∧ readR ls key = readO (joinFrom key none ls) := by
  unfold badLK at h
  split at h
  · omega
  · rename_i hh
    have hk : isKeyB key = true := by
      cases hq : isKeyB key
      · exact absurd ⟨h, hq⟩ hh
      · rfl
    exact ⟨badLs_good h, by rw [readR, if_neg (by simpa using h), if_neg (by rw [hk]; simp)]⟩
theorem intsT_c (va vb : Value) (a : List Int) (w : World) (hra : IntsIs w va a) (hrb : IntsIs w vb a) :
    Calls Tryd.prog 14 #[va, vb] w fun e w' => e = .returned (.bool true) ∧ Below w.heap.size w w' := by
  have c := ints_c va vb a a w hra hrb
  simp only [beq_self_eq_true] at c
  exact c
theorem RowsIs.nilW (w : World) : RowsIs w (.slice none 0 0) [] := (GrowW.nil 0 w).rows
theorem getD_atW {α : Type} (l : List α) (d : α) (j : Nat) (h : j < l.length) : l.getD j d = l[j] := by simp [List.getD_eq_getElem?_getD, List.getElem?_eq_getElem h]
theorem with_some {ls : List (List En)} {key : Int} {x : En} (h : readR ls key = (x, 0)) {l : List En} (hl : l ∈ ls) : withE x l ≠ [] := by
  intro e
  have := (with_get h hl).1
  rw [e] at this
  cases this
set_option maxRecDepth 100000 in
set_option maxHeartbeats 32000000 in
theorem rtells_w (I : RpFace) (vl : Value) (ls : List (List En)) (key n r q : Int) (w : World) (hl : RowsIs w vl ls) (hg : HasErr w) :
    Calls Tryd.prog 3 #[vl, .int .i64 key, .int .i64 n, .int .i64 r, .int .i64 q] w fun e w' => e = .returned (.bool true) ∧ Below w.heap.size w w' := by
  have HGE : Hid (HasErr w) := hg
  obtain ⟨x0, x1, x2, x3, x4, m, HR⟩ : ∃ x0 x1 x2 x3 x4 m, Hid (readR ls key = (⟨x0, x1, x2, x3, x4⟩, m)) := ⟨_, _, _, _, _, _, rfl⟩
  have HL : Hid (RowsIs w vl ls) := hl
  obtain ⟨pl, cl, rfl, hl63⟩ := hl.slice
  clear hl hg
  obtain ⟨nl, HNl⟩ : ∃ nl, Hid (ls.length = nl) := ⟨_, rfl⟩
  rw [HNl.out] at hl63 HL ⊢
  have hn63 : nl ≤ 9223372036854775807 := hl63
  obtain ⟨e0, HE0⟩ : ∃ e0, Hid (badLs ls = e0) := ⟨_, rfl⟩
  obtain ⟨kb, HKb⟩ : ∃ kb, Hid (isKeyB key = kb) := ⟨_, rfl⟩
  obtain ⟨e1, HE1⟩ : ∃ e1, Hid (badLK ls key = e1) := ⟨_, rfl⟩
  go_enter Tryd.func3, Tryd.ntmps3
  go_wp2_with fail
  refine (rCaches_o HE0.out _ _ HL.out).mono ?_
  rintro e w1 ⟨rfl, hb⟩
  have B1 : Hid (Below w.heap.size w w1) := hb
  clear hb
  go_wp2_with fail
  refine (rKeyP_c key w1).mono ?_
  rintro e w2 ⟨rfl, hw⟩
  rw [hw, HKb.out]
  clear hw w2
  obtain ⟨tb, HTb⟩ : ∃ tb, Hid (((e0 == 0) && !kb) = tb) := ⟨_, rfl⟩
  go_upto_region 3 with fail
  go_cut [39] (fun c39 wd => c39 = .bool tb ∧ wd = w1)
  case first =>
    as_aux_lemma =>
      by_cases hz : e0 = 0
      · have hzb : (e0 == 0) = true := by simp [hz]
        have : tb = !kb := by rw [← HTb.out, hzb]; rfl
        subst this
        clear hz HTb
        cases kb
        · go_wp2_with fail
          go_meet
          exact ⟨rfl, rfl⟩
        · go_wp2_with fail
          go_meet
          exact ⟨rfl, rfl⟩
      · have hzb : (e0 == 0) = false := by simp [hz]
        have : tb = false := by rw [← HTb.out, hzb]; rfl
        subst this
        clear hz HTb
        go_wp2_with fail
        go_meet
        exact ⟨rfl, rfl⟩
  case rest =>
  obtain ⟨rfl, hwc⟩ := hcut
  rw [hwc]
  clear hwc wc
  go_upto_if 39 with fail
  go_cut [11] (fun c11 wd => c11 = .int .i64 e1 ∧ wd = w1)
  case first =>
    as_aux_lemma =>
      have HD : Hid ((if tb = true then (1 : Int) else e0) = e1) := by
        show _ = _
        rw [← HE1.out, badLK, HE0.out, HKb.out, ← HTb.out]
        by_cases hz : e0 = 0
        · cases kb <;> simp [hz]
        · simp [hz]
      cases tb
      · have : e1 = e0 := by rw [← HD.out]; rfl
        subst this
        go_wp2_with fail
        go_meet
        exact ⟨rfl, rfl⟩
      · have : e1 = 1 := by rw [← HD.out]; rfl
        subst this
        go_wp2_with fail
        go_meet
        exact ⟨rfl, rfl⟩
  case rest =>
  obtain ⟨rfl, hwc⟩ := hcut
  rw [hwc]
  clear hwc wc HE0 HKb HTb
  have B2 : Hid (Below w.heap.size w (w1.alloc (.cells #[.int .i64 0, .int .i64 0, .int .i64 0, .bool false, .string ⟨#[]⟩] 26))) := B1.out.alloc B1.out.size _
  have X2 : Hid (BoxAt (w1.alloc (.cells #[.int .i64 0, .int .i64 0, .int .i64 0, .bool false, .string ⟨#[]⟩] 26)) w1.heap.size 0 0 0 false ⟨#[]⟩) := box_new w1 _ _ _ _ _ _ rfl
  have hX0 := B1.out.size
  go_upto_if 41 with fail
  obtain ⟨w2, HW2⟩ : ∃ z, z = w1.alloc (.cells #[.int .i64 0, .int .i64 0, .int .i64 0, .bool false, .string ⟨#[]⟩] 26) := ⟨_, rfl⟩
  obtain ⟨X, HXX⟩ : ∃ z, z = w1.heap.size := ⟨_, rfl⟩
  rw [← HW2] at B2 X2 ⊢
  rw [← HXX] at X2 hX0 ⊢
  clear HW2 HXX B1
  go_cut [11] (fun c11 wd => c11 = .int .i64 m ∧ Hid (Below w.heap.size w wd) ∧ Hid (BoxAt wd X x0 x1 x2 x3 x4))
  case first =>
    as_aux_lemma =>
      by_cases hz : e1 = 0
      · have hzb : (e1 == 0) = true := by simp [hz]
        obtain ⟨hgl, hrd⟩ := readR_fine (HE1.out.trans hz)
        have HGL : Hid (GoodLs ls) := hgl
        have HRd : Hid (readO (joinFrom key none ls) = (⟨x0, x1, x2, x3, x4⟩, m)) := hrd.symm.trans HR.out
        clear hz hgl hrd
        go_wp2_with fail
        refine (rRead2_c (HL.out.below B2.out) HGL.out HRd.out).mono ?_
        rintro e w3 ⟨rfl, hb⟩
        have B3 : Hid (Below w.heap.size w w3) := B2.out.trans (hb.mono B2.out.size)
        have X3 : Hid (BoxAt w3 X 0 0 0 false ⟨#[]⟩) := X2.out.below hb X2.out.lt
        clear hb
        obtain ⟨c0, c1, c2, c3, c4, cf⟩ := X3.out
        go_wp2_with fail
        go_meet
        exact ⟨rfl, below_box B3.out X hX0 _ _ _ _ _, X3.out.set _ _ _ _ _⟩
      · have hzb : (e1 == 0) = false := by simp [hz]
        have hv := HR.out.symm.trans (readR_bad HE1.out hz)
        injection hv with hv1 hv2
        injection hv1 with a0 a1 a2 a3 a4
        subst a0 a1 a2 a3 a4 hv2
        clear hz
        go_wp2_with fail
        go_meet
        exact ⟨rfl, B2, X2⟩
  case rest =>
  as_aux_lemma =>
  obtain ⟨rfl, B3, X3⟩ := hcut
  obtain ⟨w3, hren⟩ : ∃ x, x = wc := ⟨_, rfl⟩
  subst hren
  clear B2 X2 HE1
  go_wp2_with fail
  refine (I.read (HL.out.below B3.out) HR.out).mono ?_
  rintro e w4 ⟨rfl, hb⟩
  have B4 : Hid (Below w.heap.size w (w4.alloc (.cells #[.int .i64 x0, .int .i64 x1, .int .i64 x2, .bool x3, .string x4] 26))) := (B3.out.trans (hb.mono B3.out.size)).alloc (Nat.le_trans B3.out.size hb.size) _
  have X4 : Hid (BoxAt (w4.alloc (.cells #[.int .i64 x0, .int .i64 x1, .int .i64 x2, .bool x3, .string x4] 26)) X x0 x1 x2 x3 x4) := (X3.out.below hb X3.out.lt).alloc _
  have Y4 : Hid (BoxAt (w4.alloc (.cells #[.int .i64 x0, .int .i64 x1, .int .i64 x2, .bool x3, .string x4] 26)) w4.heap.size x0 x1 x2 x3 x4) := box_new w4 _ _ _ _ _ _ rfl
  clear hb B3 X3
  obtain ⟨em, HEm⟩ : ∃ em, Hid (eV m = em) := ⟨_, rfl⟩
  rw [HEm.out]
  go_upto_region 9 with fail
  obtain ⟨w5, HW5⟩ : ∃ z, z = w4.alloc (.cells #[.int .i64 x0, .int .i64 x1, .int .i64 x2, .bool x3, .string x4] 26) := ⟨_, rfl⟩
  obtain ⟨Y, HYy⟩ : ∃ z, z = w4.heap.size := ⟨_, rfl⟩
  rw [← HW5] at B4 X4 Y4 ⊢
  rw [← HYy] at Y4 ⊢
  clear HW5 HYy
  have hq := eql_cells x0 x1 x2 x3 x4
  have hgd := eqGuard_en
  go_wp2_with fail
  rw [← HEm.out]
  refine (err_same m _ (HGE.out.below HGE.out.lt B4.out)).mono ?_
  rintro e w6 ⟨rfl, hb⟩
  have B6 : Hid (Below w.heap.size w w6) := B4.out.trans (hb.mono B4.out.size)
  have X6 : Hid (BoxAt w6 X x0 x1 x2 x3 x4) := X4.out.below hb X4.out.lt
  have Y6 : Hid (BoxAt w6 Y x0 x1 x2 x3 x4) := Y4.out.below hb Y4.out.lt
  clear hb B4 X4 Y4
  obtain ⟨c0, c1, c2, c3, c4, cf⟩ := X6.out
  obtain ⟨d0, d1, d2, d3, d4, df⟩ := Y6.out
  go_upto_region 10 with fail
  clear c0 c1 c2 c3 c4 cf d0 d1 d2 d3 d4 df hq hgd Y6
  obtain ⟨mb, HMb⟩ : ∃ mb, Hid ((m == 0) = mb) := ⟨_, rfl⟩
  obtain ⟨La, HLa⟩ : ∃ La, Hid (lacksR ls key = (La, m)) := by
    refine ⟨(lacksR ls key).1, Prod.ext rfl ?_⟩
    show (lacksR ls key).2 = m
    rw [lacksR, HR.out]
    split
    · rfl
    · rename_i h
      exact (by simpa using h : m = 0).symm
  have hX6 := X6.out.lt
  go_upto_block 0 with fail
  go_cut [17, 18, 19, 20] (fun c17 _ _ _ wd => ∃ u : Value, c17 = u ∧ Hid (IntsIs wd u La) ∧ Hid (Below w.heap.size w wd) ∧ Hid (BoxAt wd X x0 x1 x2 x3 x4))
  case first =>
    as_aux_lemma =>
      cases mb with
      | false =>
        have hm0 : m ≠ 0 := by have := HMb.out; simpa using this
        have HLe : Hid (La = []) := by
          have := HLa.out
          rw [lacksR, HR.out, if_pos hm0] at this
          exact (Prod.mk.inj this).1.symm
        have hmb : (m == 0) = false := HMb.out
        clear hm0
        by_cases hnl : 0 < nl
        · go_wp2_with fail
          refine wp_loop_rounds 1 ?_
          rw [rounds_succ]
          go_wp2_with fail
          go_meet
          exact ⟨_, rfl, by rw [HLe.out]; exact IntsIs.nil _, B6, X6⟩
        · go_wp2_with fail
          refine wp_loop_rounds 1 ?_
          rw [rounds_succ]
          go_wp2_with fail
          go_meet
          exact ⟨_, rfl, by rw [HLe.out]; exact IntsIs.nil _, B6, X6⟩
      | true =>
        have hm0 : m = 0 := by have := HMb.out; simpa using this
        subst hm0
        obtain ⟨hgl, _, _⟩ := readR_ok HR.out
        have HGL : Hid (GoodLs ls) := hgl
        have HLq : Hid (lackN ls key x1 nl = La) := by
          have h1 := HLa.out
          rw [lacksR, HR.out, if_neg (by simp), HNl.out] at h1
          exact (Prod.mk.inj h1).1
        clear hgl
        go_wp2_with fail
        go_loopw [17, 18] (fun s17 s18 wr => ∃ (j : Nat) (u : Value), s17 = u ∧ j ≤ nl ∧ s18 = .int .i64 j ∧ Hid (wr.ownsRow w6.heap.size 3 1 u (lackN ls key x1 j).length (intC (lackN ls key x1 j))) ∧ Hid (Below w6.heap.size w6 wr)) (fun _ i _ => nl - (intOf i).toNat)
        case atStart => exact ⟨0, _, rfl, Nat.zero_le _, rfl, World.ownsRow_nil _ _ _ _, Below.refl _ _⟩
        case round =>
          obtain ⟨j, u, hs17, hj, rfl, HO, HB⟩ := hrel
          have hs17' := hs17.symm
          clear hs17
          subst hs17'
          have X7 : Hid (BoxAt wr X x0 x1 x2 x3 x4) := X6.out.below HB.out X6.out.lt
          have hbx := X7.out.lt
          by_cases hlt : j < nl
          · have hjl : j < ls.length := by rw [HNl.out]; exact hlt
            have hlti : (j : Int) < (nl : Int) := by omega
            obtain ⟨_, _, _, he, hrow⟩ := HL.out.below (B6.out.trans (HB.out.mono B6.out.size))
            cases he
            obtain ⟨b, o, rfl, hbw, hat⟩ := hrow (fun h => by simp [h] at hjl)
            obtain ⟨u', hu', hru⟩ := hat j hjl
            have HUj : Hid (RowIs wr u' ls[j]) := hru
            have hgd : ls.getD j [] = ls[j] := getD_atW _ _ _ hjl
            have HYs : Hid (lackB key x1 ls[j] = true → lackN ls key x1 (j + 1) = lackN ls key x1 j ++ [(j : Int)]) := fun hh => lackN_yes (by rw [hgd]; exact hh)
            have HNo : Hid (lackB key x1 ls[j] = false → lackN ls key x1 (j + 1) = lackN ls key x1 j) := fun hh => lackN_no (by rw [hgd]; exact hh)
            have HLn : Hid ((lackN ls key x1 j).length ≤ 100) := Nat.le_trans (lackN_len _ _ _ _) (by have := HGL.out.len; have := HNl.out; omega)
            obtain ⟨xs, HXs⟩ : ∃ xs, Hid (lackN ls key x1 j = xs) := ⟨_, rfl⟩
            rw [HXs.out] at HO HYs HNo HLn
            have c0 : wr.cell? ⟨b, o + j, none⟩ = some u' := hu'
            clear hrow hat hru hgd hu'
            cases hg : getE ls[j] key with
            | none =>
              have HC : Hid _ := rGet_none hg u' wr HUj.out
              have HE1 : Hid (lackN ls key x1 (j + 1) = xs ++ [(j : Int)]) := HYs.out (by rw [lackB, hg])
              clear hg HYs HNo
              go_wp2_with fail
              refine Calls.mono HC.out ?_
              rintro e w2 ⟨rfl, hb⟩
              obtain ⟨w3, HW3⟩ : ∃ w3, w3 = w2.alloc (.cells #[.int .i64 0, .int .i64 0, .int .i64 0, .bool false, .string ⟨#[]⟩] 26) := ⟨_, rfl⟩
              have hb3 : Below wr.heap.size wr w3 := by rw [HW3]; exact hb.alloc hb.size _
              have B3 : Hid (Below w6.heap.size w6 w3) := HB.out.trans (hb3.mono HB.out.size)
              have O3 : Hid (w3.ownsRow w6.heap.size 3 1 u xs.length (intC xs)) := ownsRow_belowF HO.out hb3
              clear hb hb3 c0
              go_upto_region 15 with fail
              rw [← HW3]
              clear HW3
              have hws3 := B3.out.size
              have HOb : Hid ((w3.alloc (.cells #[.int .i64 (j : Int)] 3)).ownsRow w6.heap.size 3 1 u xs.length (intC xs)) := O3.out.alloc _
              have HVa : Hid ((w3.alloc (.cells #[.int .i64 (j : Int)] 3)).heap[w3.heap.size]? = some (.cells #[.int .i64 (j : Int)] 3 (0, 0))) := alloc_at _ _ _ rfl
              have HSa : Hid (w6.heap.size ≤ (w3.alloc (.cells #[.int .i64 (j : Int)] 3)).heap.size) := show _ ≤ _ from (by simp; omega)
              have HBb : Hid (Below w6.heap.size w6 (w3.alloc (.cells #[.int .i64 (j : Int)] 3))) := B3.out.alloc hws3 _
              have HXa : Hid (∀ c, u.ownBlock = some c → w6.heap.size ≤ c) := fun c hc => ownsRow_fromF O3.out c hc
              go_wp2_with (at_builtin; refine wp_appI _ rfl _ _ rfl w6.heap.size _ xs (j : Int) rfl HOb.out _ rfl HVa.out HLn.out HSa.out ?_)
              intro va wa hown hgrow
              have HOp : Hid (wa.ownsRow w6.heap.size 3 1 va (xs ++ [(j : Int)]).length (intC (xs ++ [(j : Int)]))) := hown
              have HBp : Hid (Below w6.heap.size w6 wa) := below_grownF (HBb.out) (Nat.le_refl _) hgrow.out HXa.out
              clear hown hgrow HOb HVa HSa
              go_wp2_with fail
              go_roundw
              case rel =>
                refine ⟨j + 1, va, rfl, by omega, by go_num, ?_, HBp⟩
                show World.ownsRow _ _ _ _ _ _ _
                rw [HE1.out]
                exact HOp.out
              case measure => simp [intOf]; omega
            | some y =>
              obtain ⟨y0, y1, y2, y3, y4⟩ := y
              have HC : Hid _ := rGet_some hg u' wr HUj.out
              cases hd : decide (y1 < x1)
              · have HE1 : Hid (lackN ls key x1 (j + 1) = xs) := HNo.out (by rw [lackB, hg]; exact hd)
                clear hg HYs HNo
                go_wp2_with fail
                refine Calls.mono HC.out ?_
                rintro e w2 ⟨rfl, hb⟩
                obtain ⟨w3, HW3⟩ : ∃ w3, w3 = w2.alloc (.cells #[.int .i64 y0, .int .i64 y1, .int .i64 y2, .bool y3, .string y4] 26) := ⟨_, rfl⟩
                have hb3 : Below wr.heap.size wr w3 := by rw [HW3]; exact hb.alloc hb.size _
                have B3 : Hid (Below w6.heap.size w6 w3) := HB.out.trans (hb3.mono HB.out.size)
                have O3 : Hid (w3.ownsRow w6.heap.size 3 1 u xs.length (intC xs)) := ownsRow_belowF HO.out hb3
                have E3 : Hid (BoxAt w3 X x0 x1 x2 x3 x4) := X7.out.below hb3 hbx
                have F3 : Hid (BoxAt w3 w2.heap.size y0 y1 y2 y3 y4) := by rw [HW3]; exact box_new w2 y0 y1 y2 y3 y4 _ rfl
                clear hb hb3 c0
                go_upto_region 15 with fail
                rw [← HW3]
                clear HW3
                obtain ⟨e0, e1, e2, e3, e4, ef⟩ := E3.out
                obtain ⟨f0, f1, f2, f3, f4, ff⟩ := F3.out
                go_wp2_with fail
                clear e0 e1 e2 e3 e4 ef f0 f1 f2 f3 f4 ff
                go_roundw
                case rel =>
                  refine ⟨j + 1, u, rfl, by omega, by go_num, ?_, B3⟩
                  show World.ownsRow _ _ _ _ _ _ _
                  rw [HE1.out]
                  exact O3.out
                case measure => simp [intOf]; omega
              · have HE1 : Hid (lackN ls key x1 (j + 1) = xs ++ [(j : Int)]) := HYs.out (by rw [lackB, hg]; exact hd)
                clear hg HYs HNo
                go_wp2_with fail
                refine Calls.mono HC.out ?_
                rintro e w2 ⟨rfl, hb⟩
                obtain ⟨w3, HW3⟩ : ∃ w3, w3 = w2.alloc (.cells #[.int .i64 y0, .int .i64 y1, .int .i64 y2, .bool y3, .string y4] 26) := ⟨_, rfl⟩
                have hb3 : Below wr.heap.size wr w3 := by rw [HW3]; exact hb.alloc hb.size _
                have B3 : Hid (Below w6.heap.size w6 w3) := HB.out.trans (hb3.mono HB.out.size)
                have O3 : Hid (w3.ownsRow w6.heap.size 3 1 u xs.length (intC xs)) := ownsRow_belowF HO.out hb3
                have E3 : Hid (BoxAt w3 X x0 x1 x2 x3 x4) := X7.out.below hb3 hbx
                have F3 : Hid (BoxAt w3 w2.heap.size y0 y1 y2 y3 y4) := by rw [HW3]; exact box_new w2 y0 y1 y2 y3 y4 _ rfl
                clear hb hb3 c0
                go_upto_region 15 with fail
                rw [← HW3]
                clear HW3
                obtain ⟨e0, e1, e2, e3, e4, ef⟩ := E3.out
                obtain ⟨f0, f1, f2, f3, f4, ff⟩ := F3.out
                have hws3 := B3.out.size
                have HOb : Hid ((w3.alloc (.cells #[.int .i64 (j : Int)] 3)).ownsRow w6.heap.size 3 1 u xs.length (intC xs)) := O3.out.alloc _
                have HVa : Hid ((w3.alloc (.cells #[.int .i64 (j : Int)] 3)).heap[w3.heap.size]? = some (.cells #[.int .i64 (j : Int)] 3 (0, 0))) := alloc_at _ _ _ rfl
                have HSa : Hid (w6.heap.size ≤ (w3.alloc (.cells #[.int .i64 (j : Int)] 3)).heap.size) := show _ ≤ _ from (by simp; omega)
                have HBb : Hid (Below w6.heap.size w6 (w3.alloc (.cells #[.int .i64 (j : Int)] 3))) := B3.out.alloc hws3 _
                have HXa : Hid (∀ c, u.ownBlock = some c → w6.heap.size ≤ c) := fun c hc => ownsRow_fromF O3.out c hc
                go_wp2_with (at_builtin; refine wp_appI _ rfl _ _ rfl w6.heap.size _ xs (j : Int) rfl HOb.out _ rfl HVa.out HLn.out HSa.out ?_)
                intro va wa hown hgrow
                have HOp : Hid (wa.ownsRow w6.heap.size 3 1 va (xs ++ [(j : Int)]).length (intC (xs ++ [(j : Int)]))) := hown
                have HBp : Hid (Below w6.heap.size w6 wa) := below_grownF (HBb.out) (Nat.le_refl _) hgrow.out HXa.out
                clear hown hgrow HOb HVa HSa
                clear e0 e1 e2 e3 e4 ef f0 f1 f2 f3 f4 ff
                go_wp2_with fail
                go_roundw
                case rel =>
                  refine ⟨j + 1, va, rfl, by omega, by go_num, ?_, HBp⟩
                  show World.ownsRow _ _ _ _ _ _ _
                  rw [HE1.out]
                  exact HOp.out
                case measure => simp [intOf]; omega
          · obtain rfl : j = nl := by omega
            go_wp2_with fail
            go_meet
            exact ⟨_, rfl, by rw [← HLq.out]; exact IntsIs.own HO.out, B6.out.trans (HB.out.mono B6.out.size), X7⟩
  case rest =>
  as_aux_lemma =>
  obtain ⟨u, hue, HU, B7, X7⟩ := hcut
  have hue' := hue.symm
  clear hue
  subst hue'
  obtain ⟨w7, hren⟩ : ∃ x, x = wc := ⟨_, rfl⟩
  subst hren
  clear B6 X6 hX6
  go_wp2_with fail
  refine (I.lacks (HL.out.below B7.out) HLa.out).mono ?_
  rintro e w8 ⟨u2, rfl, hu2, hb⟩
  have B8 : Hid (Below w.heap.size w w8) := B7.out.trans (hb.mono B7.out.size)
  have X8 : Hid (BoxAt w8 X x0 x1 x2 x3 x4) := X7.out.below hb X7.out.lt
  have U8 : Hid (IntsIs w8 u La) := HU.out.below hb
  have V8 : Hid (IntsIs w8 u2 La) := hu2
  clear hb hu2 B7 X7 HU
  rw [HEm.out]
  go_wp2_with fail
  rw [← HEm.out]
  refine (err_same m _ (HGE.out.below HGE.out.lt B8.out)).mono ?_
  rintro e w9 ⟨rfl, hb⟩
  have B9 : Hid (Below w.heap.size w w9) := B8.out.trans (hb.mono B8.out.size)
  have X9 : Hid (BoxAt w9 X x0 x1 x2 x3 x4) := X8.out.below hb X8.out.lt
  have U9 : Hid (IntsIs w9 u La) := U8.out.below hb
  have V9 : Hid (IntsIs w9 u2 La) := V8.out.below hb
  clear hb B8 X8 U8 V8
  go_wp2_with fail
  refine (intsT_c _ _ La _ V9.out U9.out).mono ?_
  rintro e w10 ⟨rfl, hb⟩
  have B10 : Hid (Below w.heap.size w w10) := B9.out.trans (hb.mono B9.out.size)
  have X10 : Hid (BoxAt w10 X x0 x1 x2 x3 x4) := X9.out.below hb X9.out.lt
  clear hb B9 X9 U9 V9
  obtain ⟨zs, HWr⟩ : ∃ zs, Hid (writeR ls key = (zs, m)) := by
    refine ⟨(writeR ls key).1, Prod.ext rfl ?_⟩
    show (writeR ls key).2 = m
    rw [writeR, HR.out]
    split
    · rfl
    · rename_i h
      exact (by simpa using h : m = 0).symm
  have hX10 := X10.out.lt
  go_upto_block 2 with fail
  go_cut [11, 23, 24, 25] (fun c11 c23 _ _ wd => c11 = .int .i64 m ∧ ∃ u : Value, c23 = u ∧ Hid (RowsIs wd u zs) ∧ Hid (Below w.heap.size w wd))
  case first =>
    as_aux_lemma =>
      cases mb with
      | false =>
        have hm0 : m ≠ 0 := by have := HMb.out; simpa using this
        have HZe : Hid (zs = []) := by
          have := HWr.out
          rw [writeR, HR.out, if_pos hm0] at this
          exact (Prod.mk.inj this).1.symm
        have hmb : (m == 0) = false := HMb.out
        clear hm0
        by_cases hnl : 0 < nl
        · go_wp2_with fail
          refine wp_loop_rounds 1 ?_
          rw [rounds_succ]
          go_wp2_with fail
          go_meet
          exact ⟨rfl, _, rfl, by rw [HZe.out]; exact RowsIs.nilW _, B10⟩
        · go_wp2_with fail
          refine wp_loop_rounds 1 ?_
          rw [rounds_succ]
          go_wp2_with fail
          go_meet
          exact ⟨rfl, _, rfl, by rw [HZe.out]; exact RowsIs.nilW _, B10⟩
      | true =>
        have hm0 : m = 0 := by have := HMb.out; simpa using this
        subst hm0
        have HR0 : Hid (readR ls key = (⟨x0, x1, x2, x3, x4⟩, 0)) := HR
        obtain ⟨hgl, _, _⟩ := readR_ok HR.out
        have HGL : Hid (GoodLs ls) := hgl
        have HXb : Hid (bad x0 x1 x2 x3 x4 = 0) := (readR_over HR.out).1.1
        have HZq : Hid (ls.map (withE ⟨x0, x1, x2, x3, x4⟩) = zs) := by
          have h1 := HWr.out
          rw [writeR, HR.out, if_neg (by simp)] at h1
          exact (Prod.mk.inj h1).1
        have HZl : Hid (zs.length = nl) := by show _ = _; rw [← HZq.out, List.length_map, HNl.out]
        clear hgl
        go_wp2_with fail
        go_loopw [11, 23, 24] (fun s11 s23 s24 wr => s11 = .int .i64 0 ∧ ∃ (j : Nat) (u : Value), s23 = u ∧ j ≤ nl ∧ s24 = .int .i64 j ∧ Hid (GrowW w10.heap.size wr u (zs.take j)) ∧ Hid (Below w10.heap.size w10 wr)) (fun _ _ i _ => nl - (intOf i).toNat)
        case atStart => exact ⟨rfl, 0, _, rfl, Nat.zero_le _, rfl, GrowW.nil _ _, Below.refl _ _⟩
        case round =>
          obtain ⟨rfl, j, u, hs23, hj, rfl, HO, HB⟩ := hrel
          have hs23' := hs23.symm
          clear hs23
          subst hs23'
          have X7 : Hid (BoxAt wr X x0 x1 x2 x3 x4) := X10.out.below HB.out X10.out.lt
          have hbx := X7.out.lt
          by_cases hlt : j < nl
          · have hjl : j < ls.length := by rw [HNl.out]; exact hlt
            have hjz : j < zs.length := by rw [HZl.out]; exact hlt
            have hlti : (j : Int) < (nl : Int) := by omega
            obtain ⟨_, _, _, he, hrow⟩ := HL.out.below (B10.out.trans (HB.out.mono B10.out.size))
            cases he
            obtain ⟨b, o, rfl, hbw, hat⟩ := hrow (fun h => by simp [h] at hjl)
            obtain ⟨u', hu', hru⟩ := hat j hjl
            have HUj : Hid (RowIs wr u' ls[j]) := hru
            have HGj : Hid (GoodL ls[j]) := badL_good (HGL.out.all _ (List.getElem_mem hjl))
            have hzj : zs[j] = withE ⟨x0, x1, x2, x3, x4⟩ ls[j] := by simp [← HZq.out]
            obtain ⟨ch, HPt⟩ : ∃ ch, Hid (putE ls[j] ⟨x0, x1, x2, x3, x4⟩ = (zs[j], ch, 0)) := by
              refine ⟨(putE ls[j] ⟨x0, x1, x2, x3, x4⟩).2.1, ?_⟩
              have h0 := readR_put HR0.out (List.getElem_mem hjl)
              show _ = _
              rw [hzj, withE, ← h0]
            have HNe : Hid (zs[j] ≠ []) := by show _ ≠ _; rw [hzj]; exact with_some HR0.out (List.getElem_mem hjl)
            have HTk : Hid (zs.take (j + 1) = zs.take j ++ [zs[j]]) := List.take_succ_eq_append_getElem hjz
            have HTl : Hid ((zs.take j).length ≤ 100) := by show _ ≤ _; rw [List.length_take]; have := HGL.out.len; have := HNl.out; omega
            obtain ⟨y, HYz⟩ : ∃ y, Hid (zs[j] = y) := ⟨zs[j], show zs[j] = zs[j] from rfl⟩
            obtain ⟨l0, HLz⟩ : ∃ l0, Hid (ls[j] = l0) := ⟨ls[j], show ls[j] = ls[j] from rfl⟩
            rw [HYz.out] at HPt HNe HTk
            rw [HLz.out] at HPt HGj HUj
            have c0 : wr.cell? ⟨b, o + j, none⟩ = some u' := hu'
            clear hrow hat hru hu' hzj
            obtain ⟨_, pu, cu, rfl, _⟩ := HUj.out
            obtain ⟨e0, e1, e2, e3, e4, ef⟩ := X7.out
            go_upto_region 24 with fail
            go_region_held3 (fun w' => w'.cell? ⟨b, o + j, none⟩ = some (.slice pu l0.length cu) ∧ w'.cell? ⟨X, 0, none⟩ = some (.int .i64 x0) ∧ w'.cell? ⟨X, 1, none⟩ = some (.int .i64 x1) ∧ w'.cell? ⟨X, 2, none⟩ = some (.int .i64 x2) ∧ w'.cell? ⟨X, 3, none⟩ = some (.bool x3) ∧ w'.cell? ⟨X, 4, none⟩ = some (.string x4)) (first | go_keep | (exact ⟨old_cellW HB3.out c0, old_cellW HB3.out e0, old_cellW HB3.out e1, old_cellW HB3.out e2, old_cellW HB3.out e3, old_cellW HB3.out e4⟩)) (first | (go_at_call 15; refine (rAdd_o HPt.out _ _ ?_ HGj.out HXb.out).mono ?_; exact HUj.out.drew; rintro e w3 ⟨v3, rfl, ⟨hr3, hf3⟩, hb3⟩; have HR3 : Hid (RowIs w3 v3 y) := hr3; have HF3 : Hid (∀ g, v3.ownBlock = some g → wr.heap.size ≤ g) := hf3; have HB3 : Hid (Below wr.heap.size wr w3) := below_undrew hb3; clear hr3 hf3 hb3))
            clear c0 e0 e1 e2 e3 e4 ef
            obtain ⟨_, p3, q3, rfl, _⟩ := HR3.out
            have B3 : Hid (Below w10.heap.size w10 w3) := HB.out.trans (HB3.out.mono HB.out.size)
            have O3 : Hid (GrowW w10.heap.size w3 u (zs.take j)) := HO.out.below HB3.out
            have hws3 := B3.out.size
            have HEl : Hid (∀ g, (Value.slice p3 y.length q3).ownBlock = some g → g < (w3.alloc (.cells #[.slice p3 y.length q3] 37)).heap.size ∧ u.ownBlock ≠ some g) := fun g hg => by
              have h1 := HF3.out g hg
              have h2 := HR3.out.lt HNe.out g hg
              refine ⟨by simp; omega, fun e => ?_⟩
              have := HO.out.lt g e
              omega
            have HOb : Hid (GrowW w10.heap.size (w3.alloc (.cells #[.slice p3 y.length q3] 37)) u (zs.take j)) := O3.out.below ((Below.refl _ _).alloc (Nat.le_refl _) _)
            have HVa : Hid ((w3.alloc (.cells #[.slice p3 y.length q3] 37)).heap[w3.heap.size]? = some (.cells #[.slice p3 y.length q3] 37 (0, 0))) := alloc_at _ _ _ rfl
            have HSa : Hid (w10.heap.size ≤ (w3.alloc (.cells #[.slice p3 y.length q3] 37)).heap.size) := show _ ≤ _ from (by simp; omega)
            have HRa : Hid (RowIs (w3.alloc (.cells #[.slice p3 y.length q3] 37)) (.slice p3 y.length q3) y) := HR3.out.below ((Below.refl _ _).alloc (Nat.le_refl _) _)
            have HBb : Hid (Below w10.heap.size w10 (w3.alloc (.cells #[.slice p3 y.length q3] 37))) := B3.out.alloc hws3 _
            have HXa : Hid (∀ c, u.ownBlock = some c → w10.heap.size ≤ c) := fun c hc => HO.out.from c hc
            go_wp2_with (at_builtin; refine wp_growW _ rfl _ _ rfl w10.heap.size _ (zs.take j) (.slice p3 y.length q3) y rfl HOb.out _ rfl HVa.out HRa.out HEl.out HTl.out HSa.out ?_)
            intro va wa hown hgrow
            have HOp : Hid (GrowW w10.heap.size wa va (zs.take j ++ [y])) := hown
            have HBp : Hid (Below w10.heap.size w10 wa) := below_grownF HBb.out (Nat.le_refl _) hgrow.out HXa.out
            clear hown hgrow HOb HVa HSa HRa HEl
            go_wp2_with fail
            go_roundw
            case rel => exact ⟨rfl, j + 1, va, rfl, by omega, by go_num, by rw [HTk.out]; exact HOp, HBp⟩
            case measure => simp [intOf]; omega
          · obtain rfl : j = nl := by omega
            have HTk : Hid (zs.take j = zs) := List.take_of_length_le (by rw [HZl.out]; exact Nat.le_refl _)
            go_wp2_with fail
            go_meet
            exact ⟨rfl, _, rfl, by rw [← HTk.out]; exact HO.out.rows, B10.out.trans (HB.out.mono B10.out.size)⟩
  case rest =>
  as_aux_lemma =>
  obtain ⟨rfl, u3, hue, HU, B11⟩ := hcut
  have hue' := hue.symm
  clear hue
  subst hue'
  obtain ⟨w11, hren⟩ : ∃ x, x = wc := ⟨_, rfl⟩
  subst hren
  clear B10 X10 hX10
  go_upto_if 132 with fail
  go_cut [23] (fun c23 wd => ∃ u : Value, c23 = u ∧ Hid (RowsIs wd u zs) ∧ wd = w11)
  case first =>
    as_aux_lemma =>
      cases mb with
      | false =>
        have hm0 : m ≠ 0 := by have := HMb.out; simpa using this
        have HZe : Hid (zs = []) := by
          have := HWr.out
          rw [writeR, HR.out, if_pos hm0] at this
          exact (Prod.mk.inj this).1.symm
        have hmb : (m != 0) = true := by simp [hm0]
        clear hm0
        go_wp2_with fail
        go_meet
        exact ⟨_, rfl, by rw [HZe.out]; exact RowsIs.nilW _, rfl⟩
      | true =>
        have hmb : (m != 0) = false := by have := HMb.out; simpa using this
        go_wp2_with fail
        go_meet
        exact ⟨_, rfl, HU, rfl⟩
  case rest =>
  as_aux_lemma =>
  obtain ⟨u4, hue, HU4, hwc⟩ := hcut
  have hue' := hue.symm
  clear hue
  subst hue'
  rw [hwc] at HU4 ⊢
  clear hwc wc HU
  go_wp2_with fail
  refine (I.write (HL.out.below B11.out) HWr.out).mono ?_
  rintro e w12 ⟨u5, rfl, hu5, hb⟩
  have B12 : Hid (Below w.heap.size w w12) := B11.out.trans (hb.mono B11.out.size)
  have U12 : Hid (RowsIs w12 u4 zs) := HU4.out.below hb
  have V12 : Hid (RowsIs w12 u5 zs) := hu5
  clear hb hu5 B11 HU4
  rw [HEm.out]
  go_wp2_with fail
  rw [← HEm.out]
  refine (err_same m _ (HGE.out.below HGE.out.lt B12.out)).mono ?_
  rintro e w13 ⟨rfl, hb⟩
  have B13 : Hid (Below w.heap.size w w13) := B12.out.trans (hb.mono B12.out.size)
  have U13 : Hid (RowsIs w13 u4 zs) := U12.out.below hb
  have V13 : Hid (RowsIs w13 u5 zs) := V12.out.below hb
  clear hb B12 U12 V12
  go_wp2_with fail
  refine (sameRows_c _ _ zs _ V13.out U13.out).mono ?_
  rintro e w14 ⟨rfl, hb⟩
  have B14 : Hid (Below w.heap.size w w14) := B13.out.trans (hb.mono B13.out.size)
  clear hb B13 U13 V13
  obtain ⟨me, HMe⟩ : ∃ me, Hid (meetE n r q = me) := ⟨_, rfl⟩
  obtain ⟨bt, HBt⟩ : ∃ bt, Hid ((decide (n < 1) || (decide (6 < n) || (decide (r < 0) || (decide (n < r) || (decide (q < 0) || decide (n < q)))))) = bt) := ⟨_, rfl⟩
  go_upto_region 31 with fail
  go_cut [170] (fun c wd => c = .bool bt ∧ wd = w14)
  case first =>
    as_aux_lemma =>
      cases h1 : decide (n < 1)
      · cases h2 : decide (6 < n)
        · cases h3 : decide (r < 0)
          · cases h4 : decide (n < r)
            · cases h5 : decide (q < 0)
              · have : bt = decide (n < q) := by rw [← HBt.out, h1, h2, h3, h4, h5]; rfl
                subst this
                clear HBt
                go_wp2_with fail
                go_meet
                exact ⟨rfl, rfl⟩
              · have : bt = true := by rw [← HBt.out, h1, h2, h3, h4, h5]; rfl
                subst this
                clear HBt
                go_wp2_with fail
                go_meet
                exact ⟨rfl, rfl⟩
            · have : bt = true := by rw [← HBt.out, h1, h2, h3, h4]; rfl
              subst this
              clear HBt
              go_wp2_with fail
              go_meet
              exact ⟨rfl, rfl⟩
          · have : bt = true := by rw [← HBt.out, h1, h2, h3]; rfl
            subst this
            clear HBt
            go_wp2_with fail
            go_meet
            exact ⟨rfl, rfl⟩
        · have : bt = true := by rw [← HBt.out, h1, h2]; rfl
          subst this
          clear HBt
          go_wp2_with fail
          go_meet
          exact ⟨rfl, rfl⟩
      · have : bt = true := by rw [← HBt.out, h1]; rfl
        subst this
        clear HBt
        go_wp2_with fail
        go_meet
        exact ⟨rfl, rfl⟩
  case rest =>
  as_aux_lemma =>
  obtain ⟨rfl, hwc⟩ := hcut
  rw [hwc]
  clear hwc wc
  have HMt : Hid (me = if bt = true then 1 else 0) := by
    show _ = _
    rw [← HMe.out, ← HBt.out, meetE]
    by_cases hh : (1 ≤ n ∧ n ≤ 6) ∧ (0 ≤ r ∧ r ≤ n) ∧ (0 ≤ q ∧ q ≤ n)
    · rw [if_pos hh, if_neg]
      simp
      omega
    · rw [if_neg hh, if_pos]
      simp
      omega
  go_upto_if 170 with fail
  go_cut [11] (fun c11 wd => c11 = .int .i64 me ∧ wd = w14)
  case first =>
    as_aux_lemma =>
      cases bt
      · have : me = 0 := HMt.out
        subst this
        go_wp2_with fail
        go_meet
        exact ⟨rfl, rfl⟩
      · have : me = 1 := HMt.out
        subst this
        go_wp2_with fail
        go_meet
        exact ⟨rfl, rfl⟩
  case rest =>
  as_aux_lemma =>
  obtain ⟨rfl, hwc⟩ := hcut
  rw [hwc]
  clear hwc wc HBt HMt
  obtain ⟨mt, HMm⟩ : ∃ mt, Hid (meetB n r q = mt) := ⟨_, rfl⟩
  go_wp2_with fail
  refine (I.meet HMe.out HMm.out).mono ?_
  rintro e w15 ⟨rfl, hb⟩
  have B15 : Hid (Below w.heap.size w w15) := B14.out.trans (hb.mono B14.out.size)
  clear hb B14
  obtain ⟨en, HEn⟩ : ∃ en, Hid (eV me = en) := ⟨_, rfl⟩
  rw [HEn.out]
  go_wp2_with fail
  rw [← HEn.out]
  refine (err_same me _ (HGE.out.below HGE.out.lt B15.out)).mono ?_
  rintro e w16 ⟨rfl, hb⟩
  have B16 : Hid (Below w.heap.size w w16) := B15.out.trans (hb.mono B15.out.size)
  clear hb B15
  by_cases hz : me = 0
  · have hzb : (me == 0) = true := by simp [hz]
    obtain ⟨⟨n1, n2⟩, ⟨r1, r2⟩, q1, q2⟩ := meetE_ok (HMe.out.trans hz)
    have hmm : mt = decide (n < r + q) := by rw [← HMm.out, meetB, HMe.out, hz]; simp
    clear hz
    subst hmm
    cases hgt : decide (n < r + q)
    · go_wp2_with fail
      go_ret
      exact ⟨rfl, B16.out⟩
    · go_wp2_with fail
      go_ret
      exact ⟨rfl, B16.out⟩
  · have hzb : (me == 0) = false := by simp [hz]
    have hmm : mt = false := by rw [← HMm.out, meetB, HMe.out, decide_eq_false hz]; rfl
    clear hz
    subst hmm
    go_wp2_with fail
    go_ret
    exact ⟨rfl, B16.out⟩
end Go.Proofs.YtliaidgedjjobaaDoor
