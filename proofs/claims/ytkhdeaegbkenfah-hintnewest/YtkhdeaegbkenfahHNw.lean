/-
  merelaw2.HintNewest answers true, whatever the hints and the node.
-/
import Derived.Test.YtkhdeaegbkenfahRg35
import Derived.Deep.DeepCutAuto
import Derived.Deep.CutBlock
import Derived.Deep.LoopGhost
import Derived.Deep.Draws
import Derived.Deep.RegionHeld3
import Derived.BigQuiet
import Derived.BigRegion
import Derived.WalkSmall
namespace Go.Proofs.Ytkhdeaegbkenfah
set_option linter.unusedVariables false
set_option linter.unusedSimpArgs false
open Go.RowKit

theorem fact_one : addH ⟨1, 2, 9⟩ [] = [⟨1, 2, 9⟩] ∧ addN ⟨1, 2, 9⟩ [] = 0 ∧ addE ⟨1, 2, 9⟩ = 0 := ⟨rfl, rfl, rfl⟩
theorem fact_two : addH ⟨1, 2, 4⟩ [⟨1, 2, 9⟩] = [⟨1, 2, 9⟩] ∧ addN ⟨1, 2, 4⟩ [⟨1, 2, 9⟩] = 0 ∧ addE ⟨1, 2, 4⟩ = 0 := ⟨rfl, rfl, rfl⟩
theorem addN_one (x : Hn) (l : List Hn) : addN x l ≤ 1 := by
  unfold addN
  split <;> omega
theorem Hb.callU {P : Nat → Prop} {N : Nat} {w0 wc : World} {b : Nat} {l : List Hn} {n : Nat} (h : Hb P N w0 wc b l n) :
    ∃ S, HiAt S wc b l n ∧ ∀ (w' : World) (l' : List Hn) (n' : Nat) (S' U : Nat → Prop), Turn S wc w' → HiAt S' w' b l' n' → (∀ c, S' c → (S c ∨ wc.heap.size ≤ c) ∧ ¬ U c) → (∀ c, U c → wc.heap.size ≤ c ∧ c < w'.heap.size) → Hb (fun c => P c ∨ U c) N w0 w' b l' n' ∧ (∀ c, P c → w'.heap[c]? = wc.heap[c]?) ∧ wc.heap.size ≤ w'.heap.size := by
  obtain ⟨S, h1, h2⟩ := h.s
  refine ⟨S, h1, fun w' l' n' S' U ht g1 g2 hU => ?_⟩
  have hN := h.hN
  refine ⟨⟨⟨S', g1, fun c hc => ?_⟩, h.bel.trans (ht.below h.hN (fun c hc => (h2 c hc).1)), Nat.le_trans h.hN ht.size, fun c hc => ?_⟩, fun c hc => ht.block c (h.hP c hc) (fun h' => (h2 c h').2 hc), ht.size⟩
  · obtain ⟨g3, g4⟩ := g2 c hc
    rcases g3 with h' | h'
    · exact ⟨(h2 c h').1, fun hp => by rcases hp with hp | hp; exact (h2 c h').2 hp; exact g4 hp⟩
    · refine ⟨by omega, fun hp => ?_⟩
      rcases hp with hp | hp
      · have := h.hP c hp
        omega
      · exact g4 hp
  · rcases hc with hc | hc
    · exact Nat.lt_of_lt_of_le (h.hP c hc) ht.size
    · exact (hU c hc).2
set_option maxRecDepth 100000 in
set_option maxHeartbeats 32000000 in
theorem newest_w (I : HiFace) (vl : Value) (l : List Hn) (node : Int) (w : World) (hl : HnsIs w vl l) :
    Calls Try.prog 5 #[vl, .int .i64 node] w fun e w' => e = .returned (.bool true) ∧ Below w.heap.size w w' := by
  obtain ⟨hlen, pL, capL, rfl, hrow⟩ := hl
  have HRow : Hid (l ≠ [] → ∃ b o, pL = some ⟨b, o, none⟩ ∧ b < w.heap.size ∧ ∀ j (h : j < l.length), HnAt w b (o + j * 3) l[j]) := hrow
  clear hrow
  obtain ⟨nl, HNl⟩ : ∃ n, Hid (l.length = n) := ⟨_, rfl⟩
  rw [HNl.out] at hlen ⊢
  have hn63 : nl ≤ 9223372036854775807 := hlen
  clear hlen
  go_enter Try.func5, Try.ntmps5
  go_wp2_with fail
  refine (I.new _).mono ?_
  rintro e w1 ⟨b1, rfl, hb0, hat, hbel⟩
  have H1 : Hid (Hb (fun _ => False) w.heap.size w w1 b1 [] 0) := ⟨⟨_, hat, fun c hc => ⟨by rw [hc]; exact hb0, id⟩⟩, hbel, hbel.size, fun c hc => hc.elim⟩
  clear hb0 hat hbel
  obtain ⟨S, h1, h2⟩ := H1.out.call
  have HS : Hid _ := h1
  have HC : Hid _ := h2
  clear h1 h2
  go_wp2_with fail
  refine (I.add HS.out GoodH.nil (by omega) fact_one.2.2 fact_one.1 rfl).mono ?_
  rintro e w2 ⟨rfl, ht⟩
  have H2 : Hid (Hb (fun _ => False) w.heap.size w w2 b1 [⟨1, 2, 9⟩] 0) := (HC.out _ _ _ ht).1
  have HG1 : Hid (GoodH [⟨1, 2, 9⟩]) := by have := GoodH.nil.add ⟨1, 2, 9⟩; rw [fact_one.1] at this; exact this
  clear ht HS HC H1
  rw [eV_zero]
  obtain ⟨S, h1, h2⟩ := H2.out.call
  have HS : Hid _ := h1
  have HC : Hid _ := h2
  clear h1 h2
  go_wp2_with fail
  refine (I.add HS.out HG1.out (by omega) fact_two.2.2 fact_two.1 rfl).mono ?_
  rintro e w3 ⟨rfl, ht⟩
  have H3 : Hid (Hb (fun _ => False) w.heap.size w w3 b1 [⟨1, 2, 9⟩] 0) := (HC.out _ _ _ ht).1
  clear ht HS HC H2
  rw [eV_zero]
  obtain ⟨S, h1, _⟩ := H3.out.call
  have HS : Hid _ := h1
  clear h1
  go_wp2_with fail
  refine (I.all HS.out HG1.out).mono ?_
  rintro e w4 ⟨u, rfl, hu, _, hb⟩
  have B4 : Hid (Below w.heap.size w w4) := H3.out.bel.trans (hb.mono H3.out.hN)
  obtain ⟨p, cap, rfl, _⟩ := hu.slice
  obtain ⟨g, o, rfl, hlt, hat⟩ := hu.at 0 (by simp)
  obtain ⟨x0, x1, x2⟩ := hat
  simp only [Nat.zero_mul, Nat.add_zero, List.getElem_cons_zero] at x0 x1 x2
  clear hu hb HS H3 HG1
  go_wp2_with fail
  refine (I.new _).mono ?_
  rintro e w5 ⟨b, rfl, hb0, hat, hbel⟩
  have H5 : Hid (Hb (fun _ => False) w.heap.size w w5 b [] 0) := ⟨⟨_, hat, fun c hc => ⟨by have := B4.out.size; omega, id⟩⟩, B4.out.trans (hbel.mono B4.out.size), Nat.le_trans B4.out.size hbel.size, fun c hc => hc.elim⟩
  clear hb0 hat hbel x0 x1 x2 hlt
  go_upto_region 9 with fail
  show Code.wp _ _ _ _ (box48 w5)
  have HB6 : Hid (B48 (box48 w5) w5.heap.size (fun _ => 0)) := box48_new w5 _ rfl
  have H6 : Hid (Hb (fun c => c = w5.heap.size) w.heap.size w (box48 w5) b [] 0) := H5.out.more (box48_below w5) (fun c hc => .inr (by omega)) (fun c hc => by rw [box48_size]; omega)
  have hAN : w.heap.size ≤ w5.heap.size := H5.out.hN
  clear H5 B4
  generalize box48 w5 = w6 at HB6 H6 ⊢
  obtain ⟨A, HA⟩ : ∃ A, Hid (w5.heap.size = A) := ⟨_, rfl⟩
  rw [HA.out] at HB6 H6 hAN ⊢
  clear HA
  go_upto_block 0 with fail
  go_cut [11, 12] (fun _ _ wd => ∃ (L : List Hn) (lo : Nat) (o : Nat → Int), Hid (lo ≤ 60) ∧ Hid (Best L lo o) ∧ Hid (Hb (fun c => c = A) w.heap.size w wd b L lo) ∧ Hid (B48 wd A o))
  case first =>
    try clear_value *
    as_aux_lemma =>
      let _BP : Exit → Act → World → Prop := bodyPost Try.prog Try.f5 fun _ _ => True
      go_wp2_with fail
      go_loopw [11, 12] (fun c11 c12 wr => ∃ (i : Nat) (L : List Hn) (lo : Nat) (o : Nat → Int) (v12 : Value), i ≤ nl ∧ i ≤ 60 ∧ c11 = .int .i64 i ∧ c12 = v12 ∧ Hid (lo ≤ i) ∧ Hid (Best L lo o) ∧ Hid (Hb (fun c => c = A) w.heap.size w wr b L lo) ∧ Hid (B48 wr A o)) (fun c11 _ _ => nl - (intOf c11).toNat)
      case atStart => exact ⟨0, [], 0, _, _, by omega, by omega, rfl, rfl, Nat.le_refl _, Best.nil, H6, HB6⟩
      case round =>
        obtain ⟨i, L, lo, o, v12, hi1, hi2, rfl, hs12, HLo, HBe, HR, HBr⟩ := hrel
        have hs12' := hs12.symm
        clear hs12
        subst hs12'
        clear HB6 H6
        by_cases hlt1 : i < nl ∧ i < 60
        · obtain ⟨hn1, hn2⟩ := hlt1
          have hd1 : decide ((i : Int) < (nl : Int)) = true := by simp; omega
          have hd2 : decide ((i : Int) < 60) = true := by simp; omega
          have hlti : (i : Int) < (nl : Int) := by omega
          have hjl : i < l.length := by rw [HNl.out]; exact hn1
          obtain ⟨bL, oL, rfl, hbw, hat⟩ := HRow.out (fun h => by simp [h] at hjl)
          have HAt : Hid (HnAt wr bL (oL + i * 3) l[i]) := (hat i hjl).of_block (HR.out.bel.block bL hbw)
          clear hat
          obtain ⟨y, HY⟩ : ∃ y, Hid (l[i] = y) := ⟨l[i], show l[i] = l[i] from rfl⟩
          rw [HY.out] at HAt
          clear HY
          obtain ⟨x0, x1, x2⟩ := y
          obtain ⟨c0, c1, c2⟩ := HAt.out
          dsimp only at c0 c1 c2
          have hbr : bL < wr.heap.size := Nat.lt_of_lt_of_le hbw HR.out.hN
          go_upto_region 13 with fail
          obtain ⟨w7, HW7⟩ : ∃ x, x = wr.alloc (.cells #[.int .i64 x0, .int .i64 x1, .int .i64 x2] 39) := ⟨_, rfl⟩
          obtain ⟨X, HX⟩ : ∃ x, Hid (x = wr.heap.size) := ⟨_, rfl⟩
          rw [← HW7, ← HX.out]
          have hA1 : A < wr.heap.size := HBr.out.lt
          have H7 : Hid (Hb (fun c => c = A ∨ c = X) w.heap.size w w7 b L lo) := by
            unfold Hid
            rw [HW7, HX.out]
            exact HR.out.more (by go_grown) (fun c hc => by rcases hc with hc | hc; exact .inl hc; exact .inr (by omega)) (fun c hc => by simp; omega)
          have X7 : Hid (BoxH w7 X x0 x1 x2) := by
            unfold Hid
            rw [HW7, HX.out]
            exact boxH_new wr x0 x1 x2 _ rfl
          have B7 : Hid (B48 w7 A o) := by
            unfold Hid
            rw [HW7]
            exact HBr.out.grown (by go_grown)
          clear HW7 HX c0 c1 c2 HAt HR HBr hbr hA1
          obtain ⟨me, HMe⟩ : ∃ x, Hid (addE ⟨x0, x1, x2⟩ = x) := ⟨_, rfl⟩
          obtain ⟨L', HLs⟩ : ∃ x, Hid (addH ⟨x0, x1, x2⟩ L = x) := ⟨_, rfl⟩
          obtain ⟨lo', HLs2⟩ : ∃ x, Hid (lo + addN ⟨x0, x1, x2⟩ L = x) := ⟨_, rfl⟩
          have HLo' : Hid (lo' ≤ i + 1) := by show lo' ≤ i + 1; have h1 := HLs2.out; have h2 := addN_one ⟨x0, x1, x2⟩ L; have h3 := HLo.out; omega
          obtain ⟨S, h1, h2⟩ := H7.out.call
          have HS : Hid _ := h1
          have HC : Hid _ := h2
          clear h1 h2
          obtain ⟨e0, e1, e2, ef⟩ := X7.out
          go_wp2_with fail
          refine (I.add HS.out HBe.out.good (by have := HLo.out; omega) HMe.out HLs.out HLs2.out).mono ?_
          rintro e w8 ⟨rfl, ht⟩
          obtain ⟨h1, h2, h3⟩ := HC.out _ _ _ ht
          have H8 : Hid (Hb (fun c => c = A ∨ c = X) w.heap.size w w8 b L' lo') := h1
          have X8 : Hid (BoxH w8 X x0 x1 x2) := X7.out.of_block (h2 X (.inr rfl))
          have B8 : Hid (B48 w8 A o) := B7.out.of_block (h2 A (.inl rfl))
          clear ht h1 h2 h3 HS HC e0 e1 e2 ef H7 X7 B7
          cases hok : Hn.ok ⟨x0, x1, x2⟩
          · have HE : Hid (me = 1) := HMe.out.symm.trans (by rw [addE, hok]; rfl)
            have HL1 : Hid (L' = L) := HLs.out.symm.trans (by rw [addH, hok]; rfl)
            have HL2 : Hid (lo' = lo) := HLs2.out.symm.trans (by rw [addN, hok]; simp)
            have HX1 : Hid (eV me = .iface 49 (.int .i64 1)) := by show _ = _; rw [HE.out, eV_err (by omega)]
            rw [HX1.out]
            clear hok
            go_wp2_with fail
            go_roundw
            case rel => exact ⟨i + 1, L', lo', o, _, by omega, by omega, by go_num, rfl, HLo', by rw [HL1.out, HL2.out]; exact HBe, H8.out.less (fun c hc => .inl hc), B8⟩
            case measure => simp [intOf]; omega
          · have HE : Hid (me = 0) := HMe.out.symm.trans (by rw [addE, hok]; rfl)
            have HX1 : Hid (eV me = .nilIface) := by show _ = _; rw [HE.out, eV_zero]
            have hr := (Hn.ok_iff _).1 hok
            have HBn : Hid (Best L' lo' (newBest o ⟨x0, x1, x2⟩)) := by
              have := HBe.out.add hok
              rw [HLs.out, HLs2.out] at this
              exact this
            dsimp only at hr
            obtain ⟨n0, rfl⟩ : ∃ k : Nat, x0 = k := ⟨x0.toNat, by omega⟩
            obtain ⟨k0, rfl⟩ : ∃ k : Nat, x1 = k := ⟨x1.toNat, by omega⟩
            have hn0 : n0 ≤ 5 := by omega
            have hk0 : k0 ≤ 7 := by omega
            have hn5 : ¬ (5 : Int) < (n0 : Int) := by omega
            have hk7 : ¬ (7 : Int) < (k0 : Int) := by omega
            have hn6 : (n0 : Int) < 6 := by omega
            have hk8 : (k0 : Int) < 8 := by omega
            have HP : Hid ((Hn.mk n0 k0 x2).at = n0 * 8 + k0) := by show _ = _; simp [Hn.at]
            have hP48 : n0 * 8 + k0 < 48 := by omega
            clear hr hok HMe HLs HLs2 HBe HLo
            rw [HX1.out]
            clear HX1
            obtain ⟨e0, e1, e2, ef⟩ := X8.out
            have d0 := B8.out.cell (n0 * 8 + k0) hP48
            go_upto_region 16 with fail
            obtain ⟨gb, HGb⟩ : ∃ c, Hid (decide (o (n0 * 8 + k0) < x2) = c) := ⟨_, rfl⟩
            go_cut [100] (fun c wd => c = .bool gb ∧ Hid (Below w8.heap.size w8 wd))
            case first =>
              refine wp_ends ?_
              go_region
              all_goals refine endsBy_normal ?_
              all_goals go_wp2_with fail
              all_goals go_meet
              all_goals exact ⟨by rw [← HGb.out], ⟨rfl, rfl, rfl, Nat.le_refl _, fun _ _ => rfl⟩⟩
            case rest =>
            obtain ⟨rfl, hb⟩ := hcut
            obtain ⟨w9, hren⟩ : ∃ x, x = wc := ⟨_, rfl⟩
            subst hren
            have H9 : Hid _ := H8.out.grown hb.out
            have X9 : Hid (BoxH w9 X n0 k0 x2) := X8.out.of_block (hb.out.block X X8.out.lt)
            have B9 : Hid (B48 w9 A o) := B8.out.grown hb.out
            clear hb H8 X8 B8 e0 e1 e2 ef d0
            obtain ⟨e0, e1, e2, ef⟩ := X9.out
            have d0 := B9.out.cell (n0 * 8 + k0) hP48
            have df := B9.out.fz (n0 * 8 + k0)
            cases gb
            · have HN0 : Hid (newBest o ⟨n0, k0, x2⟩ = o) := by
                have h := of_decide_eq_false HGb.out
                show _ = _
                rw [newBest, HP.out, if_neg h]
              go_wp2_with fail
              go_roundw
              case rel => exact ⟨i + 1, L', lo', _, _, by omega, by omega, by go_num, rfl, HLo', HBn, H9.out.less (fun c hc => .inl hc), by rw [HN0.out]; exact B9⟩
              case measure => simp [intOf]; omega
            · have HN0 : Hid (newBest o ⟨n0, k0, x2⟩ = updH o (n0 * 8 + k0) x2) := by
                have h := of_decide_eq_true HGb.out
                show _ = _
                rw [newBest, HP.out, if_pos h]
              have HS9 : Hid (Hb (fun c => c = A) w.heap.size w (w9.drew.setCell ⟨A, n0 * 8 + k0, none⟩ (.int .i64 x2)) b L' lo' ∧ B48 (w9.drew.setCell ⟨A, n0 * 8 + k0, none⟩ (.int .i64 x2)) A (newBest o ⟨n0, k0, x2⟩)) :=
                ⟨Hb.less (P := fun c => c = A ∨ c = X) ((H9.out.grown (w' := w9.drew) ⟨rfl, rfl, rfl, Nat.le_refl _, fun _ _ => rfl⟩).set A _ (.inl rfl) hAN _) (fun c hc => .inl hc), by rw [HN0.out]; exact (B9.out.of_block (w' := w9.drew) rfl).set _ hP48 _⟩
              go_upto_region 17 with fail
              refine wp_region_noPanic ?_
              go_region
              all_goals refine NoPanic.normal ?_
              all_goals go_wp2_with fail
              all_goals go_roundw
              case rel => exact ⟨i + 1, L', lo', _, _, by omega, by omega, by go_num, rfl, HLo', HBn, HS9.out.1, HS9.out.2⟩
              case measure => simp [intOf]; omega
        · have HLo60 : Hid (lo ≤ 60) := by have := HLo.out; show lo ≤ 60; omega
          by_cases hn1 : i < nl
          · have hd1 : decide ((i : Int) < (nl : Int)) = true := by simp; omega
            have hd2 : decide ((i : Int) < 60) = false := by simp; omega
            go_wp2_with fail
            go_meet
            case rel => exact ⟨L, lo, o, HLo60, HBe, HR, HBr⟩
          · have hd1 : decide ((i : Int) < (nl : Int)) = false := by simp; omega
            go_wp2_with fail
            go_meet
            case rel => exact ⟨L, lo, o, HLo60, HBe, HR, HBr⟩
  case rest =>
  obtain ⟨L, lo, o, HLo, HBe, HR, HBr⟩ := hcut
  obtain ⟨w7, hren⟩ : ∃ x, x = wc := ⟨_, rfl⟩
  subst hren
  clear HB6 H6
  obtain ⟨nA, HnA⟩ : ∃ n, Hid (L.length = n) := ⟨_, rfl⟩
  have hnA : nA ≤ 10 := by rw [← HnA.out]; exact HBe.out.good.ten
  obtain ⟨S, h1, _⟩ := HR.out.call
  have HS : Hid _ := h1
  clear h1
  go_wp2_with fail
  refine (I.all HS.out HBe.out.good).mono ?_
  rintro e w8 ⟨u, rfl, hu, hub, hb⟩
  have H8 : Hid (Hb (fun c => c = A ∨ u.ownBlock = some c) w.heap.size w w8 b L lo) := HR.out.more hb (fun c hc => by rcases hc with hc | hc; exact .inl hc; exact .inr (hub c hc).1) (fun c hc => by have h1 := HBr.out.lt; have h2 := hb.size; rcases hc with hc | hc; omega; exact (hub c hc).2)
  have B8 : Hid (B48 w8 A o) := HBr.out.grown hb
  obtain ⟨p, cap, rfl, _⟩ := hu.slice
  rw [HnA.out] at hu H8 ⊢
  have HU8 : Hid (HnsIs w8 (.slice p nA cap) L) := hu
  clear hu hub hb HS HR HBr
  obtain ⟨S, h1, _⟩ := H8.out.call
  have HS : Hid _ := h1
  clear h1
  go_wp2_with fail
  refine (I.lost HS.out).mono ?_
  rintro e w9 ⟨rfl, hb⟩
  have H9 : Hid _ := H8.out.grown hb
  have B9 : Hid (B48 w9 A o) := B8.out.grown hb
  have HU9 : Hid (HnsIs w9 (.slice p nA cap) L) := HU8.out.below hb
  clear hb HS H8 B8 HU8
  go_upto_block 2 with fail
  go_cut [15, 16, 17] (fun c15 _ _ wd => wd = w9 ∧ c15 = .int .i64 ((manyH o 48 : Nat) : Int))
  case first =>
    try clear_value *
    as_aux_lemma =>
      let _BP : Exit → Act → World → Prop := bodyPost Try.prog Try.f5 fun _ _ => True
      go_wp2_with fail
      go_loopw [15, 16, 17] (fun c15 c16 c17 wr => wr = w9 ∧ ∃ (n : Nat) (v17 : Value), n ≤ 6 ∧ c16 = .int .i64 n ∧ c17 = v17 ∧ c15 = .int .i64 ((manyH o (n * 8) : Nat) : Int)) (fun _ c16 _ _ => 6 - (intOf c16).toNat)
      case atStart => exact ⟨rfl, 0, _, by omega, rfl, rfl, rfl⟩
      case round =>
        obtain ⟨hwr, n, v17, hn, rfl, hs17, rfl⟩ := hrel
        subst hwr
        have hs17' := hs17.symm
        clear hs17
        subst hs17'
        by_cases hn6 : n < 6
        · have hn6i : (n : Int) < 6 := by omega
          go_wp2_with fail
          go_loopw [15, 17] (fun c15 c17 wr2 => wr2 = wr ∧ ∃ k : Nat, k ≤ 8 ∧ c17 = .int .i64 k ∧ c15 = .int .i64 ((manyH o (n * 8 + k) : Nat) : Int)) (fun _ c17 _ => 8 - (intOf c17).toNat)
          case atStart => exact ⟨rfl, 0, by omega, rfl, rfl⟩
          case round =>
            obtain ⟨hwr, k, hk, rfl, rfl⟩ := hrel
            subst hwr
            by_cases hk8 : k < 8
            · have hk8i : (k : Int) < 8 := by omega
              have d0 := B9.out.cell (n * 8 + k) (by omega)
              have HM : Hid (manyH o (n * 8 + (k + 1)) = manyH o (n * 8 + k) + (if 0 < o (n * 8 + k) then 1 else 0)) := rfl
              have hm48 : ∀ m, manyH o m ≤ m := fun m => by
                induction m with
                | zero => exact Nat.le_refl _
                | succ m ih => rw [manyH]; split <;> omega
              have hmb : manyH o (n * 8 + k) ≤ 48 := Nat.le_trans (hm48 _) (by omega)
              clear hm48
              generalize manyH o (n * 8 + k) = M at HM hmb ⊢
              by_cases hp : 0 < o (n * 8 + k)
              · have HM2 : Hid (manyH o (n * 8 + (k + 1)) = M + 1) := HM.out.trans (by rw [if_pos hp])
                go_wp2_with fail
                go_roundw
                case rel => exact ⟨by trivial, k + 1, by omega, by go_num, by rw [HM2.out]; go_num⟩
                case measure => simp [intOf]; omega
              · have HM2 : Hid (manyH o (n * 8 + (k + 1)) = M) := HM.out.trans (by rw [if_neg hp]; rfl)
                go_wp2_with fail
                go_roundw
                case rel => exact ⟨by trivial, k + 1, by omega, by go_num, by rw [HM2.out]⟩
                case measure => simp [intOf]; omega
            · obtain rfl : k = 8 := by omega
              go_wp2_with fail
              go_roundw
              case rel => exact ⟨by trivial, n + 1, _, by omega, by go_num, rfl, by rw [show n * 8 + 8 = (n + 1) * 8 by omega]⟩
              case measure => simp [intOf]; omega
        · obtain rfl : n = 6 := by omega
          go_wp2_with fail
          go_meet
          case rel => exact ⟨rfl, rfl⟩
  case rest =>
  obtain ⟨hwc, rfl⟩ := hcut
  have hwc' := hwc.symm
  subst hwc'
  have HM0 : Hid (lo = 0 → manyH o 48 = nA) := fun h => (HBe.out.cnt h).trans HnA.out
  have HMb : Hid (manyH o 48 ≤ 48) := by
    have hm48 : ∀ m, manyH o m ≤ m := fun m => by
      induction m with
      | zero => exact Nat.le_refl _
      | succ m ih => rw [manyH]; split <;> omega
    exact hm48 48
  generalize manyH o 48 = M at HM0 HMb ⊢
  have h10i : ¬ (10 : Int) < (nA : Int) := by omega
  obtain ⟨zb, HZb⟩ : ∃ c, Hid (((lo : Int) == 0) = c) := ⟨_, rfl⟩
  go_upto_region 29 with fail
  go_cut [141] (fun c wd => wd = w9 ∧ c = .bool false)
  case first =>
    try clear_value *
    as_aux_lemma =>
      let _BP : Exit → Act → World → Prop := bodyPost Try.prog Try.f5 fun _ _ => True
      have hzb := HZb.out
      cases zb
      · go_wp2_with fail
        go_meet
        case rel => exact ⟨rfl, rfl⟩
      · have h0 : Hid (lo = 0) := by have := HZb.out; simp at this; exact this
        have hne : ((nA : Int) != (M : Int)) = false := by have := HM0.out h0.out; simp; omega
        go_wp2_with fail
        go_meet
        case rel => exact ⟨rfl, rfl⟩
  case rest =>
  obtain ⟨hwc, rfl⟩ := hcut
  have hwc' := hwc.symm
  subst hwc'
  clear HM0 HMb
  go_upto_block 6 with fail
  go_cut [18, 19, 20] (fun _ _ _ wd => Hid (Below w9.heap.size w9 wd))
  case first =>
    try clear_value *
    as_aux_lemma =>
      let _BP : Exit → Act → World → Prop := bodyPost Try.prog Try.f5 fun _ _ => True
      go_wp2_with fail
      go_loopw [18, 19, 20] (fun c18 c19 c20 wr => ∃ (i : Nat) (v19 v20 : Value), i ≤ nA ∧ c18 = .int .i64 i ∧ c19 = v19 ∧ c20 = v20 ∧ Hid (Below w9.heap.size w9 wr)) (fun c18 _ _ _ => nA - (intOf c18).toNat)
      case atStart => exact ⟨0, _, _, by omega, rfl, rfl, rfl, Below.refl _ _⟩
      case round =>
        obtain ⟨i, v19, v20, hi, rfl, hs19, hs20, HB⟩ := hrel
        have hs19' := hs19.symm
        clear hs19
        subst hs19'
        have hs20' := hs20.symm
        clear hs20
        subst hs20'
        by_cases hiA : i < nA
        · have hiAi : (i : Int) < (nA : Int) := by omega
          have hiL : i < L.length := by rw [HnA.out]; exact hiA
          obtain ⟨gA, oA, rfl, hgw, hat⟩ := HU9.out.at i hiL
          have HAt : Hid (HnAt wr gA (oA + i * 3) L[i]) := hat.of_block (HB.out.block gA hgw)
          clear hat
          obtain ⟨y, HY⟩ : ∃ y, Hid (L[i] = y) := ⟨L[i], show L[i] = L[i] from rfl⟩
          rw [HY.out] at HAt
          have hyok : Hn.ok y = true := HBe.out.good.ok y (by rw [← HY.out]; exact List.getElem_mem hiL)
          have HYo : Hid (lo = 0 → o y.at = y.v) := fun h => HBe.out.is h y (by rw [← HY.out]; exact List.getElem_mem hiL)
          have hr := (Hn.ok_iff _).1 hyok
          clear hyok
          obtain ⟨y0, y1, y2⟩ := y
          dsimp only at hr
          obtain ⟨n0, rfl⟩ : ∃ k : Nat, y0 = k := ⟨y0.toNat, by omega⟩
          obtain ⟨k0, rfl⟩ : ∃ k : Nat, y1 = k := ⟨y1.toNat, by omega⟩
          have hn5 : ¬ (5 : Int) < (n0 : Int) := by omega
          have hk7 : ¬ (7 : Int) < (k0 : Int) := by omega
          have hn6 : (n0 : Int) < 6 := by omega
          have hk8 : (k0 : Int) < 8 := by omega
          have hP48 : n0 * 8 + k0 < 48 := by omega
          have HYo2 : Hid (lo = 0 → o (n0 * 8 + k0) = y2) := fun h => by have := HYo.out h; simpa [Hn.at] using this
          have HYn : Hid (zb = true → (y2 != o (n0 * 8 + k0)) = false) := fun hz => by
            have h1 := HZb.out
            rw [hz] at h1
            have h2 : lo = 0 := by simpa using h1
            have h3 := HYo2.out h2
            simp
            omega
          clear HYo HYo2 hr
          obtain ⟨c0, c1, c2⟩ := HAt.out
          dsimp only at c0 c1 c2
          have hgr : gA < wr.heap.size := Nat.lt_of_lt_of_le hgw HB.out.size
          go_upto_region 35 with fail
          obtain ⟨wb, HWb⟩ : ∃ x, x = wr.alloc (.cells #[.int .i64 n0, .int .i64 k0, .int .i64 y2] 39) := ⟨_, rfl⟩
          obtain ⟨X, HX⟩ : ∃ x, Hid (x = wr.heap.size) := ⟨_, rfl⟩
          rw [← HWb, ← HX.out]
          have Bb : Hid (Below w9.heap.size w9 wb) := by unfold Hid; rw [HWb]; exact HB.out.alloc HB.out.size _
          have Xb : Hid (BoxH wb X n0 k0 y2) := by unfold Hid; rw [HWb, HX.out]; exact boxH_new wr _ _ _ _ rfl
          have B48b : Hid (B48 wb A o) := B9.out.grown Bb.out
          clear HWb HX c0 c1 c2 HAt hgr HB
          obtain ⟨e0, e1, e2, ef⟩ := Xb.out
          have d0 := B48b.out.cell (n0 * 8 + k0) hP48
          have hnB : decide ((n0 : Int) < 0) = false := by simp
          have hnB5 : decide ((5 : Int) < (n0 : Int)) = false := by simp; omega
          have hkB : decide ((k0 : Int) < 0) = false := by simp
          have hkB7 : decide ((7 : Int) < (k0 : Int)) = false := by simp; omega
          refine reg35 e0 e1 e2 d0 hnB hnB5 hkB hkB7 hn6 hk8 HZb.out HYn.out ?_
          intros
          rename_i wd hb
          have Bd : Hid (Below w9.heap.size w9 wd) := Bb.out.trans (hb.mono Bb.out.size)
          have Xd : Hid (BoxH wd X n0 k0 y2) := Xb.out.of_block (hb.block X Xb.out.lt)
          clear hb Bb Xb B48b e0 e1 e2 ef d0
          go_wp2_with fail
          go_loopw [20] (fun c20 wr => ∃ k : Nat, k ≤ i ∧ c20 = .int .i64 k ∧ Hid (Below w9.heap.size w9 wr) ∧ Hid (BoxH wr X n0 k0 y2)) (fun c20 _ => i - (intOf c20).toNat)
          case atStart => exact ⟨0, by omega, rfl, Bd, Xd⟩
          case round =>
            obtain ⟨k, hk, rfl, HB2, HX2⟩ := hrel
            by_cases hki : k < i
            · have hkii : (k : Int) < (i : Int) := by omega
              have hkA : (k : Int) < (nA : Int) := by omega
              have hkL : k < L.length := by omega
              obtain ⟨g2, o2, eg, hg2, hat2⟩ := HU9.out.at k hkL
              injection eg with eg
              injection eg with eg1 eg2 _
              subst eg1 eg2
              have HAt2 : Hid (HnAt wr gA (oA + k * 3) L[k]) := hat2.of_block (HB2.out.block gA hg2)
              clear hat2
              have hdf : ¬ (L[k].n = L[i].n ∧ L[k].k = L[i].k) := List.pairwise_iff_getElem.1 HBe.out.good.one k i hkL hiL hki
              obtain ⟨z, HZ⟩ : ∃ z, Hid (L[k] = z) := ⟨L[k], show L[k] = L[k] from rfl⟩
              rw [HZ.out] at HAt2 hdf
              rw [HY.out] at hdf
              obtain ⟨z0, z1, z2⟩ := z
              dsimp only at hdf
              have HDf : Hid (¬ (z0 = (n0 : Int) ∧ z1 = (k0 : Int))) := hdf
              clear hdf
              obtain ⟨c0, c1, c2⟩ := HAt2.out
              dsimp only at c0 c1 c2
              obtain ⟨e0, e1, e2, ef⟩ := HX2.out
              go_upto_region 40 with fail
              go_cut [208] (fun c wd => c = .bool false ∧ Hid (Below wr.heap.size wr wd))
              case first =>
                cases hz0 : (z0 == (n0 : Int))
                · refine wp_ends ?_
                  go_region
                  all_goals refine endsBy_normal ?_
                  all_goals go_wp2_with fail
                  all_goals go_meet
                  all_goals exact ⟨rfl, ⟨rfl, rfl, rfl, Nat.le_refl _, fun _ _ => rfl⟩⟩
                · have hz1 : (z1 == (k0 : Int)) = false := by
                    have h1 : z0 = (n0 : Int) := by simpa using hz0
                    have h2 := HDf.out
                    simp
                    intro h3
                    exact h2 ⟨h1, h3⟩
                  refine wp_ends ?_
                  go_region
                  all_goals refine endsBy_normal ?_
                  all_goals go_wp2_with fail
                  all_goals go_meet
                  all_goals exact ⟨rfl, ⟨rfl, rfl, rfl, Nat.le_refl _, fun _ _ => rfl⟩⟩
              case rest =>
              obtain ⟨rfl, hb⟩ := hcut
              have Be : Hid (Below w9.heap.size w9 wc) := HB2.out.trans (hb.out.mono HB2.out.size)
              have Xe : Hid (BoxH wc X n0 k0 y2) := HX2.out.of_block (hb.out.block X HX2.out.lt)
              go_wp2_with fail
              go_roundw
              case rel => exact ⟨k + 1, by omega, by go_num, Be, Xe⟩
              case measure => simp [intOf]; omega
            · obtain rfl : k = i := by omega
              go_wp2_with fail
              go_roundw
              case rel => exact ⟨k + 1, _, _, by omega, by go_num, rfl, rfl, HB2⟩
              case measure => simp [intOf]; omega
        · obtain rfl : i = nA := by omega
          go_wp2_with fail
          go_meet
          case rel => exact HB
  case rest =>
  have B10 : Hid (Below w9.heap.size w9 wc) := hcut
  obtain ⟨w10, hren⟩ : ∃ x, x = wc := ⟨_, rfl⟩
  subst hren
  have H10 : Hid _ := H9.out.grown B10.out
  have HU10 : Hid (HnsIs w10 (.slice p nA cap) L) := HU9.out.below B10.out
  clear H9 HU9 B9 B10
  obtain ⟨me, HMe⟩ : ∃ x, Hid ((if (decide (0 ≤ node) && decide (node ≤ 5)) = true then (0 : Int) else 1) = x) := ⟨_, rfl⟩
  obtain ⟨L2, HL2⟩ : ∃ x, Hid ((if me = 0 then leaveH node L else L) = x) := ⟨_, rfl⟩
  obtain ⟨t, HT⟩ : ∃ x, Hid ((if me = 0 then takeH node L else []) = x) := ⟨_, rfl⟩
  obtain ⟨S, h1, h2⟩ := H10.out.callU
  have HS : Hid _ := h1
  have HC : Hid _ := h2
  clear h1 h2
  go_wp2_with fail
  refine (I.take HS.out HBe.out.good HMe.out HT.out HL2.out).mono ?_
  rintro e w11 ⟨u2, rfl, hu, hub, ⟨S', hs1, hs2⟩, ht⟩
  obtain ⟨h1, h2, h3⟩ := HC.out w11 _ _ S' (fun c => u2.ownBlock = some c) ht hs1 (fun c hc => ⟨(hs2 c hc).1, (hs2 c hc).2⟩) hub
  have H11 : Hid _ := h1
  have HU11 : Hid (HnsIs w11 (.slice p nA cap) L) := HU10.out.blocks h3 (fun c hc _ => h2 c (.inr hc))
  have HT11 : Hid (HnsIs w11 u2 t) := hu
  clear h1 h2 h3 hu hub hs1 hs2 ht HS HC H10 HU10
  obtain ⟨inb, HIn⟩ : ∃ c, Hid ((decide (0 ≤ node) && decide (node ≤ 5)) = c) := ⟨_, rfl⟩
  cases inb
  · have HX1 : Hid (eV me = .iface 49 (.int .i64 1)) := by
      have h1 := HMe.out
      rw [HIn.out] at h1
      have h2 : me = 1 := h1.symm
      show _ = _
      rw [h2, eV_err (by omega)]
    rw [HX1.out]
    cases h0 : decide (node < 0)
    · have h5 : decide ((5 : Int) < node) = true := by
        have h1 := HIn.out
        simp at h0 h1 ⊢
        omega
      go_wp2_with fail
      go_ret
      exact ⟨rfl, H11.out.bel⟩
    · go_wp2_with fail
      go_ret
      exact ⟨rfl, H11.out.bel⟩
  · have HE : Hid (me = 0) := by have h1 := HMe.out; rw [HIn.out] at h1; exact h1.symm
    have HL3 : Hid (leaveH node L = L2) := by have := HL2.out; rw [HE.out, if_pos rfl] at this; exact this
    have HT3 : Hid (takeH node L = t) := by have := HT.out; rw [HE.out, if_pos rfl] at this; exact this
    have HX1 : Hid (eV me = .nilIface) := by show _ = _; rw [HE.out, eV_zero]
    rw [HX1.out]
    have HG2 : Hid (GoodH L2) := by rw [← HL3.out]; exact HBe.out.good.leave _
    obtain ⟨S, h1, _⟩ := H11.out.call
    have HS : Hid _ := h1
    clear h1 HMe HL2 HT HIn HX1
    go_wp2_with fail
    refine (I.all HS.out HG2.out).mono ?_
    rintro e w12 ⟨u3, rfl, hu, _, hb⟩
    have B12 : Hid (Below w.heap.size w w12) := H11.out.bel.trans (hb.mono H11.out.hN)
    have HU12 : Hid (HnsIs w12 (.slice p nA cap) L) := HU11.out.below hb
    have HT12 : Hid (HnsIs w12 u2 t) := HT11.out.below hb
    have HF12 : Hid (HnsIs w12 u3 L2) := hu
    clear hu hb HS H11 HU11 HT11
    obtain ⟨p2, cap2, rfl, _⟩ := HT12.out.slice
    obtain ⟨p3, cap3, rfl, _⟩ := HF12.out.slice
    obtain ⟨nT, HnT⟩ : ∃ n, Hid (t.length = n) := ⟨_, rfl⟩
    obtain ⟨nF, HnF⟩ : ∃ n, Hid (L2.length = n) := ⟨_, rfl⟩
    have hnT : nT ≤ 10 := by rw [← HnT.out, ← HT3.out]; exact Nat.le_trans (List.length_filter_le _ _) HBe.out.good.ten
    have hnF : nF ≤ 10 := by rw [← HnF.out]; exact HG2.out.ten
    rw [HnT.out] at HT12 ⊢
    rw [HnF.out] at HF12 ⊢
    have hgd := eqGuard_hn
    go_wp2_with fail
    go_loopw [24, 25, 26] (fun c24 c25 c26 wr => ∃ (i a f : Nat), i ≤ nA ∧ c24 = .int .i64 a ∧ c25 = .int .i64 f ∧ c26 = .int .i64 i ∧ Hid (a = (takeH node (L.take i)).length) ∧ Hid (f = (leaveH node (L.take i)).length) ∧ Hid (Below w12.heap.size w12 wr)) (fun _ _ c26 _ => nA - (intOf c26).toNat)
    case atStart => exact ⟨0, 0, 0, by omega, rfl, rfl, rfl, rfl, rfl, Below.refl _ _⟩
    case round =>
      obtain ⟨i, a, f, hi, rfl, rfl, rfl, Ha, Hf, HB⟩ := hrel
      by_cases hiA : i < nA
      · have hiAi : (i : Int) < (nA : Int) := by omega
        have hiL : i < L.length := by rw [HnA.out]; exact hiA
        obtain ⟨gA, oA, rfl, hgw, hat⟩ := HU12.out.at i hiL
        have HAt : Hid (HnAt wr gA (oA + i * 3) L[i]) := hat.of_block (HB.out.block gA hgw)
        clear hat
        have hst := take_step node L i hiL
        obtain ⟨y, HY⟩ : ∃ y, Hid (L[i] = y) := ⟨L[i], show L[i] = L[i] from rfl⟩
        rw [HY.out] at HAt hst
        obtain ⟨y0, y1, y2⟩ := y
        have HSt : Hid (takeH node (L.take (i + 1)) = takeH node (L.take i) ++ (if (y0 == node) = true then [⟨y0, y1, y2⟩] else []) ∧ leaveH node (L.take (i + 1)) = leaveH node (L.take i) ++ (if (y0 == node) = true then [] else [⟨y0, y1, y2⟩])) := hst
        clear hst
        obtain ⟨c0, c1, c2⟩ := HAt.out
        dsimp only at c0 c1 c2
        have hq := neq_hn y0 y1 y2 y0 y1 y2 true (by simp [Hn.same])
        cases hb : (y0 == node)
        · have hbf := leave_before (node := node) hiL (by rw [HY.out]; exact hb)
          rw [HL3.out, ← Hf.out, HY.out] at hbf
          obtain ⟨hb1, hb2⟩ := hbf
          obtain ⟨gT, oT, rfl, hgT, hatT⟩ := HF12.out.at f hb1
          have e1 : L2[f] = ⟨y0, y1, y2⟩ := by rw [List.getElem?_eq_getElem hb1] at hb2; exact Option.some.inj hb2
          rw [e1] at hatT
          have HAf : Hid (HnAt wr gT (oT + f * 3) ⟨y0, y1, y2⟩) := hatT.of_block (HB.out.block gT hgT)
          obtain ⟨d0, d1, d2⟩ := HAf.out
          dsimp only at d0 d1 d2
          rw [HnF.out] at hb1
          have hfi : (f : Int) < (nF : Int) := by omega
          have hge : decide ((nF : Int) ≤ (f : Int)) = false := by simp; omega
          have Ha2 : Hid (a = (takeH node (L.take (i + 1))).length) := by show _ = _; rw [HSt.out.1, hb, Ha.out]; simp
          have Hf2 : Hid (f + 1 = (leaveH node (L.take (i + 1))).length) := by show _ = _; rw [HSt.out.2, hb, Hf.out]; simp
          clear e1 hb2 hatT
          go_upto_region 55 with fail
          go_cut [269] (fun c wd => c = .bool false ∧ Hid (Below wr.heap.size wr wd))
          case first =>
            try clear_value *
            as_aux_lemma =>
              let _BP : Exit → Act → World → Prop := bodyPost Try.prog Try.f5 fun _ _ => True
              go_quiet (fail)
              go_wp2_with fail
              go_meet
              case rel => exact ⟨by have h : ¬ nF ≤ f := (by omega); simp [h], ⟨rfl, rfl, rfl, Nat.le_refl _, fun _ _ => rfl⟩⟩
          case rest =>
          obtain ⟨rfl, hbb⟩ := hcut
          have Be : Hid (Below w12.heap.size w12 wc) := HB.out.trans (hbb.out.mono HB.out.size)
          go_wp2_with fail
          go_roundw
          case rel => exact ⟨i + 1, a, f + 1, by omega, rfl, by go_num, by go_num, Ha2, Hf2, Be⟩
          case measure => simp [intOf]; omega
        · have hbf := take_before (node := node) hiL (by rw [HY.out]; exact hb)
          rw [HT3.out, ← Ha.out, HY.out] at hbf
          obtain ⟨hb1, hb2⟩ := hbf
          obtain ⟨gT, oT, rfl, hgT, hatT⟩ := HT12.out.at a hb1
          have e1 : t[a] = ⟨y0, y1, y2⟩ := by rw [List.getElem?_eq_getElem hb1] at hb2; exact Option.some.inj hb2
          rw [e1] at hatT
          have HAf : Hid (HnAt wr gT (oT + a * 3) ⟨y0, y1, y2⟩) := hatT.of_block (HB.out.block gT hgT)
          obtain ⟨d0, d1, d2⟩ := HAf.out
          dsimp only at d0 d1 d2
          rw [HnT.out] at hb1
          have hfi : (a : Int) < (nT : Int) := by omega
          have hge : decide ((nT : Int) ≤ (a : Int)) = false := by simp; omega
          have Ha2 : Hid (a + 1 = (takeH node (L.take (i + 1))).length) := by show _ = _; rw [HSt.out.1, hb, Ha.out]; simp
          have Hf2 : Hid (f = (leaveH node (L.take (i + 1))).length) := by show _ = _; rw [HSt.out.2, hb, Hf.out]; simp
          clear e1 hb2 hatT
          go_upto_region 52 with fail
          go_cut [252] (fun c wd => c = .bool false ∧ Hid (Below wr.heap.size wr wd))
          case first =>
            try clear_value *
            as_aux_lemma =>
              let _BP : Exit → Act → World → Prop := bodyPost Try.prog Try.f5 fun _ _ => True
              go_quiet (fail)
              go_wp2_with fail
              go_meet
              case rel => exact ⟨by have h : ¬ nT ≤ a := (by omega); simp [h], ⟨rfl, rfl, rfl, Nat.le_refl _, fun _ _ => rfl⟩⟩
          case rest =>
          obtain ⟨rfl, hbb⟩ := hcut
          have Be : Hid (Below w12.heap.size w12 wc) := HB.out.trans (hbb.out.mono HB.out.size)
          go_wp2_with fail
          go_roundw
          case rel => exact ⟨i + 1, a + 1, f, by omega, by go_num, rfl, by go_num, Ha2, Hf2, Be⟩
          case measure => simp [intOf]; omega
      · obtain rfl : i = nA := by omega
        have hts : L.take i = L := List.take_of_length_le (by rw [HnA.out]; exact Nat.le_refl _)
        have haT : a = nT := by have := Ha.out; rw [hts, HT3.out, HnT.out] at this; exact this
        have hfF : f = nF := by have := Hf.out; rw [hts, HL3.out, HnF.out] at this; exact this
        subst haT hfF
        go_wp2_with fail
        go_ret
        exact ⟨rfl, B12.out.trans (HB.out.mono B12.out.size)⟩
end Go.Proofs.Ytkhdeaegbkenfah
