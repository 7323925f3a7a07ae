/-
  RingFew: who comes takes only for himself: all that is asked being right.
-/
import Derived.Test.YtlpfdmmilbdcbaeDoorRFa
namespace Go.Proofs.YtlpfdmmilbdcbaeDoor
set_option linter.unusedVariables false
set_option linter.unusedSimpArgs false
open Go.RowKit

set_option maxRecDepth 100000 in
set_option maxHeartbeats 16000000 in
theorem ringFew_c (vn : Value) (nodes : List Int) (k q : Nat) (more many : Int) (w : World) (hn : IntsCap w vn nodes) (hT : Lib.TabIs Tryd.prog w powName .u64 Lib.pow10Tab) (hg : badNodes nodes = 0) (h1 : 1 ≤ k) (h8 : k ≤ 8) (hq : q ≤ 7) :
    Calls Tryd.prog 5 #[vn, .int .i64 (k : Nat), .int .i64 more, .int .i64 (q : Nat), .int .i64 many] w fun e w' => e = .returned (.bool true) ∧ Below w.heap.size w w' := by
  have HTb : Hid (Lib.TabBelow Tryd.prog w.heap.size w powName .u64 Lib.pow10Tab) := Lib.tabBelow_of_tabIs hT
  have HVn : Hid (IntsCap w vn nodes) := hn
  have HB0 : Hid (Below w.heap.size w (w.alloc (.cells #[.int .i64 3] 3))) := (Below.refl _ _).alloc (Nat.le_refl _) _
  have HO : Hid (OwnI w.heap.size (w.alloc (.cells #[.int .i64 3] 3)) (.slice (some ⟨w.heap.size, 0, none⟩) 1 1) [3]) := OwnI.one (Nat.le_refl _) (alloc_at _ _ _ rfl)
  have HF : Hid _ := points_ok (.slice (some ⟨w.heap.size, 0, none⟩) 1 1) [3] 1 (w.alloc (.cells #[.int .i64 3] 3)) HO.out.ints HO.out.cap (by decide) (by omega) (by omega) (HTb.out _ HB0.out)
  obtain ⟨y, hy1, hy3⟩ := three_one
  rw [hy1] at HF
  obtain ⟨g1, g2, g3, g4⟩ := badNodes_good hg
  have HR : Hid (rightP (ptsL nodes k) = true) := pts_right g1 g2 h1 h8 g4 g3
  obtain ⟨a, ha⟩ := own_some HR.out (keyT q)
  have HA : Hid (ownP (keyT q) (ptsL nodes k) = some a) := ha
  have HIn : Hid (nodes.contains a = true) := own_in ha
  have HGd : Hid (badNodes nodes = 0) := hg
  have HLen : Hid (nodes ≠ [] ∧ nodes.length ≤ 6) := ⟨fun h => g3 (by rw [h]; rfl), g4⟩
  have HKq : Hid (inR (q : Int) 0 7 = true) := by
    show inR (q : Int) 0 7 = true
    simp [inR]
    omega
  obtain ⟨E4, HE4⟩ : ∃ x, Hid (badPts (nodes ++ [more]) (k : Int) = x) := ⟨_, rfl⟩
  obtain ⟨A4, HA4⟩ : ∃ x, Hid (ansP (nodes ++ [more]) (k : Int) = x) := ⟨_, rfl⟩
  clear hy1 hn hT hg g1 g2 g3 g4 ha
  go_enter Tryd.func5, Tryd.ntmps5
  go_wp2_with fail
  refine Calls.mono HF.out ?_
  rintro e w1 ⟨u1, rfl, hp, hb⟩
  have B1 : Hid (Below w.heap.size w w1) := HB0.out.trans (hb.mono HB0.out.size)
  obtain ⟨_, p1, c1, hu, hrow⟩ := hp
  obtain ⟨b1, o1, rfl, hb1, hat⟩ := hrow (by simp)
  have k1 := (hat 0 (by simp)).c1
  rw [List.getElem_cons_zero, Nat.zero_mul, Nat.add_zero, hy3] at k1
  rw [List.length_singleton] at hu
  clear hb hrow hat
  subst hu
  go_wp2_with fail
  refine (points_ok vn nodes k _ (HVn.out.1.below B1.out) HVn.out.2 HGd.out h1 h8 (HTb.out _ B1.out)).mono ?_
  rintro e w2 ⟨u2, rfl, hp, hb⟩
  have P2 : Hid (PtsIs w2 u2 (ptsL nodes k)) := hp
  have B2 : Hid (Below w.heap.size w w2) := B1.out.trans (hb.mono B1.out.size)
  clear hb hp k1 B1 HF HO HB0
  go_wp2_with fail
  refine (owner_ok u2 (ptsL nodes k) q _ a P2.out HR.out hq HA.out (HTb.out _ B2.out)).mono ?_
  rintro e w3 ⟨rfl, hb⟩
  have P3 : Hid (PtsIs w3 u2 (ptsL nodes k)) := P2.out.below hb
  have B3 : Hid (Below w.heap.size w w3) := B2.out.trans (hb.mono B2.out.size)
  clear hb B2 P2
  go_wp2_with fail
  refine (inW_c vn nodes a true _ (HVn.out.1.below B3.out) HIn.out).mono ?_
  rintro e w4 ⟨rfl, hw⟩
  have hw' := hw.symm
  clear hw
  subst hw'
  have HVn3 : Hid (IntsIs w3 vn nodes) := HVn.out.1.below B3.out
  have HL0 : Hid (([] : List Int).length + nodes.length ≤ 100) := show _ ≤ _ from (by have := HLen.out.2; simp; omega)
  go_wp2_with (at_builtin; refine wp_appIs _ rfl _ _ rfl w3.heap.size _ [] rfl (OwnI.nil _ _) _ nodes rfl HVn3.out HLen.out.1 HL0.out (Nat.le_refl _) ?_)
  intro va wa hown hgrow
  have O5 : Hid (OwnI w3.heap.size wa va nodes) := hown
  have B35 : Hid (Below w3.heap.size w3 wa) := below_grownF (Below.refl _ _) (Nat.le_refl _) hgrow.out (fun c hc => by cases hc)
  have P5 : Hid (PtsIs wa u2 (ptsL nodes k)) := P3.out.below B35.out
  have B5 : Hid (Below w.heap.size w wa) := B3.out.trans (B35.out.mono B3.out.size)
  have hs5 := B35.out.size
  clear hown hgrow
  have HOa : Hid (OwnI w3.heap.size (wa.alloc (.cells #[.int .i64 more] 3)) va nodes) := O5.out.below ((Below.refl _ _).alloc (Nat.le_refl _) _)
  have HVa : Hid ((wa.alloc (.cells #[.int .i64 more] 3)).heap[wa.heap.size]? = some (.cells #[.int .i64 more] 3 (0, 0))) := alloc_at _ _ _ rfl
  have HSa : Hid (w3.heap.size ≤ (wa.alloc (.cells #[.int .i64 more] 3)).heap.size) := show _ ≤ _ from (by simp; omega)
  have HLa : Hid (nodes.length ≤ 100) := show nodes.length ≤ 100 from (by have := HLen.out.2; omega)
  have HBa : Hid (Below w3.heap.size w3 (wa.alloc (.cells #[.int .i64 more] 3))) := B35.out.alloc hs5 _
  go_wp2_with (at_builtin; refine wp_appI _ rfl _ _ rfl w3.heap.size _ nodes more rfl HOa.out _ rfl HVa.out HLa.out HSa.out ?_)
  intro vb wb hown hgrow
  have O6 : Hid (OwnI w3.heap.size wb vb (nodes ++ [more])) := hown
  have B36 : Hid (Below w3.heap.size w3 wb) := below_grownF HBa.out (Nat.le_refl _) hgrow.out (fun c hc => O5.out.from c hc)
  have P6 : Hid (PtsIs wb u2 (ptsL nodes k)) := P3.out.below B36.out
  have B6 : Hid (Below w.heap.size w wb) := B3.out.trans (B36.out.mono B3.out.size)
  clear hown hgrow HOa HVa HSa HLa HBa O5 P5 B5 B35 hs5 P3 B3 B36 HVn3 HL0
  go_wp2_with fail
  refine (points_any HE4.out HA4.out vb _ ⟨O6.out.ints, O6.out.cap⟩ (HTb.out _ B6.out)).mono ?_
  rintro e w7 ⟨u7, rfl, hp, hb⟩
  have P7 : Hid (PtsIs w7 u7 A4) := hp
  have P7l : Hid (PtsIs w7 u2 (ptsL nodes k)) := P6.out.below hb
  have B7 : Hid (Below w.heap.size w w7) := B6.out.trans (hb.mono B6.out.size)
  clear hp hb O6 P6 B6
  go_upto_region 17 with fail
  go_cut [14, 79] (fun v14 c wc => ∃ (V14 : Value) (cb : Bool), v14 = V14 ∧ c = .bool cb ∧ Hid (cb = true → E4 = 0) ∧ Hid (PtsIs wc u7 A4) ∧ Hid (PtsIs wc u2 (ptsL nodes k)) ∧ Hid (Below w.heap.size w wc))
  case first =>
    by_cases h0 : E4 = 0
    · have HZ0 : Hid (E4 = 0) := h0
      rw [h0, eV_zero]
      clear h0
      go_wp2_with fail
      go_meet
      case rel => exact ⟨_, true, rfl, rfl, fun _ => HZ0.out, P7, P7l, B7⟩
    · rw [eV_err h0]
      go_wp2_with fail
      go_meet
      case rel => exact ⟨_, false, rfl, rfl, fun h => absurd h (by simp), P7, P7l, B7⟩
  case rest =>
  obtain ⟨w7b, h⟩ : ∃ x, x = wc := ⟨_, rfl⟩
  subst h
  obtain ⟨V14a, cb, hV14, rfl, HCb, P7b, P7c, B7b⟩ := hcut
  have hV14' := hV14.symm
  clear hV14 P7 P7l B7
  subst hV14'
  go_upto_if 79 with fail
  go_cut [19] (fun v19 wc => ∃ V19 : Value, v19 = V19 ∧ Hid (PtsIs wc u2 (ptsL nodes k)) ∧ Hid (Below w.heap.size w wc))
  case first =>
    cases cb
    rotate_left
    · have HZ : Hid (badPts (nodes ++ [more]) (k : Int) = 0) := HE4.out.trans (HCb.out rfl)
      obtain ⟨hb4, k', hk', _, _⟩ := badPts_good HZ.out
      obtain rfl : k = k' := by omega
      have hA4 : A4 = ptsL (nodes ++ [more]) k := by rw [← HA4.out, ansP, if_pos HZ.out, Int.toNat_natCast]
      rw [hA4] at P7b
      obtain ⟨g1, g2, g3, g4⟩ := badNodes_good hb4
      have HR4 : Hid (rightP (ptsL (nodes ++ [more]) k) = true) := pts_right g1 g2 h1 h8 g4 g3
      obtain ⟨b, hbo⟩ := own_some HR4.out (keyT q)
      have HB4 : Hid (ownP (keyT q) (ptsL (nodes ++ [more]) k) = some b) := hbo
      have HFew : Hid (b = a ∨ b = more) := few_fact hb4 HA.out hbo
      clear g1 g2 g3 g4 hb4 hbo hk' hA4
      go_wp2_with fail
      refine (owner_ok u7 (ptsL (nodes ++ [more]) k) q _ b P7b.out HR4.out hq HB4.out (HTb.out _ B7b.out)).mono ?_
      rintro e w8 ⟨rfl, hb⟩
      have P8 : Hid (PtsIs w8 u2 (ptsL nodes k)) := P7c.out.below hb
      have B8 : Hid (Below w.heap.size w w8) := B7b.out.trans (hb.mono B7b.out.size)
      clear hb
      by_cases hba : b = a
      · have hn1 : (b != a) = false := by simp [hba]
        clear hba
        go_wp2_with fail
        go_meet
        case rel => exact ⟨_, rfl, P8, B8⟩
      · have hn1 : (b != a) = true := by simpa using hba
        have hbm : b = more := by
          rcases HFew.out with h | h
          · exact absurd h hba
          · exact h
        have hn2 : (b != more) = false := by simp [hbm]
        clear hba hbm
        go_wp2_with fail
        go_meet
        case rel => exact ⟨_, rfl, P8, B8⟩
    · go_wp2_with fail
      go_meet
      case rel => exact ⟨_, rfl, P7c, B7b⟩
  case rest =>
  obtain ⟨w8, h⟩ : ∃ x, x = wc := ⟨_, rfl⟩
  subst h
  obtain ⟨V19, hV19, P8, B8⟩ := hcut
  have hV19' := hV19.symm
  clear hV19
  subst hV19'
  clear P7b P7c B7b
  obtain ⟨E3, HE3⟩ : ∃ x, Hid (badOwn (ptsL nodes k) (q : Int) many = x) := ⟨_, rfl⟩
  obtain ⟨O, HOs⟩ : ∃ x, Hid (ansO (ptsL nodes k) (q : Int) many = x) := ⟨_, rfl⟩
  go_wp2_with fail
  refine (owners_any HE3.out HOs.out u2 _ P8.out (HTb.out _ B8.out)).mono ?_
  rintro e w9 ⟨u9, rfl, hi, hb⟩
  have I9 : Hid (IntsCap w9 u9 O) := hi
  have B9 : Hid (Below w.heap.size w w9) := B8.out.trans (hb.mono B8.out.size)
  clear hi hb P8 B8
  by_cases h0 : E3 = 0
  rotate_left
  · rw [eV_err h0]
    go_wp2_with fail
    go_ret
    exact ⟨rfl, B9.out⟩
  have HZ : Hid (badOwn (ptsL nodes k) (q : Int) many = 0) := HE3.out.trans h0
  subst h0
  rw [eV_zero]
  obtain ⟨m, HM, hm1, HMl⟩ : ∃ m : Nat, Hid (many = (m : Int)) ∧ 1 ≤ m ∧ Hid (m ≤ (allO (ptsL nodes k) (q : Int)).length) := by
    have h := HZ.out
    unfold badOwn at h
    rw [badFindF_none HR.out HKq.out] at h
    rw [if_neg (by simp)] at h
    split at h
    · cases h
    · rename_i hm
      split at h
      · cases h
      · rename_i hl
        have hm' : inR many 1 6 = true := by simpa using hm
        simp [inR] at hm'
        exact ⟨many.toNat, by show _ = _; omega, by omega, by show _ ≤ _; omega⟩
  have HOe : Hid (O = (ownersL (keyT q) (ptsL nodes k)).take m) := by
    show O = _
    rw [← HOs.out, ansO, if_pos HZ.out, HM.out, Int.toNat_natCast]
    unfold allO
    rw [Int.toNat_natCast]
  have HOl : Hid (O.length = m) := by
    show _ = _
    rw [HOe.out, List.length_take]
    have := HMl.out
    unfold allO at this
    rw [Int.toNat_natCast] at this
    omega
  have HNd : Hid (O.Nodup) := by
    show O.Nodup
    rw [HOe.out]
    exact (List.take_sublist _ _).nodup (owners_nodup _ _)
  have HIns : Hid (∀ x ∈ O, nodes.contains x = true) := fun x hx => by
    rw [HOe.out] at hx
    exact owners_nodes (List.mem_of_mem_take hx)
  obtain ⟨r, HOr⟩ : ∃ r, Hid (O = a :: r) := by
    have hh := owners_head (keyT q) (ptsL nodes k)
    rw [HA.out] at hh
    obtain ⟨m', rfl⟩ : ∃ m', m = m' + 1 := ⟨m - 1, by omega⟩
    cases hl : ownersL (keyT q) (ptsL nodes k) with
    | nil => rw [hl] at hh; cases hh
    | cons z r =>
      rw [hl] at hh
      obtain rfl : z = a := Option.some.inj hh
      exact ⟨r.take m', by show O = _; rw [HOe.out, hl]; rfl⟩
  obtain ⟨⟨hmx, p9, c9, hu9, hrow9⟩, hcap9⟩ := I9.out
  have hne9 : O ≠ [] := by rw [HOr.out]; simp
  obtain ⟨b9, o9, rfl, hb9, hat9⟩ := hrow9 hne9
  obtain ⟨L, HL⟩ : ∃ L, Hid (O.length = L) := ⟨_, rfl⟩
  have HLm : Hid (L = m) := HL.out.symm.trans HOl.out
  rw [HL.out] at hu9
  subst hu9
  have HAt : Hid (∀ j (h : j < O.length), w9.cell? ⟨b9, o9 + j, none⟩ = some (.int .i64 O[j])) := hat9
  obtain ⟨a0, HA0, k0⟩ : ∃ a0, Hid (a0 = a) ∧ w9.cell? ⟨b9, o9, none⟩ = some (.int .i64 a0) := by
    have := hat9 0 (by rw [HOl.out]; omega)
    have e : O[0]'(by rw [HOl.out]; omega) = a := by simp [HOr.out]
    exact ⟨_, e, this⟩
  have hc9 : L ≤ c9 ∧ c9 ≤ maxLen := by
    obtain ⟨p', c', he, h1', h2'⟩ := hcap9
    injection he with _ _ he3
    subst he3
    rw [HL.out] at h1'
    exact ⟨h1', h2'⟩
  have hm' := HM.out
  have HI9 : Hid (IntsIs w9 (.slice (some ⟨b9, o9, none⟩) O.length c9) O) := by
    have := I9.out.1
    rw [HL.out]
    exact this
  clear hrow9 hcap9 hat9 hne9 hmx I9 HM
  subst hm'
  have hm63 : L ≤ 9223372036854775807 := by have := hc9.2; unfold maxLen at this; omega
  have hmm : ((L : Int) != (m : Int)) = false := by
    have := HLm.out
    simp [this]
  have hm1i : ¬ (m : Int) < 1 := by omega
  have hm1b : decide ((m : Int) < 1) = false := decide_eq_false hm1i
  have h0m : (0 : Int) < (L : Int) := by have := HLm.out; omega
  have haa : (a0 != a) = false := by
    have := HA0.out
    simp [this]
  have HVn9 : Hid (IntsIs w9 vn nodes) := HVn.out.1.below B9.out
  have HC9 : Hid (L ≤ c9 ∧ c9 ≤ maxLen) := hc9
  clear hc9
  go_wp2_with fail
  clear k0 hmm haa
  go_loopw [22] (fun s22 wr => ∃ j : Nat, j ≤ L ∧ s22 = .int .i64 j ∧ Hid (Below w9.heap.size w9 wr)) (fun i _ => L - (intOf i).toNat)
  case atStart => exact ⟨0, Nat.zero_le _, rfl, Below.refl _ _⟩
  case round =>
    obtain ⟨j, hj, rfl, HB⟩ := hrel
    have HBw : Hid (Below w.heap.size w wr) := B9.out.trans (HB.out.mono B9.out.size)
    by_cases hlt : j < L
    · have hjo : j < O.length := by rw [HL.out]; exact hlt
      have c0 : wr.cell? ⟨b9, o9 + j, none⟩ = some (.int .i64 O[j]) := (World.cell?_of_block (a := ⟨b9, o9 + j, none⟩) (HB.out.block b9 hb9)).trans (HAt.out j hjo)
      have hlti : (j : Int) < (L : Int) := by omega
      have hc9 := HC9.out
      have hjc : (j : Int) ≤ (c9 : Int) := by omega
      have hjc' : j ≤ c9 := by omega
      have hc63 : c9 ≤ 9223372036854775807 := hc9.2
      clear hc9
      have HUn : Hid ((O.take j).contains O[j] = false) := take_unlike HNd.out hjo
      have HMm : Hid (nodes.contains O[j] = true) := HIns.out _ (List.getElem_mem hjo)
      obtain ⟨x, HX⟩ : ∃ x, Hid (O[j] = x) := ⟨O[j], show O[j] = O[j] from rfl⟩
      rw [HX.out] at c0 HUn HMm
      have HIq : Hid (∀ d cp, Calls Tryd.prog 23 #[.slice (some ⟨b9, o9, none⟩) j cp, .int .i64 x] (wr.drewN d) fun e w' => e = .returned (.bool false) ∧ w' = wr.drewN d) := fun d cp => inW_c _ (O.take j) x false _ (IntsIs.take (drew_ints (HI9.out.below HB.out) d) (by rw [HL.out]; exact hj) (fun _ => rfl)) HUn.out
      go_upto_region 29 with fail
      go_quiet (first | (go_at_call 23; exact Calls.quiet_of_same (HIq.out _ _)))
      have HBq : Hid (Below w9.heap.size w9 (wr.drewN nq)) := HB.out.trans (below_drewN _ _ _)
      have c0q : (wr.drewN nq).cell? ⟨b9, o9 + j, none⟩ = some (.int .i64 x) := c0
      clear c0
      obtain ⟨w10, HW10⟩ : ∃ w2, w2 = wr.drewN nq := ⟨_, rfl⟩
      rw [← HW10] at HBq c0q ⊢
      clear HW10
      go_wp2_with fail
      refine (inW_c vn nodes x true _ (HVn9.out.below HBq.out) HMm.out).mono ?_
      rintro e w11 ⟨rfl, hw⟩
      have hw' := hw.symm
      clear hw
      subst hw'
      go_wp2_with fail
      go_roundw
      case rel => exact ⟨j + 1, by omega, by go_num, HBq⟩
      case measure => simp [intOf]; omega
    · obtain rfl : j = L := by omega
      go_wp2_with fail
      go_ret
      exact ⟨rfl, HBw.out⟩
theorem ringFew_w (vn : Value) (nodes : List Int) (each more key many : Int) (w : World) (hn : IntsCap w vn nodes) (hT : Lib.TabIs Tryd.prog w powName .u64 Lib.pow10Tab) :
    Calls Tryd.prog 5 #[vn, .int .i64 each, .int .i64 more, .int .i64 key, .int .i64 many] w fun e w' => e = .returned (.bool true) ∧ Below w.heap.size w w' := by
  by_cases h : badPts nodes each = 0
  · obtain ⟨h1, k, rfl, h2, h3⟩ := badPts_good h
    cases hk : inR key 0 7
    · exact ringFew_b vn nodes k more key many w hn hT h1 h2 h3 hk
    · obtain ⟨q, rfl, hq⟩ := key_nat hk
      exact ringFew_c vn nodes k q more many w hn hT h1 h2 h3 hq
  · exact ringFew_a vn nodes each more key many w hn hT _ rfl h
end Go.Proofs.YtlpfdmmilbdcbaeDoor
