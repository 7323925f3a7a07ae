/-
  ViewJoins: of two views both are the same either way round, and with one of both again; of three in any order; who answers is alive for all who hear it.
-/
import Derived.Test.YtpelbmhhppcmeaeVwA
import Derived.Test.YtpelbmhhppcmeaeVwN
namespace Go.Proofs.Ytpelbmhhppcmeae
set_option linter.unusedVariables false
set_option linter.unusedSimpArgs false
open Go.RowKit

theorem bothV_ok {a b R : List Mm} (h : bothV a b = (R, 0)) : GoodV a ∧ GoodV b ∧ R = bothM a b := by
  unfold bothV at h
  by_cases h0 : badV a = 0
  · rw [if_neg (by simpa using h0)] at h
    by_cases h1 : badV b = 0
    · rw [if_neg (by simpa using h1)] at h
      cases h
      exact ⟨badV_good h0, badV_good h1, rfl⟩
    · rw [if_pos h1] at h
      exact absurd (congrArg Prod.snd h) h1
  · rw [if_pos h0] at h
    exact absurd (congrArg Prod.snd h) h0
theorem bothV_good {a b : List Mm} (ha : GoodV a) (hb : GoodV b) : bothV a b = (bothM a b, 0) := by
  unfold bothV
  rw [if_neg (by simpa using good_badV ha), if_neg (by simpa using good_badV hb)]
theorem bothV_second {a b : List Mm} (ha : GoodV a) : (bothV a b).2 = badV b := by
  unfold bothV
  rw [if_neg (by simpa using good_badV ha)]
  by_cases h1 : badV b = 0
  · rw [if_neg (by simpa using h1)]
    exact h1.symm
  · rw [if_pos h1]
theorem ansV_zero {l R : List Mm} {node : Int} (h : ansV l node = (R, 0)) : badAns l node = 0 ∧ R = ansM l node := by
  unfold ansV at h
  by_cases h0 : badAns l node = 0
  · rw [if_neg (by simpa using h0)] at h
    cases h
    exact ⟨h0, rfl⟩
  · rw [if_pos h0] at h
    exact absurd (congrArg Prod.snd h) h0
/-- who answers is there -/
theorem badAns_zero {l : List Mm} {node : Int} (h : badAns l node = 0) : ∃ y, getM l node = some y ∧ (y.s = 0 ∨ y.f ≠ 100) := by
  unfold badAns at h
  split at h
  · rename_i h0
    exact absurd h h0
  · split at h
    · cases h
    · cases hg : getM l node with
      | none =>
        rw [hg] at h
        cases h
      | some y =>
        rw [hg] at h
        refine ⟨y, rfl, ?_⟩
        by_cases hs : y.s = 0
        · exact .inl hs
        · refine .inr fun hf => ?_
          have h' : (if y.s ≠ 0 ∧ y.f = 100 then (4 : Int) else 0) = 0 := h
          rw [if_pos ⟨hs, hf⟩] at h'
          cases h'
theorem ans_good {l : List Mm} {node : Int} (hg : GoodV l) (h : badAns l node = 0) : GoodV (ansM l node) := by
  refine ⟨ans_rise hg.1, fun x hx => ?_⟩
  obtain ⟨y, hy, hf⟩ := badAns_zero h
  unfold ansM at hx
  obtain ⟨z, hz, rfl⟩ := List.mem_map.1 hx
  by_cases hn : z.n = node
  · rw [if_pos hn]
    have e := getM_at hg.1 hz
    rw [hn, hy] at e
    obtain rfl := Option.some.inj e
    have hk := (Mm.ok_iff _).1 (hg.2 y hz)
    unfold upM
    split
    · exact hg.2 y hz
    · rename_i hs
      rw [Mm.ok_iff]
      dsimp only
      rcases hf with hf | hf
      · exact absurd hf hs
      · omega
  · rw [if_neg hn]
    exact hg.2 z hz
/-- what is found of a node in an answer is alive -/
theorem ans_alive {l : List Mm} {node : Int} (hr : RiseM l) (h : badAns l node = 0) : ∃ z, getM (ansM l node) node = some z ∧ z.s = 0 := by
  obtain ⟨y, hy, _⟩ := badAns_zero h
  refine ⟨upM y, ?_, upM_s y⟩
  rw [get_ans, if_pos rfl, hy]
  rfl
theorem getM_pos {l : List Mm} (hr : RiseM l) {k : Int} {z : Mm} (h : getM l k = some z) : ∃ i, ∃ hi : i < l.length, l[i] = z ∧ z.n = k ∧ ∀ j (hj : j < l.length), j < i → l[j].n ≠ k := by
  obtain ⟨hz, hn⟩ := getM_mem h
  obtain ⟨i, hi, rfl⟩ := List.getElem_of_mem hz
  refine ⟨i, hi, rfl, hn, fun j hj hlt => ?_⟩
  have := List.pairwise_iff_getElem.1 hr j i hj hi hlt
  omega
theorem newV_fact : newV ⟨1, 2, 1⟩ ⟨1, 2, 0⟩ = (true, 0) := by decide +kernel
set_option maxRecDepth 100000 in
set_option maxHeartbeats 32000000 in
theorem viewJoins_w (vl vm vn : Value) (node : Int) (l m n : List Mm) (w : World) (hl : MmsIs w vl l) (hm : MmsIs w vm m) (hn : MmsIs w vn n) :
    Calls Try.prog 3 #[vl, vm, vn, .int .i64 node] w fun e w' => e = .returned (.bool true) ∧ Below w.heap.size w w' := by
  have HVl : Hid (∀ W, Below w.heap.size w W → MmsIs W vl l) := fun W hW => hl.below hW
  have HVm : Hid (∀ W, Below w.heap.size w W → MmsIs W vm m) := fun W hW => hm.below hW
  have HVn : Hid (∀ W, Below w.heap.size w W → MmsIs W vn n) := fun W hW => hn.below hW
  clear hl hm hn
  obtain ⟨X, E1, HX⟩ : ∃ x y, Hid (bothV l m = (x, y)) := ⟨_, _, rfl⟩
  have HFa : Hid (newV ⟨1, 2, 1⟩ ⟨1, 2, 0⟩ = (true, 0)) := newV_fact
  go_enter Try.func3, Try.ntmps3
  go_wp2_with fail
  refine (newer_o HFa.out _).mono ?_
  rintro e w1 ⟨rfl, hb⟩
  rw [eV_zero]
  have B1 : Hid (Below w.heap.size w w1) := hb
  clear hb HFa
  go_wp2_with fail
  refine (both_o HX.out vl vm _ (HVl.out _ B1.out) (HVm.out _ B1.out)).mono ?_
  rintro e w2 ⟨x, rfl, ho, hb⟩
  have B2 : Hid (Below w.heap.size w w2) := B1.out.trans (hb.mono B1.out.size)
  have MX2 : Hid (MmsIs w2 x X) := ho.mms
  clear ho hb B1
  by_cases h1 : ¬ E1 = 0
  · rw [eV_err h1]
    go_wp2_with fail
    go_ret
    exact ⟨rfl, B2.out⟩
  have h1' : E1 = 0 := Decidable.not_not.1 h1
  clear h1
  subst h1'
  rw [eV_zero]
  obtain ⟨hGl, hGm, hXe⟩ := bothV_ok HX.out
  have HGl : Hid (GoodV l) := hGl
  have HGm : Hid (GoodV m) := hGm
  have HXe : Hid (X = bothM l m) := hXe
  have HGX : Hid (GoodV X) := by rw [hXe]; exact both_good hGl hGm
  have HY : Hid (bothV m l = (X, 0)) := by
    show _ = _
    rw [bothV_good hGm hGl, hXe, both_turn hGl.1 hGm.1]
  have HZ : Hid (bothV X l = (X, 0)) := by
    show _ = _
    rw [bothV_good HGX.out hGl, hXe, both_again hGl.1 hGm.1]
  clear hGl hGm hXe HX
  go_wp2_with fail
  refine (both_o HY.out vm vl _ (HVm.out _ B2.out) (HVl.out _ B2.out)).mono ?_
  rintro e w3 ⟨y, rfl, ho, hb⟩
  rw [eV_zero]
  have B3 : Hid (Below w.heap.size w w3) := B2.out.trans (hb.mono B2.out.size)
  have MX3 : Hid (MmsIs w3 x X) := MX2.out.below hb
  have MY3 : Hid (MmsIs w3 y X) := ho.mms
  clear ho hb B2 MX2
  go_wp2_with fail
  refine (both_o HZ.out x vl _ MX3.out (HVl.out _ B3.out)).mono ?_
  rintro e w4 ⟨z, rfl, ho, hb⟩
  rw [eV_zero]
  have B4 : Hid (Below w.heap.size w w4) := B3.out.trans (hb.mono B3.out.size)
  have MX4 : Hid (MmsIs w4 x X) := MX3.out.below hb
  have MY4 : Hid (MmsIs w4 y X) := MY3.out.below hb
  have MZ4 : Hid (MmsIs w4 z X) := ho.mms
  clear ho hb B3 MX3 MY3
  go_wp2_with fail
  refine (sameMm_c x y X _ MX4.out MY4.out).mono ?_
  rintro e w5 ⟨rfl, hb⟩
  have B5 : Hid (Below w.heap.size w w5) := B4.out.trans (hb.mono B4.out.size)
  have MX5 : Hid (MmsIs w5 x X) := MX4.out.below hb
  have MZ5 : Hid (MmsIs w5 z X) := MZ4.out.below hb
  clear hb B4 MX4 MY4 MZ4
  go_wp2_with fail
  refine (sameMm_c x z X _ MX5.out MZ5.out).mono ?_
  rintro e w6 ⟨rfl, hb⟩
  have B6 : Hid (Below w.heap.size w w6) := B5.out.trans (hb.mono B5.out.size)
  have MX6 : Hid (MmsIs w6 x X) := MX5.out.below hb
  clear hb B5 MX5 MZ5
  by_cases hn : ¬ badV n = 0
  · obtain ⟨E, HE⟩ : ∃ E, Hid (badV n = E) := ⟨_, rfl⟩
    have hE : E ≠ 0 := by rw [← HE.out]; exact hn
    have HA : Hid (∃ R, bothV X n = (R, E)) := ⟨(bothV X n).1, by rw [← HE.out, ← bothV_second HGX.out]⟩
    have HP : Hid (∃ R, bothV m n = (R, E)) := ⟨(bothV m n).1, by rw [← HE.out, ← bothV_second HGm.out]⟩
    obtain ⟨RA, hA⟩ := HA.out
    have HA' : Hid (bothV X n = (RA, E)) := hA
    obtain ⟨RP, hP⟩ := HP.out
    have HP' : Hid (bothV m n = (RP, E)) := hP
    clear hA hP HA HP hn HE
    go_wp2_with fail
    refine (both_o HA'.out x vn _ MX6.out (HVn.out _ B6.out)).mono ?_
    rintro e w7 ⟨a, rfl, ho, hb⟩
    rw [eV_err hE]
    have B7 : Hid (Below w.heap.size w w7) := B6.out.trans (hb.mono B6.out.size)
    clear ho hb
    go_wp2_with fail
    refine (both_o HP'.out vm vn _ (HVm.out _ B7.out) (HVn.out _ B7.out)).mono ?_
    rintro e w8 ⟨p, rfl, ho, hb⟩
    rw [eV_err hE]
    have B8 : Hid (Below w.heap.size w w8) := B7.out.trans (hb.mono B7.out.size)
    clear ho hb
    go_wp2_with fail
    go_ret
    exact ⟨rfl, B8.out⟩
  have HGn : Hid (GoodV n) := badV_good (Decidable.not_not.1 hn)
  clear hn
  obtain ⟨A, HAe⟩ : ∃ A, Hid (bothM X n = A) := ⟨_, rfl⟩
  obtain ⟨P, HPe⟩ : ∃ P, Hid (bothM m n = P) := ⟨_, rfl⟩
  have HGA : Hid (GoodV A) := by rw [← HAe.out]; exact both_good HGX.out HGn.out
  have HGP : Hid (GoodV P) := by rw [← HPe.out]; exact both_good HGm.out HGn.out
  have HA : Hid (bothV X n = (A, 0)) := by
    show _ = _
    rw [bothV_good HGX.out HGn.out, HAe.out]
  have HP : Hid (bothV m n = (P, 0)) := by
    show _ = _
    rw [bothV_good HGm.out HGn.out, HPe.out]
  have HLP : Hid (bothM l P = A) := by
    show _ = _
    rw [← HPe.out, ← both_three HGl.out.1 HGm.out.1 HGn.out.1, ← HXe.out, HAe.out]
  have HB : Hid (bothV l P = (A, 0)) := by
    show _ = _
    rw [bothV_good HGl.out HGP.out, HLP.out]
  have HLA : Hid (bothM l A = A) := by
    show _ = _
    rw [← HLP.out, both_more HGl.out.1 HGP.out.1]
  clear HAe HPe HXe
  go_wp2_with fail
  refine (both_o HA.out x vn _ MX6.out (HVn.out _ B6.out)).mono ?_
  rintro e w7 ⟨a, rfl, ho, hb⟩
  rw [eV_zero]
  have B7 : Hid (Below w.heap.size w w7) := B6.out.trans (hb.mono B6.out.size)
  have MA7 : Hid (MmsIs w7 a A) := ho.mms
  clear ho hb B6 MX6
  go_wp2_with fail
  refine (both_o HP.out vm vn _ (HVm.out _ B7.out) (HVn.out _ B7.out)).mono ?_
  rintro e w8 ⟨p, rfl, ho, hb⟩
  rw [eV_zero]
  have B8 : Hid (Below w.heap.size w w8) := B7.out.trans (hb.mono B7.out.size)
  have MA8 : Hid (MmsIs w8 a A) := MA7.out.below hb
  have MP8 : Hid (MmsIs w8 p P) := ho.mms
  clear ho hb B7 MA7
  go_wp2_with fail
  refine (both_o HB.out vl p _ (HVl.out _ B8.out) MP8.out).mono ?_
  rintro e w9 ⟨b, rfl, ho, hb⟩
  rw [eV_zero]
  have B9 : Hid (Below w.heap.size w w9) := B8.out.trans (hb.mono B8.out.size)
  have MA9 : Hid (MmsIs w9 a A) := MA8.out.below hb
  have MB9 : Hid (MmsIs w9 b A) := ho.mms
  clear ho hb B8 MA8 MP8
  go_wp2_with fail
  refine (sameMm_c a b A _ MA9.out MB9.out).mono ?_
  rintro e w10 ⟨rfl, hb⟩
  have B10 : Hid (Below w.heap.size w w10) := B9.out.trans (hb.mono B9.out.size)
  have MA10 : Hid (MmsIs w10 a A) := MA9.out.below hb
  clear hb B9 MA9 MB9
  obtain ⟨C, E2, HC⟩ : ∃ x y, Hid (ansV A node = (x, y)) := ⟨_, _, rfl⟩
  go_wp2_with fail
  refine (answer_o HC.out a _ MA10.out).mono ?_
  rintro e w11 ⟨c, rfl, ho, hb⟩
  have B11 : Hid (Below w.heap.size w w11) := B10.out.trans (hb.mono B10.out.size)
  have MC11 : Hid (MmsIs w11 c C) := ho.mms
  clear ho hb B10 MA10
  by_cases h2 : ¬ E2 = 0
  · rw [eV_err h2]
    go_wp2_with fail
    go_ret
    exact ⟨rfl, B11.out⟩
  have h2' : E2 = 0 := Decidable.not_not.1 h2
  clear h2
  subst h2'
  rw [eV_zero]
  obtain ⟨hb0, hCe⟩ := ansV_zero HC.out
  have HGC : Hid (GoodV C) := by rw [hCe]; exact ans_good HGA.out hb0
  have HD : Hid (bothV l C = (C, 0)) := by
    show _ = _
    rw [bothV_good HGl.out HGC.out, hCe, both_ans HGl.out.1 HGA.out.1 HLA.out]
  have HAl : Hid (∃ z, getM C node = some z ∧ z.s = 0) := by rw [hCe]; exact ans_alive HGA.out.1 hb0
  clear hb0 hCe HC
  go_wp2_with fail
  refine (both_o HD.out vl c _ (HVl.out _ B11.out) MC11.out).mono ?_
  rintro e w12 ⟨d, rfl, ho, hb⟩
  rw [eV_zero]
  have B12 : Hid (Below w.heap.size w w12) := B11.out.trans (hb.mono B11.out.size)
  have MC12 : Hid (MmsIs w12 c C) := MC11.out.below hb
  have MD12 : Hid (MmsIs w12 d C) := ho.mms
  clear ho hb B11 MC11
  go_wp2_with fail
  refine (sameMm_c d c C _ MD12.out MC12.out).mono ?_
  rintro e w13 ⟨rfl, hb⟩
  have B13 : Hid (Below w.heap.size w w13) := B12.out.trans (hb.mono B12.out.size)
  have MD13 : Hid (MmsIs w13 d C) := MD12.out.below hb
  clear hb B12 MC12 MD12
  obtain ⟨z, hz, hzs⟩ := HAl.out
  obtain ⟨i, hi, hiz, hzn, hlow⟩ := getM_pos HGC.out.1 hz
  have HLow : Hid (∀ j (hj : j < C.length), j < i → C[j].n ≠ node) := hlow
  have HIz : Hid (C[i] = z) := hiz
  have HZn : Hid (z.n = node) := hzn
  have HZs : Hid (z.s = 0) := hzs
  have hc6 := good_len HGC.out
  obtain ⟨_, pd, cd, hd, hrow⟩ := MD13.out
  obtain ⟨bd, od, rfl, hbd, hat⟩ := hrow (fun h => by simp [h] at hi)
  have HAt : Hid (∀ j (h : j < C.length), MmAt w13 bd (od + j * 3) C[j]) := hat
  clear hrow hat hiz hzn hzs hlow hz HAl
  obtain ⟨L, HL⟩ : ∃ L, Hid (C.length = L) := ⟨_, rfl⟩
  have hiL : i < L := by rw [← HL.out]; exact hi
  rw [HL.out] at hd hc6
  subst hd
  go_wp2_with fail
  go_loopw [23] (fun s23 wr => ∃ j : Nat, j ≤ i ∧ s23 = .int .i64 j ∧ Hid (Below w13.heap.size w13 wr)) (fun s _ => L - (intOf s).toNat)
  case atStart => exact ⟨0, Nat.zero_le _, rfl, Below.refl _ _⟩
  case round =>
    obtain ⟨j, hj, rfl, HB'⟩ := hrel
    have hjL : j < C.length := by rw [HL.out]; omega
    have HA' : Hid (MmAt wr bd (od + j * 3) C[j]) := (HAt.out j hjL).of_block (HB'.out.block bd hbd)
    have hlti : (j : Int) < (L : Int) := by omega
    have HBw : Hid (Below w.heap.size w wr) := B13.out.trans (HB'.out.mono B13.out.size)
    by_cases hji : j = i
    · subst hji
      rw [HIz.out] at HA'
      obtain ⟨z0, z1, z2⟩ := z
      obtain ⟨c0, c1, c2⟩ := HA'.out
      have hzn := HZn.out
      have hzs := HZs.out
      dsimp only at c0 c1 c2 hzn hzs
      have hnb : (z0 == node) = true := by simp [hzn]
      have hsb : (z2 == 0) = true := by simp [hzs]
      clear hzn hzs
      go_wp2_with fail
      go_ret
      exact ⟨rfl, HBw.out⟩
    · have hne := HLow.out j hjL (by omega)
      obtain ⟨x, HXj⟩ : ∃ x, Hid (C[j] = x) := ⟨C[j], show C[j] = C[j] from rfl⟩
      rw [HXj.out] at HA' hne
      obtain ⟨x0, x1, x2⟩ := x
      obtain ⟨c0, c1, c2⟩ := HA'.out
      dsimp only at c0 c1 c2 hne
      have hnb : (x0 == node) = false := by simpa using hne
      go_wp2_with fail
      go_roundw
      case rel => exact ⟨j + 1, by omega, by go_num, HB'⟩
      case measure => simp [intOf]; omega
end Go.Proofs.Ytpelbmhhppcmeae
