/-
  The document's Hear (mereref2) by its contract.
-/
import Derived.Test.YtpelbmhhppcmeafDoorRuD
namespace Go.Proofs.YtpelbmhhppcmeafDoor
set_option linter.unusedVariables false
set_option linter.unusedSimpArgs false
open Go.RowKit

theorem hearU_same {m : Mm} {x : Ru} : ∀ {l : List Ru}, RiseR l → getU l m.n = some x → nwB m x.m = false → hearU m l = l := by
  intro l
  induction l with
  | nil => intro _ h; cases h
  | cons y l ih =>
    intro hr h hn
    obtain ⟨h1, h2⟩ := List.pairwise_cons.1 hr
    rw [getU_cons] at h
    rw [hearU]
    by_cases he : y.m.n = m.n
    · rw [if_pos he] at h ⊢
      obtain rfl := Option.some.inj h
      rw [if_neg (by rw [hn]; simp)]
    · rw [if_neg he] at h ⊢
      have := h1 x (getU_mem h).1
      rw [(getU_mem h).2] at this
      rw [if_neg (by omega), ih h2 h hn]
/-- how far a rumor's hearing has come -/
def HearInv (m : Mm) (l : List Ru) (j : Nat) (put : Bool) (out : List Ru) : Prop :=
  if put = true then out.length ≤ j + 1 ∧ hearU m l = out ++ l.drop j ∧ isU m l = true ∧ ∀ x ∈ l.drop j, m.n < x.m.n else out.length ≤ j ∧ hearU m l = out ++ hearU m (l.drop j) ∧ isU m l = isU m (l.drop j)
theorem hearInv_start (m : Mm) (l : List Ru) : HearInv m l 0 false [] := by
  unfold HearInv
  rw [if_neg (by simp), List.drop_zero]
  exact ⟨by simp, rfl, rfl⟩
theorem dropR_rise {l : List Ru} (h : RiseR l) (j : Nat) (hj : j < l.length) : ∀ x ∈ l.drop (j + 1), l[j].m.n < x.m.n := by
  have h1 : RiseR (l.drop j) := List.Pairwise.sublist (List.drop_sublist _ _) h
  rw [List.drop_eq_getElem_cons hj] at h1
  exact (List.pairwise_cons.1 h1).1
theorem hearInv_len {m : Mm} {l out : List Ru} {j : Nat} {put : Bool} (h : HearInv m l j put out) : out.length ≤ j + 1 := by
  unfold HearInv at h
  split at h
  · exact h.1
  · have := h.1
    omega
theorem hearInv_same {m : Mm} {x : Ru} {l out : List Ru} {j : Nat} (hr : RiseR l) (hj : j < l.length) (hx : l[j] = x) (h : HearInv m l j false out) (he : x.m.n = m.n) (hn : nwB m x.m = true) : HearInv m l (j + 1) true (out ++ [⟨m, 0⟩]) := by
  unfold HearInv at h ⊢
  rw [if_neg (by simp), List.drop_eq_getElem_cons hj, hx] at h
  obtain ⟨h0, h1, h2⟩ := h
  have hq := dropR_rise hr j hj
  rw [hx] at hq
  rw [if_pos rfl]
  refine ⟨by simp; omega, ?_, ?_, fun y hy => by have := hq y hy; omega⟩
  · rw [h1, hearU, if_pos he, if_pos hn]
    simp
  · rw [h2, isU_some (x := x), hn]
    rw [getU_cons, if_pos he]
theorem hearU_self2 {m : Mm} {l : List Ru} (hr : RiseR l) (h : isU m l = false) : hearU m l = l := by
  cases hg : getU l m.n with
  | none => rw [isU_none hg] at h; cases h
  | some x => rw [isU_some hg] at h; exact hearU_same hr hg h
theorem hearInv_old {m : Mm} {x : Ru} {l out : List Ru} {j : Nat} (hr : RiseR l) (hj : j < l.length) (hx : l[j] = x) (h : HearInv m l j false out) (he : x.m.n = m.n) (hn : nwB m x.m = false) : hearU m l = l ∧ isU m l = false := by
  unfold HearInv at h
  rw [if_neg (by simp), List.drop_eq_getElem_cons hj, hx] at h
  have hi : isU m l = false := by
    rw [h.2.2, isU_some (x := x), hn]
    rw [getU_cons, if_pos he]
  exact ⟨hearU_self2 hr hi, hi⟩
theorem hearInv_low {m : Mm} {x : Ru} {l out : List Ru} {j : Nat} (hj : j < l.length) (hx : l[j] = x) (h : HearInv m l j false out) (he : x.m.n < m.n) : HearInv m l (j + 1) false (out ++ [x]) := by
  unfold HearInv at h ⊢
  rw [if_neg (by simp), List.drop_eq_getElem_cons hj, hx] at h
  obtain ⟨h0, h1, h2⟩ := h
  rw [if_neg (by simp)]
  refine ⟨by simp; omega, ?_, ?_⟩
  · rw [h1, hearU, if_neg (by omega), if_neg (by omega)]
    simp
  · rw [h2]
    unfold isU
    rw [getU_cons, if_neg (by omega)]
theorem hearInv_high {m : Mm} {x : Ru} {l out : List Ru} {j : Nat} (hr : RiseR l) (hj : j < l.length) (hx : l[j] = x) (h : HearInv m l j false out) (he : m.n < x.m.n) : HearInv m l (j + 1) true ((out ++ [⟨m, 0⟩]) ++ [x]) := by
  unfold HearInv at h ⊢
  rw [if_neg (by simp), List.drop_eq_getElem_cons hj, hx] at h
  obtain ⟨h0, h1, h2⟩ := h
  have hq := dropR_rise hr j hj
  rw [hx] at hq
  rw [if_pos rfl]
  refine ⟨by simp; omega, ?_, ?_, fun y hy => by have := hq y hy; omega⟩
  · rw [h1, hearU, if_neg (by omega), if_pos he]
    simp
  · rw [h2]
    refine isU_none (getU_none fun y hy => ?_)
    rcases List.mem_cons.1 hy with rfl | hy
    · omega
    · have := hq y hy
      omega
theorem hearInv_behind {m : Mm} {x : Ru} {l out : List Ru} {j : Nat} (hj : j < l.length) (hx : l[j] = x) (h : HearInv m l j true out) : m.n < x.m.n ∧ HearInv m l (j + 1) true (out ++ [x]) := by
  unfold HearInv at h ⊢
  rw [if_pos rfl, List.drop_eq_getElem_cons hj, hx] at h
  obtain ⟨h0, h1, h2, h3⟩ := h
  rw [if_pos rfl]
  refine ⟨h3 x (by simp), by simp; omega, ?_, h2, fun y hy => h3 y (List.mem_cons_of_mem _ hy)⟩
  rw [h1]
  simp
theorem hearInv_end {m : Mm} {l out : List Ru} {j : Nat} {put : Bool} (hj : l.length ≤ j) (h : HearInv m l j put out) : isU m l = true ∧ hearU m l = if put = true then out else out ++ [⟨m, 0⟩] := by
  unfold HearInv at h
  rw [List.drop_eq_nil_of_le hj] at h
  cases put
  · rw [if_neg (by simp)] at h
    rw [if_neg (by simp)]
    exact ⟨h.2.2, h.2.1⟩
  · rw [if_pos rfl] at h
    rw [if_pos rfl]
    exact ⟨h.2.2.1, by rw [h.2.1]; simp⟩
set_option maxRecDepth 100000 in
set_option maxHeartbeats 8000000 in
theorem rHear_c (v : Value) (l : List Ru) (k f s : Int) (R1 : List Ru) (R2 : Bool) (w : World) (hr : RusIs w v l) (hg : RiseR l) (hl : l.length ≤ 100) (h1 : hearU ⟨k, f, s⟩ l = R1) (h2 : isU ⟨k, f, s⟩ l = R2) :
    Calls Tryd.prog 22 #[v, .agg #[.int .i64 k, .int .i64 f, .int .i64 s]] w fun e w' => ∃ v', e = .returned (.tuple #[v', .bool R2]) ∧ RusIs w' v' R1 ∧ Below w.heap.size w w' := by
  have HV : Hid (RusIs w v l) := hr
  have HG : Hid (RiseR l) := hg
  have H1 : Hid (hearU ⟨k, f, s⟩ l = R1) := h1
  have H2 : Hid (isU ⟨k, f, s⟩ l = R2) := h2
  obtain ⟨hlen, p, cap, rfl, hrow⟩ := hr
  have HRow : Hid (l ≠ [] → ∃ b o, p = some ⟨b, o, none⟩ ∧ b < w.heap.size ∧ ∀ j (h : j < l.length), RuAt w b (o + j * 4) l[j]) := hrow
  clear hrow hg h1 h2
  obtain ⟨n, HN⟩ : ∃ n, Hid (l.length = n) := ⟨_, rfl⟩
  rw [HN.out] at hlen hl HV ⊢
  obtain ⟨w3, HW3⟩ : ∃ x, x = w.alloc (.cells #[.int .i64 k, .int .i64 f, .int .i64 s] 23) := ⟨_, rfl⟩
  have B3 : Hid (Below w.heap.size w w3) := by rw [HW3]; exact (Below.refl _ _).alloc (Nat.le_refl _) _
  have X3 : Hid (BoxM w3 w.heap.size k f s) := by rw [HW3]; exact boxM_new w k f s _ rfl
  go_enter Tryd.func22, Tryd.ntmps22
  go_upto_region 1 with fail
  rw [← HW3]
  clear HW3
  go_wp2_with fail
  go_loopw [6, 7, 8, 9] (fun s6 s7 s8 s9 wr => ∃ (j : Nat) (put : Bool) (out : List Ru) (v6 v9 : Value), s6 = v6 ∧ s7 = .bool put ∧ s8 = .int .i64 j ∧ s9 = v9 ∧ j ≤ n ∧ Hid (OwnR w3.heap.size wr v6 out) ∧ Hid (HearInv ⟨k, f, s⟩ l j put out) ∧ Hid (Below w3.heap.size w3 wr)) (fun _ _ i _ _ => n - (intOf i).toNat)
  case atStart => exact ⟨0, false, [], _, _, rfl, rfl, rfl, rfl, Nat.zero_le _, OwnR.nil _ _, hearInv_start _ _, Below.refl _ _⟩
  case round =>
    obtain ⟨j, put, out, v6, v9, hs6, rfl, rfl, hs9, hj, HO, HI, HB⟩ := hrel
    have hs6' := hs6.symm
    clear hs6
    subst hs6'
    have hs9' := hs9.symm
    clear hs9
    subst hs9'
    by_cases hlt : j < n
    · have hl0 : l ≠ [] := by intro h; have := HN.out; rw [h] at this; simp at this; omega
      obtain ⟨b, o, rfl, hbw, hat⟩ := HRow.out hl0
      have hjl : j < l.length := by rw [HN.out]; exact hlt
      have HAt : Hid (∀ W, Below w3.heap.size w3 W → RuAt W b (o + j * 4) l[j]) := fun W hW => ((hat j hjl).of_block (B3.out.block b hbw)).of_block (hW.block b (Nat.lt_of_lt_of_le hbw B3.out.size))
      have HBx : Hid (∀ W, Below w3.heap.size w3 W → BoxM W w.heap.size k f s) := fun W hW => X3.out.below hW X3.out.lt
      clear hat
      have hws := HB.out.size
      obtain ⟨x, HX⟩ : ∃ x, Hid (l[j] = x) := ⟨l[j], show l[j] = l[j] from rfl⟩
      rw [HX.out] at HAt
      obtain ⟨⟨x0, x1, x2⟩, x3⟩ := x
      have hlti : (j : Int) < (n : Int) := by omega
      have HLn : Hid (out.length ≤ 1000) := by
        show _ ≤ _
        have := hearInv_len HI.out
        omega
      obtain ⟨c0, c1, c2, c3⟩ := HAt.out wr HB.out
      obtain ⟨e0, e1, e2, ef⟩ := HBx.out wr HB.out
      dsimp only at c0 c1 c2 c3
      go_upto_region 6 with fail
      go_cut [24] (fun c wc => ∃ cb : Bool, c = .bool cb ∧ Hid (cb = (x0 == k)) ∧ Hid (Below wr.heap.size wr wc))
      case first =>
        go_region
        all_goals go_wp2_with fail
        all_goals go_meet
        all_goals exact ⟨_, rfl, rfl, (Below.refl _ wr).drew⟩
      case rest =>
      obtain ⟨w4, h⟩ : ∃ x, x = wc := ⟨_, rfl⟩
      subst h
      obtain ⟨cb, rfl, HCb, HB4'⟩ := hcut
      have HB4 : Hid (Below w3.heap.size w3 w4) := HB.out.trans (HB4'.out.mono hws)
      have HO4 : Hid (OwnR w3.heap.size w4 v6 out) := HO.out.below HB4'.out
      clear c0 c1 c2 c3 e0 e1 e2 ef HB4' HO HB
      by_cases he : x0 = k
      · have HCt : Hid (cb = true) := by
          show cb = true
          rw [HCb.out]
          simp [he]
        have HE : Hid (x0 = k) := he
        clear he
        rw [HCt.out]
        have hpf : put = false := by
          cases put
          · rfl
          · have h := (hearInv_behind hjl HX.out HI.out).1
            have h' := HE.out
            dsimp only at h
            omega
        subst hpf
        obtain ⟨c0, c1, c2, c3⟩ := HAt.out w4 HB4.out
        obtain ⟨e0, e1, e2, ef⟩ := HBx.out w4 HB4.out
        dsimp only at c0 c1 c2 c3
        obtain ⟨q, HQ⟩ : ∃ q, Hid (nwB ⟨k, f, s⟩ ⟨x0, x1, x2⟩ = q) := ⟨_, rfl⟩
        go_upto_region 7 with fail
        go_cut [9] (fun c wc => ∃ cb : Bool, c = .bool cb ∧ Hid (cb = q) ∧ Hid (Below w4.heap.size w4 wc))
        case first =>
          go_region_with (go_at_call 40; refine (rNewer_b _ _ _ _ _ _ q _ HQ.out).mono ?_; rintro e w7 ⟨rfl, hb7⟩; have HB7 : Hid (Below w4.heap.size w4 w7) := below_undrew hb7; clear hb7)
          all_goals go_wp2_with fail
          all_goals go_meet
          all_goals exact ⟨_, rfl, rfl, HB7⟩
        case rest =>
        obtain ⟨w5, h⟩ : ∃ x, x = wc := ⟨_, rfl⟩
        subst h
        obtain ⟨cb, rfl, HCb, HB5'⟩ := hcut
        have HB5 : Hid (Below w3.heap.size w3 w5) := HB4.out.trans (HB5'.out.mono HB4.out.size)
        have HO5 : Hid (OwnR w3.heap.size w5 v6 out) := HO4.out.below HB5'.out
        clear c0 c1 c2 c3 e0 e1 e2 ef HB5' HO4 HB4
        rw [HCb.out]
        cases q
        · obtain ⟨ha, hi⟩ := hearInv_old HG.out hjl HX.out HI.out HE.out HQ.out
          have HR1 : Hid (R1 = l) := H1.out.symm.trans ha
          have HR2 : Hid (R2 = false) := H2.out.symm.trans hi
          clear ha hi
          have HBw : Hid (Below w.heap.size w w5) := B3.out.trans (HB5.out.mono B3.out.size)
          go_wp2_with fail
          go_ret2
          refine ⟨.slice (some ⟨b, o, none⟩) n cap, by rw [HR2.out]; rfl, ?_, HBw.out⟩
          rw [HR1.out]
          exact HV.out.below HBw.out
        · have HI6 : Hid (HearInv ⟨k, f, s⟩ l (j + 1) true (out ++ [⟨⟨k, f, s⟩, 0⟩])) := hearInv_same HG.out hjl HX.out HI.out HE.out HQ.out
          obtain ⟨e0, e1, e2, ef⟩ := HBx.out w5 HB5.out
          have HOa : Hid (OwnR w3.heap.size (w5.alloc (.cells #[.int .i64 k, .int .i64 f, .int .i64 s, .int .i64 0] 71)) v6 out) := HO5.out.below ((Below.refl _ _).alloc (Nat.le_refl _) _)
          have HVa : Hid ((w5.alloc (.cells #[.int .i64 k, .int .i64 f, .int .i64 s, .int .i64 0] 71)).heap[w5.heap.size]? = some (.cells (Ru.cells ⟨⟨k, f, s⟩, 0⟩).toArray 71 (0, 0))) := alloc_at _ _ _ rfl
          have HSa : Hid (w3.heap.size ≤ (w5.alloc (.cells #[.int .i64 k, .int .i64 f, .int .i64 s, .int .i64 0] 71)).heap.size) := show _ ≤ _ from (by have := HB5.out.size; simp; omega)
          go_wp2_with (at_builtin; refine wp_appR _ rfl _ _ rfl w3.heap.size _ out ⟨⟨k, f, s⟩, 0⟩ rfl HOa.out _ rfl HVa.out (Nat.le_trans HLn.out (by omega)) HSa.out ?_)
          intro va wa hown hgrow
          have HOp : Hid (OwnR w3.heap.size wa va (out ++ [⟨⟨k, f, s⟩, 0⟩])) := hown
          have HBp : Hid (Below w3.heap.size w3 wa) := below_grown (HB5.out.alloc HB5.out.size _) (Nat.le_refl _) hgrow.out (fun c hc => HO5.out.from c hc)
          clear hown hgrow HOa HVa HSa e0 e1 e2 ef
          go_wp2_with fail
          go_roundw
          case rel => exact ⟨j + 1, true, _, _, _, rfl, rfl, by go_num, rfl, by omega, HOp, HI6, HBp⟩
          case measure => simp [intOf]; omega
      · have HCf : Hid (cb = false) := by
          show cb = false
          rw [HCb.out]
          simpa using he
        rw [HCf.out]
        obtain ⟨c0, c1, c2, c3⟩ := HAt.out w4 HB4.out
        obtain ⟨e0, e1, e2, ef⟩ := HBx.out w4 HB4.out
        dsimp only at c0 c1 c2 c3
        go_upto_region 12 with fail
        go_cut [52] (fun c wc => ∃ cb : Bool, c = .bool cb ∧ Hid (cb = (decide (k < x0) && !put)) ∧ Hid (Below w4.heap.size w4 wc))
        case first =>
          by_cases hkx : k < x0
          · have hkd : decide (k < x0) = true := decide_eq_true hkx
            go_region
            all_goals go_wp2_with fail
            all_goals go_meet
            all_goals exact ⟨_, rfl, by rw [hkd]; rfl, (Below.refl _ w4).drew⟩
          · have hkd : decide (k < x0) = false := decide_eq_false hkx
            go_region
            all_goals go_wp2_with fail
            all_goals go_meet
            all_goals exact ⟨_, rfl, by rw [hkd]; rfl, (Below.refl _ w4).drew⟩
        case rest =>
        obtain ⟨w5, h⟩ : ∃ x, x = wc := ⟨_, rfl⟩
        subst h
        obtain ⟨cb, rfl, HCb, HB5'⟩ := hcut
        have HB5 : Hid (Below w3.heap.size w3 w5) := HB4.out.trans (HB5'.out.mono HB4.out.size)
        have HO5 : Hid (OwnR w3.heap.size w5 v6 out) := HO4.out.below HB5'.out
        clear c0 c1 c2 c3 e0 e1 e2 ef HB5' HO4 HB4
        go_upto_if 52 with fail
        go_cut [6, 7] (fun u6 u7 wc => ∃ (v6 : Value) (p7 : Bool) (out2 : List Ru), u6 = v6 ∧ u7 = .bool p7 ∧ Hid (OwnR w3.heap.size wc v6 out2) ∧ Hid (out2.length ≤ 1001) ∧ Hid (HearInv ⟨k, f, s⟩ l (j + 1) p7 (out2 ++ [⟨⟨x0, x1, x2⟩, x3⟩])) ∧ Hid (Below w3.heap.size w3 wc))
        case first =>
          cases put
          · by_cases hkx : k < x0
            · have HCt : Hid (cb = true) := by
                show cb = true
                rw [HCb.out, decide_eq_true hkx]
                rfl
              rw [HCt.out]
              have HI6 : Hid (HearInv ⟨k, f, s⟩ l (j + 1) true ((out ++ [⟨⟨k, f, s⟩, 0⟩]) ++ [⟨⟨x0, x1, x2⟩, x3⟩])) := hearInv_high HG.out hjl HX.out HI.out hkx
              obtain ⟨e0, e1, e2, ef⟩ := HBx.out w5 HB5.out
              have HOa : Hid (OwnR w3.heap.size (w5.alloc (.cells #[.int .i64 k, .int .i64 f, .int .i64 s, .int .i64 0] 71)) v6 out) := HO5.out.below ((Below.refl _ _).alloc (Nat.le_refl _) _)
              have HVa : Hid ((w5.alloc (.cells #[.int .i64 k, .int .i64 f, .int .i64 s, .int .i64 0] 71)).heap[w5.heap.size]? = some (.cells (Ru.cells ⟨⟨k, f, s⟩, 0⟩).toArray 71 (0, 0))) := alloc_at _ _ _ rfl
              have HSa : Hid (w3.heap.size ≤ (w5.alloc (.cells #[.int .i64 k, .int .i64 f, .int .i64 s, .int .i64 0] 71)).heap.size) := show _ ≤ _ from (by have := HB5.out.size; simp; omega)
              have HL6 : Hid ((out ++ [(⟨⟨k, f, s⟩, 0⟩ : Ru)]).length ≤ 1001) := by
                show _ ≤ _
                have := HLn.out
                simp
                omega
              go_wp2_with (at_builtin; refine wp_appR _ rfl _ _ rfl w3.heap.size _ out ⟨⟨k, f, s⟩, 0⟩ rfl HOa.out _ rfl HVa.out (Nat.le_trans HLn.out (by omega)) HSa.out ?_)
              intro va wa hown hgrow
              have HOp : Hid (OwnR w3.heap.size wa va (out ++ [⟨⟨k, f, s⟩, 0⟩])) := hown
              have HBp : Hid (Below w3.heap.size w3 wa) := below_grown (HB5.out.alloc HB5.out.size _) (Nat.le_refl _) hgrow.out (fun c hc => HO5.out.from c hc)
              clear hown hgrow HOa HVa HSa e0 e1 e2 ef
              go_wp2_with fail
              go_meet
              case rel => exact ⟨_, true, _, rfl, rfl, HOp, HL6, HI6, HBp⟩
            · have HCf' : Hid (cb = false) := by
                show cb = false
                rw [HCb.out, decide_eq_false hkx]
                rfl
              rw [HCf'.out]
              have HI6 : Hid (HearInv ⟨k, f, s⟩ l (j + 1) false (out ++ [⟨⟨x0, x1, x2⟩, x3⟩])) := hearInv_low hjl HX.out HI.out (by dsimp only; omega)
              go_wp2_with fail
              go_meet
              case rel => exact ⟨_, false, out, rfl, rfl, HO5, Nat.le_trans HLn.out (by omega), HI6, HB5⟩
          · have HCf' : Hid (cb = false) := by
              show cb = false
              rw [HCb.out]
              simp
            rw [HCf'.out]
            have HI6 : Hid (HearInv ⟨k, f, s⟩ l (j + 1) true (out ++ [⟨⟨x0, x1, x2⟩, x3⟩])) := (hearInv_behind hjl HX.out HI.out).2
            go_wp2_with fail
            go_meet
            case rel => exact ⟨_, true, out, rfl, rfl, HO5, Nat.le_trans HLn.out (by omega), HI6, HB5⟩
        case rest =>
        obtain ⟨w6, h⟩ : ∃ x, x = wc := ⟨_, rfl⟩
        subst h
        obtain ⟨u6, p7, out2, hu6, rfl, HO6, HL6, HI6, HB6⟩ := hcut
        have hu6' := hu6.symm
        clear hu6 HO5 HB5 HI
        subst hu6'
        obtain ⟨c0, c1, c2, c3⟩ := HAt.out w6 HB6.out
        dsimp only at c0 c1 c2 c3
        have HOa : Hid (OwnR w3.heap.size (w6.alloc (.cells #[.int .i64 x0, .int .i64 x1, .int .i64 x2, .int .i64 x3] 71)) u6 out2) := HO6.out.below ((Below.refl _ _).alloc (Nat.le_refl _) _)
        have HVa : Hid ((w6.alloc (.cells #[.int .i64 x0, .int .i64 x1, .int .i64 x2, .int .i64 x3] 71)).heap[w6.heap.size]? = some (.cells (Ru.cells ⟨⟨x0, x1, x2⟩, x3⟩).toArray 71 (0, 0))) := alloc_at _ _ _ rfl
        have HSa : Hid (w3.heap.size ≤ (w6.alloc (.cells #[.int .i64 x0, .int .i64 x1, .int .i64 x2, .int .i64 x3] 71)).heap.size) := show _ ≤ _ from (by have := HB6.out.size; simp; omega)
        go_wp2_with (at_builtin; refine wp_appR _ rfl _ _ rfl w3.heap.size _ out2 ⟨⟨x0, x1, x2⟩, x3⟩ rfl HOa.out _ rfl HVa.out (Nat.le_trans HL6.out (by omega)) HSa.out ?_)
        intro va wa hown hgrow
        have HOp : Hid (OwnR w3.heap.size wa va (out2 ++ [⟨⟨x0, x1, x2⟩, x3⟩])) := hown
        have HBp : Hid (Below w3.heap.size w3 wa) := below_grown (HB6.out.alloc HB6.out.size _) (Nat.le_refl _) hgrow.out (fun c hc => HO6.out.from c hc)
        clear hown hgrow HOa HVa HSa c0 c1 c2 c3
        go_wp2_with fail
        go_roundw
        case rel => exact ⟨j + 1, p7, _, _, _, rfl, rfl, by go_num, rfl, by omega, HOp, HI6, HBp⟩
        case measure => simp [intOf]; omega
    · obtain rfl : j = n := by omega
      have HEnd : Hid _ := hearInv_end (by rw [HN.out]; exact Nat.le_refl _) HI.out
      have HR2 : Hid (R2 = true) := H2.out.symm.trans HEnd.out.1
      have HLn : Hid (out.length ≤ 1000) := by
        show _ ≤ _
        have := hearInv_len HI.out
        omega
      cases put
      · have HR1 : Hid (R1 = out ++ [⟨⟨k, f, s⟩, 0⟩]) := by
          show R1 = _
          rw [← H1.out, HEnd.out.2, if_neg (by simp)]
        clear HEnd HI
        obtain ⟨e0, e1, e2, ef⟩ := X3.out.below HB.out X3.out.lt
        have HOa : Hid (OwnR w3.heap.size (wr.alloc (.cells #[.int .i64 k, .int .i64 f, .int .i64 s, .int .i64 0] 71)) v6 out) := HO.out.below ((Below.refl _ _).alloc (Nat.le_refl _) _)
        have HVa : Hid ((wr.alloc (.cells #[.int .i64 k, .int .i64 f, .int .i64 s, .int .i64 0] 71)).heap[wr.heap.size]? = some (.cells (Ru.cells ⟨⟨k, f, s⟩, 0⟩).toArray 71 (0, 0))) := alloc_at _ _ _ rfl
        have HSa : Hid (w3.heap.size ≤ (wr.alloc (.cells #[.int .i64 k, .int .i64 f, .int .i64 s, .int .i64 0] 71)).heap.size) := show _ ≤ _ from (by have := HB.out.size; simp; omega)
        go_wp2_with (at_builtin; refine wp_appR _ rfl _ _ rfl w3.heap.size _ out ⟨⟨k, f, s⟩, 0⟩ rfl HOa.out _ rfl HVa.out (Nat.le_trans HLn.out (by omega)) HSa.out ?_)
        intro va wa hown hgrow
        have HOp : Hid (OwnR w3.heap.size wa va (out ++ [⟨⟨k, f, s⟩, 0⟩])) := hown
        have HBp : Hid (Below w3.heap.size w3 wa) := below_grown (HB.out.alloc HB.out.size _) (Nat.le_refl _) hgrow.out (fun c hc => HO.out.from c hc)
        clear hown hgrow HOa HVa HSa e0 e1 e2 ef
        go_wp2_with fail
        go_ret2
        refine ⟨va, by rw [HR2.out]; rfl, ?_, B3.out.trans (HBp.out.mono B3.out.size)⟩
        rw [HR1.out]
        exact HOp.out.rus
      · have HR1 : Hid (R1 = out) := by
          show R1 = _
          rw [← H1.out, HEnd.out.2, if_pos rfl]
        clear HEnd HI
        go_wp2_with fail
        go_ret2
        refine ⟨v6, by rw [HR2.out]; rfl, ?_, B3.out.trans (HB.out.mono B3.out.size)⟩
        rw [HR1.out]
        exact HO.out.rus
end Go.Proofs.YtpelbmhhppcmeafDoor
