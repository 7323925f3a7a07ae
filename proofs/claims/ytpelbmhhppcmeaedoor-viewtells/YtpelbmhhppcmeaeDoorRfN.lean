/-
  The document's Add (mereref2) by its contract.
-/
import Derived.Test.YtpelbmhhppcmeaeDoorRfM
namespace Go.Proofs.YtpelbmhhppcmeaeDoor
set_option linter.unusedVariables false
set_option linter.unusedSimpArgs false
open Go.RowKit

/-- how far a member's adding has come -/
def AddInv (m : Mm) (l : List Mm) (j : Nat) (put : Bool) (out : List Mm) : Prop :=
  if put = true then out.length ≤ j + 1 ∧ addM m l = out ++ l.drop j ∧ isM m l = true ∧ ∀ x ∈ l.drop j, m.n < x.n else out.length ≤ j ∧ addM m l = out ++ addM m (l.drop j) ∧ isM m l = isM m (l.drop j)
theorem addInv_start (m : Mm) (l : List Mm) : AddInv m l 0 false [] := by
  unfold AddInv
  rw [if_neg (by simp), List.drop_zero]
  exact ⟨by simp, rfl, rfl⟩
theorem drop_rise {l : List Mm} (h : RiseM l) (j : Nat) (hj : j < l.length) : ∀ x ∈ l.drop (j + 1), l[j].n < x.n := by
  have h1 : RiseM (l.drop j) := List.Pairwise.sublist (List.drop_sublist _ _) h
  rw [List.drop_eq_getElem_cons hj] at h1
  exact (List.pairwise_cons.1 h1).1
theorem addInv_len {m : Mm} {l out : List Mm} {j : Nat} {put : Bool} (h : AddInv m l j put out) : out.length ≤ j + 1 := by
  unfold AddInv at h
  split at h
  · exact h.1
  · have := h.1
    omega
theorem addInv_same {m x : Mm} {l out : List Mm} {j : Nat} (hr : RiseM l) (hj : j < l.length) (hx : l[j] = x) (h : AddInv m l j false out) (he : x.n = m.n) (hn : nwB m x = true) : AddInv m l (j + 1) true (out ++ [m]) := by
  unfold AddInv at h ⊢
  rw [if_neg (by simp), List.drop_eq_getElem_cons hj, hx] at h
  obtain ⟨h0, h1, h2⟩ := h
  have hq := drop_rise hr j hj
  rw [hx] at hq
  rw [if_pos rfl]
  refine ⟨by simp; omega, ?_, ?_, fun y hy => by have := hq y hy; omega⟩
  · rw [h1, addM, if_pos he, if_pos hn]
    simp
  · rw [h2, isM_some (x := x), hn]
    rw [getM_cons, if_pos he]
theorem addInv_old {m x : Mm} {l out : List Mm} {j : Nat} (hr : RiseM l) (hj : j < l.length) (hx : l[j] = x) (h : AddInv m l j false out) (he : x.n = m.n) (hn : nwB m x = false) : addM m l = l ∧ isM m l = false := by
  unfold AddInv at h
  rw [if_neg (by simp), List.drop_eq_getElem_cons hj, hx] at h
  have hi : isM m l = false := by
    rw [h.2.2, isM_some (x := x), hn]
    rw [getM_cons, if_pos he]
  exact ⟨addM_self hr hi, hi⟩
theorem addInv_low {m x : Mm} {l out : List Mm} {j : Nat} (hj : j < l.length) (hx : l[j] = x) (h : AddInv m l j false out) (he : x.n < m.n) : AddInv m l (j + 1) false (out ++ [x]) := by
  unfold AddInv at h ⊢
  rw [if_neg (by simp), List.drop_eq_getElem_cons hj, hx] at h
  obtain ⟨h0, h1, h2⟩ := h
  rw [if_neg (by simp)]
  refine ⟨by simp; omega, ?_, ?_⟩
  · rw [h1, addM, if_neg (by omega), if_neg (by omega)]
    simp
  · rw [h2]
    unfold isM
    rw [getM_cons, if_neg (by omega)]
theorem addInv_high {m x : Mm} {l out : List Mm} {j : Nat} (hr : RiseM l) (hj : j < l.length) (hx : l[j] = x) (h : AddInv m l j false out) (he : m.n < x.n) : AddInv m l (j + 1) true ((out ++ [m]) ++ [x]) := by
  unfold AddInv at h ⊢
  rw [if_neg (by simp), List.drop_eq_getElem_cons hj, hx] at h
  obtain ⟨h0, h1, h2⟩ := h
  have hq := drop_rise hr j hj
  rw [hx] at hq
  rw [if_pos rfl]
  refine ⟨by simp; omega, ?_, ?_, fun y hy => by have := hq y hy; omega⟩
  · rw [h1, addM, if_neg (by omega), if_pos he]
    simp
  · rw [h2]
    refine isM_none (getM_none fun y hy => ?_)
    rcases List.mem_cons.1 hy with rfl | hy
    · omega
    · have := hq y hy
      omega
theorem addInv_behind {m x : Mm} {l out : List Mm} {j : Nat} (hj : j < l.length) (hx : l[j] = x) (h : AddInv m l j true out) : m.n < x.n ∧ AddInv m l (j + 1) true (out ++ [x]) := by
  unfold AddInv at h ⊢
  rw [if_pos rfl, List.drop_eq_getElem_cons hj, hx] at h
  obtain ⟨h0, h1, h2, h3⟩ := h
  rw [if_pos rfl]
  refine ⟨h3 x (by simp), by simp; omega, ?_, h2, fun y hy => h3 y (List.mem_cons_of_mem _ hy)⟩
  rw [h1]
  simp
theorem addInv_end {m : Mm} {l out : List Mm} {j : Nat} {put : Bool} (hj : l.length ≤ j) (h : AddInv m l j put out) : isM m l = true ∧ addM m l = if put = true then out else out ++ [m] := by
  unfold AddInv at h
  rw [List.drop_eq_nil_of_le hj] at h
  cases put
  · rw [if_neg (by simp)] at h
    rw [if_neg (by simp)]
    exact ⟨h.2.2, h.2.1⟩
  · rw [if_pos rfl] at h
    rw [if_pos rfl]
    exact ⟨h.2.2.1, by rw [h.2.1]; simp⟩
set_option maxRecDepth 100000 in
set_option maxHeartbeats 8000000 in
theorem rAdd_c (v : Value) (l : List Mm) (k f s : Int) (R1 : List Mm) (R2 : Bool) (w : World) (hr : MmsIs w v l) (hg : RiseM l) (hl : l.length ≤ 100) (h1 : addM ⟨k, f, s⟩ l = R1) (h2 : isM ⟨k, f, s⟩ l = R2) :
    Calls Tryd.prog 29 #[v, .agg #[.int .i64 k, .int .i64 f, .int .i64 s]] w fun e w' => ∃ v', e = .returned (.tuple #[v', .bool R2]) ∧ MmsIs w' v' R1 ∧ Below w.heap.size w w' := by
  have HV : Hid (MmsIs w v l) := hr
  have HG : Hid (RiseM l) := hg
  have H1 : Hid (addM ⟨k, f, s⟩ l = R1) := h1
  have H2 : Hid (isM ⟨k, f, s⟩ l = R2) := h2
  obtain ⟨hlen, p, cap, rfl, hrow⟩ := hr
  have HRow : Hid (l ≠ [] → ∃ b o, p = some ⟨b, o, none⟩ ∧ b < w.heap.size ∧ ∀ j (h : j < l.length), MmAt w b (o + j * 3) l[j]) := hrow
  clear hrow hg h1 h2
  obtain ⟨n, HN⟩ : ∃ n, Hid (l.length = n) := ⟨_, rfl⟩
  rw [HN.out] at hlen hl HV ⊢
  obtain ⟨w3, HW3⟩ : ∃ x, x = w.alloc (.cells #[.int .i64 k, .int .i64 f, .int .i64 s] 57) := ⟨_, rfl⟩
  have B3 : Hid (Below w.heap.size w w3) := by rw [HW3]; exact (Below.refl _ _).alloc (Nat.le_refl _) _
  have X3 : Hid (BoxM w3 w.heap.size k f s) := by rw [HW3]; exact boxM_new w k f s _ rfl
  go_enter Tryd.func29, Tryd.ntmps29
  go_upto_region 1 with fail
  rw [← HW3]
  clear HW3
  go_wp2_with fail
  go_loopw [6, 7, 8, 9] (fun s6 s7 s8 s9 wr => ∃ (j : Nat) (put : Bool) (out : List Mm) (v6 v9 : Value), s6 = v6 ∧ s7 = .bool put ∧ s8 = .int .i64 j ∧ s9 = v9 ∧ j ≤ n ∧ Hid (OwnM w3.heap.size wr v6 out) ∧ Hid (AddInv ⟨k, f, s⟩ l j put out) ∧ Hid (Below w3.heap.size w3 wr)) (fun _ _ i _ _ => n - (intOf i).toNat)
  case atStart => exact ⟨0, false, [], _, _, rfl, rfl, rfl, rfl, Nat.zero_le _, OwnM.nil _ _, addInv_start _ _, Below.refl _ _⟩
  case round =>
    obtain ⟨j, put, out, v6, v9, hs6, rfl, rfl, hs9, hj, HO, HI, HB⟩ := hrel
    have hs6' := hs6.symm
    clear hs6
    subst hs6'
    have hs9' := hs9.symm
    clear hs9
    subst hs9'
    by_cases hlt : j < n
    · have hl0 : l ≠ [] := by intro h; have := HN.out; rw [h] at this; simp at this; omega
      obtain ⟨b, o, rfl, hbw, hat⟩ := HRow.out hl0
      have hjl : j < l.length := by rw [HN.out]; exact hlt
      have HAt : Hid (∀ W, Below w3.heap.size w3 W → MmAt W b (o + j * 3) l[j]) := fun W hW => ((hat j hjl).of_block (B3.out.block b hbw)).of_block (hW.block b (Nat.lt_of_lt_of_le hbw B3.out.size))
      have HBx : Hid (∀ W, Below w3.heap.size w3 W → BoxM W w.heap.size k f s) := fun W hW => X3.out.below hW X3.out.lt
      clear hat
      have hws := HB.out.size
      obtain ⟨x, HX⟩ : ∃ x, Hid (l[j] = x) := ⟨l[j], show l[j] = l[j] from rfl⟩
      rw [HX.out] at HAt
      obtain ⟨x0, x1, x2⟩ := x
      have hlti : (j : Int) < (n : Int) := by omega
      have HLn : Hid (out.length ≤ 1000) := by
        show _ ≤ _
        have := addInv_len HI.out
        omega
      obtain ⟨c0, c1, c2⟩ := HAt.out wr HB.out
      obtain ⟨e0, e1, e2, ef⟩ := HBx.out wr HB.out
      dsimp only at c0 c1 c2
      go_upto_region 6 with fail
      go_cut [23] (fun c wc => ∃ cb : Bool, c = .bool cb ∧ Hid (cb = (x0 == k)) ∧ Hid (Below wr.heap.size wr wc))
      case first =>
        go_region
        all_goals go_wp2_with fail
        all_goals go_meet
        all_goals exact ⟨_, rfl, rfl, (Below.refl _ wr).drew⟩
      case rest =>
      obtain ⟨w4, h⟩ : ∃ x, x = wc := ⟨_, rfl⟩
      subst h
      obtain ⟨cb, rfl, HCb, HB4'⟩ := hcut
      have HB4 : Hid (Below w3.heap.size w3 w4) := HB.out.trans (HB4'.out.mono hws)
      have HO4 : Hid (OwnM w3.heap.size w4 v6 out) := HO.out.below HB4'.out
      clear c0 c1 c2 e0 e1 e2 ef HB4' HO HB
      by_cases he : x0 = k
      · have HCt : Hid (cb = true) := by
          show cb = true
          rw [HCb.out]
          simp [he]
        have HE : Hid (x0 = k) := he
        clear he
        rw [HCt.out]
        have hpf : put = false := by
          cases put
          · rfl
          · have h := (addInv_behind hjl HX.out HI.out).1
            have h' := HE.out
            dsimp only at h
            omega
        subst hpf
        obtain ⟨c0, c1, c2⟩ := HAt.out w4 HB4.out
        obtain ⟨e0, e1, e2, ef⟩ := HBx.out w4 HB4.out
        dsimp only at c0 c1 c2
        obtain ⟨q, HQ⟩ : ∃ q, Hid (nwB ⟨k, f, s⟩ ⟨x0, x1, x2⟩ = q) := ⟨_, rfl⟩
        go_upto_region 7 with fail
        go_cut [9] (fun c wc => ∃ cb : Bool, c = .bool cb ∧ Hid (cb = q) ∧ Hid (Below w4.heap.size w4 wc))
        case first =>
          go_region_with (go_at_call 26; refine (rNewer_b _ _ _ _ _ _ q _ HQ.out).mono ?_; rintro e w7 ⟨rfl, hb7⟩; have HB7 : Hid (Below w4.heap.size w4 w7) := below_undrew hb7; clear hb7)
          all_goals go_wp2_with fail
          all_goals go_meet
          all_goals exact ⟨_, rfl, rfl, HB7⟩
        case rest =>
        obtain ⟨w5, h⟩ : ∃ x, x = wc := ⟨_, rfl⟩
        subst h
        obtain ⟨cb, rfl, HCb, HB5'⟩ := hcut
        have HB5 : Hid (Below w3.heap.size w3 w5) := HB4.out.trans (HB5'.out.mono HB4.out.size)
        have HO5 : Hid (OwnM w3.heap.size w5 v6 out) := HO4.out.below HB5'.out
        clear c0 c1 c2 e0 e1 e2 ef HB5' HO4 HB4
        rw [HCb.out]
        cases q
        · obtain ⟨ha, hi⟩ := addInv_old HG.out hjl HX.out HI.out HE.out HQ.out
          have HR1 : Hid (R1 = l) := H1.out.symm.trans ha
          have HR2 : Hid (R2 = false) := H2.out.symm.trans hi
          clear ha hi
          have HBw : Hid (Below w.heap.size w w5) := B3.out.trans (HB5.out.mono B3.out.size)
          go_wp2_with fail
          go_ret2
          refine ⟨.slice (some ⟨b, o, none⟩) n cap, by rw [HR2.out]; rfl, ?_, HBw.out⟩
          rw [HR1.out]
          exact HV.out.below HBw.out
        · have HI6 : Hid (AddInv ⟨k, f, s⟩ l (j + 1) true (out ++ [⟨k, f, s⟩])) := addInv_same HG.out hjl HX.out HI.out HE.out HQ.out
          obtain ⟨e0, e1, e2, ef⟩ := HBx.out w5 HB5.out
          have HOa : Hid (OwnM w3.heap.size (w5.alloc (.cells #[.int .i64 k, .int .i64 f, .int .i64 s] 57)) v6 out) := HO5.out.below ((Below.refl _ _).alloc (Nat.le_refl _) _)
          have HVa : Hid ((w5.alloc (.cells #[.int .i64 k, .int .i64 f, .int .i64 s] 57)).heap[w5.heap.size]? = some (.cells (Mm.cells ⟨k, f, s⟩).toArray 57 (0, 0))) := alloc_at _ _ _ rfl
          have HSa : Hid (w3.heap.size ≤ (w5.alloc (.cells #[.int .i64 k, .int .i64 f, .int .i64 s] 57)).heap.size) := show _ ≤ _ from (by have := HB5.out.size; simp; omega)
          go_wp2_with (at_builtin; refine wp_appM _ rfl _ _ rfl w3.heap.size _ out ⟨k, f, s⟩ rfl HOa.out _ rfl HVa.out (Nat.le_trans HLn.out (by omega)) HSa.out ?_)
          intro va wa hown hgrow
          have HOp : Hid (OwnM w3.heap.size wa va (out ++ [⟨k, f, s⟩])) := hown
          have HBp : Hid (Below w3.heap.size w3 wa) := below_grown (HB5.out.alloc HB5.out.size _) (Nat.le_refl _) hgrow.out (fun c hc => HO5.out.from c hc)
          clear hown hgrow HOa HVa HSa e0 e1 e2 ef
          go_wp2_with fail
          go_roundw
          case rel => exact ⟨j + 1, true, _, _, _, rfl, rfl, by go_num, rfl, by omega, HOp, HI6, HBp⟩
          case measure => simp [intOf]; omega
      · have HCf : Hid (cb = false) := by
          show cb = false
          rw [HCb.out]
          simpa using he
        rw [HCf.out]
        obtain ⟨c0, c1, c2⟩ := HAt.out w4 HB4.out
        obtain ⟨e0, e1, e2, ef⟩ := HBx.out w4 HB4.out
        dsimp only at c0 c1 c2
        go_upto_region 12 with fail
        go_cut [48] (fun c wc => ∃ cb : Bool, c = .bool cb ∧ Hid (cb = (decide (k < x0) && !put)) ∧ Hid (Below w4.heap.size w4 wc))
        case first =>
          by_cases hkx : k < x0
          · have hkd : decide (k < x0) = true := decide_eq_true hkx
            go_region
            all_goals go_wp2_with fail
            all_goals go_meet
            all_goals exact ⟨_, rfl, by rw [hkd]; rfl, (Below.refl _ w4).drew⟩
          · have hkd : decide (k < x0) = false := decide_eq_false hkx
            go_region
            all_goals go_wp2_with fail
            all_goals go_meet
            all_goals exact ⟨_, rfl, by rw [hkd]; rfl, (Below.refl _ w4).drew⟩
        case rest =>
        obtain ⟨w5, h⟩ : ∃ x, x = wc := ⟨_, rfl⟩
        subst h
        obtain ⟨cb, rfl, HCb, HB5'⟩ := hcut
        have HB5 : Hid (Below w3.heap.size w3 w5) := HB4.out.trans (HB5'.out.mono HB4.out.size)
        have HO5 : Hid (OwnM w3.heap.size w5 v6 out) := HO4.out.below HB5'.out
        clear c0 c1 c2 e0 e1 e2 ef HB5' HO4 HB4
        go_upto_if 48 with fail
        go_cut [6, 7] (fun u6 u7 wc => ∃ (v6 : Value) (p7 : Bool) (out2 : List Mm), u6 = v6 ∧ u7 = .bool p7 ∧ Hid (OwnM w3.heap.size wc v6 out2) ∧ Hid (out2.length ≤ 1001) ∧ Hid (AddInv ⟨k, f, s⟩ l (j + 1) p7 (out2 ++ [⟨x0, x1, x2⟩])) ∧ Hid (Below w3.heap.size w3 wc))
        case first =>
          cases put
          · by_cases hkx : k < x0
            · have HCt : Hid (cb = true) := by
                show cb = true
                rw [HCb.out, decide_eq_true hkx]
                rfl
              rw [HCt.out]
              have HI6 : Hid (AddInv ⟨k, f, s⟩ l (j + 1) true ((out ++ [⟨k, f, s⟩]) ++ [⟨x0, x1, x2⟩])) := addInv_high HG.out hjl HX.out HI.out hkx
              obtain ⟨e0, e1, e2, ef⟩ := HBx.out w5 HB5.out
              have HOa : Hid (OwnM w3.heap.size (w5.alloc (.cells #[.int .i64 k, .int .i64 f, .int .i64 s] 57)) v6 out) := HO5.out.below ((Below.refl _ _).alloc (Nat.le_refl _) _)
              have HVa : Hid ((w5.alloc (.cells #[.int .i64 k, .int .i64 f, .int .i64 s] 57)).heap[w5.heap.size]? = some (.cells (Mm.cells ⟨k, f, s⟩).toArray 57 (0, 0))) := alloc_at _ _ _ rfl
              have HSa : Hid (w3.heap.size ≤ (w5.alloc (.cells #[.int .i64 k, .int .i64 f, .int .i64 s] 57)).heap.size) := show _ ≤ _ from (by have := HB5.out.size; simp; omega)
              have HL6 : Hid ((out ++ [(⟨k, f, s⟩ : Mm)]).length ≤ 1001) := by
                show _ ≤ _
                have := HLn.out
                simp
                omega
              go_wp2_with (at_builtin; refine wp_appM _ rfl _ _ rfl w3.heap.size _ out ⟨k, f, s⟩ rfl HOa.out _ rfl HVa.out (Nat.le_trans HLn.out (by omega)) HSa.out ?_)
              intro va wa hown hgrow
              have HOp : Hid (OwnM w3.heap.size wa va (out ++ [⟨k, f, s⟩])) := hown
              have HBp : Hid (Below w3.heap.size w3 wa) := below_grown (HB5.out.alloc HB5.out.size _) (Nat.le_refl _) hgrow.out (fun c hc => HO5.out.from c hc)
              clear hown hgrow HOa HVa HSa e0 e1 e2 ef
              go_wp2_with fail
              go_meet
              case rel => exact ⟨_, true, _, rfl, rfl, HOp, HL6, HI6, HBp⟩
            · have HCf' : Hid (cb = false) := by
                show cb = false
                rw [HCb.out, decide_eq_false hkx]
                rfl
              rw [HCf'.out]
              have HI6 : Hid (AddInv ⟨k, f, s⟩ l (j + 1) false (out ++ [⟨x0, x1, x2⟩])) := addInv_low hjl HX.out HI.out (by dsimp only; omega)
              go_wp2_with fail
              go_meet
              case rel => exact ⟨_, false, out, rfl, rfl, HO5, Nat.le_trans HLn.out (by omega), HI6, HB5⟩
          · have HCf' : Hid (cb = false) := by
              show cb = false
              rw [HCb.out]
              simp
            rw [HCf'.out]
            have HI6 : Hid (AddInv ⟨k, f, s⟩ l (j + 1) true (out ++ [⟨x0, x1, x2⟩])) := (addInv_behind hjl HX.out HI.out).2
            go_wp2_with fail
            go_meet
            case rel => exact ⟨_, true, out, rfl, rfl, HO5, Nat.le_trans HLn.out (by omega), HI6, HB5⟩
        case rest =>
        obtain ⟨w6, h⟩ : ∃ x, x = wc := ⟨_, rfl⟩
        subst h
        obtain ⟨u6, p7, out2, hu6, rfl, HO6, HL6, HI6, HB6⟩ := hcut
        have hu6' := hu6.symm
        clear hu6 HO5 HB5 HI
        subst hu6'
        obtain ⟨c0, c1, c2⟩ := HAt.out w6 HB6.out
        dsimp only at c0 c1 c2
        have HOa : Hid (OwnM w3.heap.size (w6.alloc (.cells #[.int .i64 x0, .int .i64 x1, .int .i64 x2] 57)) u6 out2) := HO6.out.below ((Below.refl _ _).alloc (Nat.le_refl _) _)
        have HVa : Hid ((w6.alloc (.cells #[.int .i64 x0, .int .i64 x1, .int .i64 x2] 57)).heap[w6.heap.size]? = some (.cells (Mm.cells ⟨x0, x1, x2⟩).toArray 57 (0, 0))) := alloc_at _ _ _ rfl
        have HSa : Hid (w3.heap.size ≤ (w6.alloc (.cells #[.int .i64 x0, .int .i64 x1, .int .i64 x2] 57)).heap.size) := show _ ≤ _ from (by have := HB6.out.size; simp; omega)
        go_wp2_with (at_builtin; refine wp_appM _ rfl _ _ rfl w3.heap.size _ out2 ⟨x0, x1, x2⟩ rfl HOa.out _ rfl HVa.out (Nat.le_trans HL6.out (by omega)) HSa.out ?_)
        intro va wa hown hgrow
        have HOp : Hid (OwnM w3.heap.size wa va (out2 ++ [⟨x0, x1, x2⟩])) := hown
        have HBp : Hid (Below w3.heap.size w3 wa) := below_grown (HB6.out.alloc HB6.out.size _) (Nat.le_refl _) hgrow.out (fun c hc => HO6.out.from c hc)
        clear hown hgrow HOa HVa HSa c0 c1 c2
        go_wp2_with fail
        go_roundw
        case rel => exact ⟨j + 1, p7, _, _, _, rfl, rfl, by go_num, rfl, by omega, HOp, HI6, HBp⟩
        case measure => simp [intOf]; omega
    · obtain rfl : j = n := by omega
      have HEnd : Hid _ := addInv_end (by rw [HN.out]; exact Nat.le_refl _) HI.out
      have HR2 : Hid (R2 = true) := H2.out.symm.trans HEnd.out.1
      have HLn : Hid (out.length ≤ 1000) := by
        show _ ≤ _
        have := addInv_len HI.out
        omega
      cases put
      · have HR1 : Hid (R1 = out ++ [⟨k, f, s⟩]) := by
          show R1 = _
          rw [← H1.out, HEnd.out.2, if_neg (by simp)]
        clear HEnd HI
        obtain ⟨e0, e1, e2, ef⟩ := X3.out.below HB.out X3.out.lt
        have HOa : Hid (OwnM w3.heap.size (wr.alloc (.cells #[.int .i64 k, .int .i64 f, .int .i64 s] 57)) v6 out) := HO.out.below ((Below.refl _ _).alloc (Nat.le_refl _) _)
        have HVa : Hid ((wr.alloc (.cells #[.int .i64 k, .int .i64 f, .int .i64 s] 57)).heap[wr.heap.size]? = some (.cells (Mm.cells ⟨k, f, s⟩).toArray 57 (0, 0))) := alloc_at _ _ _ rfl
        have HSa : Hid (w3.heap.size ≤ (wr.alloc (.cells #[.int .i64 k, .int .i64 f, .int .i64 s] 57)).heap.size) := show _ ≤ _ from (by have := HB.out.size; simp; omega)
        go_wp2_with (at_builtin; refine wp_appM _ rfl _ _ rfl w3.heap.size _ out ⟨k, f, s⟩ rfl HOa.out _ rfl HVa.out (Nat.le_trans HLn.out (by omega)) HSa.out ?_)
        intro va wa hown hgrow
        have HOp : Hid (OwnM w3.heap.size wa va (out ++ [⟨k, f, s⟩])) := hown
        have HBp : Hid (Below w3.heap.size w3 wa) := below_grown (HB.out.alloc HB.out.size _) (Nat.le_refl _) hgrow.out (fun c hc => HO.out.from c hc)
        clear hown hgrow HOa HVa HSa e0 e1 e2 ef
        go_wp2_with fail
        go_ret2
        refine ⟨va, by rw [HR2.out]; rfl, ?_, B3.out.trans (HBp.out.mono B3.out.size)⟩
        rw [HR1.out]
        exact HOp.out.mms
      · have HR1 : Hid (R1 = out) := by
          show R1 = _
          rw [← H1.out, HEnd.out.2, if_pos rfl]
        clear HEnd HI
        go_wp2_with fail
        go_ret2
        refine ⟨v6, by rw [HR2.out]; rfl, ?_, B3.out.trans (HB.out.mono B3.out.size)⟩
        rw [HR1.out]
        exact HO.out.mms
end Go.Proofs.YtpelbmhhppcmeaeDoor
