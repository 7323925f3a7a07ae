/-
  The document's hints: Add, by its contract.
-/
import Derived.Test.YtkhdeaegbkenfaiDoorRhP
import Derived.Test.YtkhdeaegbkenfaiDoorHnK
import Derived.BigRegion
import Derived.BigQuiet
import Derived.Deep.DeepCutAuto
import Derived.Deep.CutBlock
import Derived.Deep.LoopGhost
import Derived.WalkSmall
namespace Go.Proofs.YtkhdeaegbkenfaiDoor
set_option linter.unusedVariables false
set_option linter.unusedSimpArgs false
open Go.RowKit

theorem off_step (x : Hn) (l : List Hn) (j : Nat) (h : j < l.length) : offH x (l.take (j + 1)) = offH x (l.take j) ++ (if hSame x l[j] = true then [] else [l[j]]) := by
  rw [List.take_succ_eq_append_getElem h, offH, offH, List.filter_append]
  cases hb : hSame x l[j] <;> simp [hb]
theorem newer_step (x : Hn) (l : List Hn) (j : Nat) (h : j < l.length) : newerH x (l.take (j + 1)) = (newerH x (l.take j) || (hSame x l[j] && decide (x.v < l[j].v))) := by
  rw [List.take_succ_eq_append_getElem h, newerH, newerH, List.any_append]
  simp
theorem newer_in {x : Hn} {l : List Hn} {j : Nat} (h : j < l.length) (h1 : hSame x l[j] = true) (h2 : x.v < l[j].v) : newerH x l = true :=
  List.any_eq_true.2 ⟨l[j], List.getElem_mem h, by simp [h1, h2]⟩
theorem HnsIs.tail {w : World} {G cap cap' m : Nat} {l : List Hn} (h : HnsIs w (.slice (some ⟨G, 0, none⟩) (m + 1) cap) l) : HnsIs w (.slice (some ⟨G, 3, none⟩) m cap') l.tail := by
  obtain ⟨h0, p, c, e, h1⟩ := h
  injection e with e1 e2 e3
  have hlen : l.tail.length = m := by rw [List.length_tail]; omega
  refine ⟨by omega, _, cap', by rw [hlen], fun _ => ?_⟩
  obtain ⟨g, o, e4, hlt, hc⟩ := h1 (fun e0 => by rw [e0] at e2; simp at e2)
  rw [← e1] at e4
  injection e4 with e4
  injection e4 with e5 e6 _
  subst e5 e6
  refine ⟨G, 3, rfl, hlt, fun j hj => ?_⟩
  have hj' : j + 1 < l.length := by omega
  have e7 : l.tail[j] = l[j + 1] := by rw [List.getElem_tail]
  have := hc (j + 1) hj'
  rw [e7, show 3 + j * 3 = 0 + (j + 1) * 3 by omega]
  exact this
set_option maxRecDepth 100000 in
set_option maxHeartbeats 16000000 in
theorem rhAdd_n {S : Nat → Prop} {w : World} {b : Nat} {l l' : List Hn} {n n' : Nat} {x0 x1 x2 m : Int} (h : RhAt S w b l n) (hl : l.length ≤ 10) (hn : n ≤ 1000000) (hm : addE ⟨x0, x1, x2⟩ = m) (hl' : addH ⟨x0, x1, x2⟩ l = l') (hn' : n + addN ⟨x0, x1, x2⟩ l = n') :
    Calls Tryd.prog 5 #[.pointer (some ⟨b, 0, none⟩), .agg #[.int .i64 x0, .int .i64 x1, .int .i64 x2]] w fun e w' => e = .returned (.int .i64 m) ∧ RhTo S w w' b l' n' := by
  obtain ⟨v, h⟩ := h
  have HM : Hid (addE ⟨x0, x1, x2⟩ = m) := hm
  have HL' : Hid (addH ⟨x0, x1, x2⟩ l = l') := hl'
  have HN' : Hid (n + addN ⟨x0, x1, x2⟩ l = n') := hn'
  clear hm hl' hn'
  obtain ⟨hlen, p, cap, rfl, hrow⟩ := h.row
  have HRow : Hid (l ≠ [] → ∃ g o, p = some ⟨g, o, none⟩ ∧ g < w.heap.size ∧ ∀ j (h : j < l.length), HnAt w g (o + j * 3) l[j]) := hrow
  clear hrow
  obtain ⟨nl, HNl⟩ : ∃ k, Hid (l.length = k) := ⟨_, rfl⟩
  rw [HNl.out] at hlen hl h
  have HR : Hid (Rh S w b (.slice p nl cap) l n) := h
  have lb : b < w.heap.size := h.lt b h.s0
  clear h hlen
  obtain ⟨ok, HOk⟩ : ∃ c, Hid (Hn.ok ⟨x0, x1, x2⟩ = c) := ⟨_, rfl⟩
  obtain ⟨kb, HKb⟩ : ∃ c, Hid (isK x1 = c) := ⟨_, rfl⟩
  obtain ⟨w1, HW1⟩ : ∃ x, x = w.alloc (.cells #[.int .i64 x0, .int .i64 x1, .int .i64 x2] 32) := ⟨_, rfl⟩
  have B1 : Hid (Below w.heap.size w w1) := by rw [HW1]; exact (Below.refl _ _).alloc (Nat.le_refl _) _
  have X1 : Hid (BoxH w1 w.heap.size x0 x1 x2) := by rw [HW1]; exact boxH_new w x0 x1 x2 _ rfl
  go_enter Tryd.func5, Tryd.ntmps5
  go_upto_region 1 with fail
  rw [← HW1]
  clear HW1
  obtain ⟨e0, e1, e2, ef⟩ := X1.out
  go_wp2_with fail
  refine (refKey_b x1 kb _ HKb.out).mono ?_
  rintro e w2 ⟨rfl, rfl⟩
  go_upto_region 2 with fail
  go_cut [33] (fun c wc => wc = w1 ∧ c = .bool (!ok))
  case first =>
    have HO2 : Hid ((((decide (0 ≤ x0) && decide (x0 ≤ 5)) && kb) && (decide (1 ≤ x2) && decide (x2 ≤ 1000))) = ok) := by
      have h7 : decide (x1 ≤ 7) = decide (x1 < 8) := decide_eq_decide.2 ⟨fun h => by omega, fun h => by omega⟩
      have := HOk.out
      unfold Hn.ok at this
      dsimp only at this
      rw [h7] at this
      show _ = _
      rw [← HKb.out, ← this]
      unfold isK
      rfl
    cases h0 : decide (x0 < 0)
    · have g0 : decide (0 ≤ x0) = true := by simp at h0 ⊢; omega
      cases h1 : decide (5 < x0)
      · have g1 : decide (x0 ≤ 5) = true := by simp at h1 ⊢; omega
        cases kb
        · have HC : Hid ((!ok) = true) := by show _ = _; rw [← HO2.out, g0, g1]; rfl
          go_wp2_with fail
          go_meet
          case rel => exact ⟨rfl, by rw [HC.out]⟩
        · cases h2 : decide (x2 < 1)
          · have g2 : decide (1 ≤ x2) = true := by simp at h2 ⊢; omega
            have g3 : decide (1000 < x2) = !decide (x2 ≤ 1000) := by
              by_cases hh : x2 ≤ 1000
              · simp [hh]
              · simp [hh]; omega
            have HC : Hid ((!ok) = decide (1000 < x2)) := by show _ = _; rw [← HO2.out, g0, g1, g2, g3]; simp
            clear g0 g1 g2 g3
            go_wp2_with fail
            go_meet
            case rel => exact ⟨rfl, by rw [HC.out]⟩
          · have g2 : decide (1 ≤ x2) = false := by simp at h2 ⊢; omega
            have HC : Hid ((!ok) = true) := by show _ = _; rw [← HO2.out, g0, g1, g2]; rfl
            go_wp2_with fail
            go_meet
            case rel => exact ⟨rfl, by rw [HC.out]⟩
      · have g1 : decide (x0 ≤ 5) = false := by simp at h1 ⊢; omega
        have HC : Hid ((!ok) = true) := by show _ = _; rw [← HO2.out, g0, g1]; rfl
        go_wp2_with fail
        go_meet
        case rel => exact ⟨rfl, by rw [HC.out]⟩
    · have g0 : decide (0 ≤ x0) = false := by simp at h0 ⊢; omega
      have HC : Hid ((!ok) = true) := by show _ = _; rw [← HO2.out, g0]; rfl
      go_wp2_with fail
      go_meet
      case rel => exact ⟨rfl, by rw [HC.out]⟩
  case rest =>
  obtain ⟨hwc, rfl⟩ := hcut
  have hwc' := hwc.symm
  subst hwc'
  cases ok
  · have HE : Hid (m = 1) := HM.out.symm.trans (by rw [addE, HOk.out]; rfl)
    have HLe : Hid (l' = l) := HL'.out.symm.trans (by rw [addH, HOk.out]; rfl)
    have HNe : Hid (n' = n) := HN'.out.symm.trans (by rw [addN, HOk.out]; simp)
    go_wp2_with fail
    go_ret
    refine ⟨by rw [HE.out]; rfl, ?_⟩
    rw [HLe.out, HNe.out]
    exact RhAt.to ⟨_, HR.out⟩ B1.out
  · have HE : Hid (m = 0) := HM.out.symm.trans (by rw [addE, HOk.out]; rfl)
    have HLe : Hid (putH ⟨x0, x1, x2⟩ l = l') := by have := HL'.out; rw [addH, HOk.out, if_pos rfl] at this; exact this
    have HNe : Hid (n' = n + (if lostH ⟨x0, x1, x2⟩ l = true then 1 else 0)) := HN'.out.symm.trans (by rw [addN, HOk.out]; simp)
    clear HM HL' HN' HOk HKb e0 e1 e2 ef
    go_wp2_with fail
    go_loopw [6, 7, 8] (fun c6 c7 c8 wr => ∃ (j : Nat) (v6 v8 : Value), j ≤ nl ∧ c6 = v6 ∧ c7 = .int .i64 j ∧ c8 = v8 ∧ Hid (newerH ⟨x0, x1, x2⟩ (l.take j) = false) ∧ Hid (OwnH w1.heap.size wr v6 (offH ⟨x0, x1, x2⟩ (l.take j))) ∧ Hid (Below w1.heap.size w1 wr)) (fun _ c7 _ _ => nl - (intOf c7).toNat)
    case atStart => exact ⟨0, _, _, Nat.zero_le _, rfl, rfl, rfl, rfl, OwnH.nil _ _, Below.refl _ _⟩
    case round =>
      obtain ⟨j, v6, v8, hj, hs6, rfl, hs8, HNw, HO, HB⟩ := hrel
      have hs6' := hs6.symm
      clear hs6
      subst hs6'
      have hs8' := hs8.symm
      clear hs8
      subst hs8'
      have HBw : Hid (Below w.heap.size w wr) := B1.out.trans (HB.out.mono B1.out.size)
      have k0 : wr.cell? ⟨b, 0, none⟩ = some (.slice p nl cap) := (World.cell?_of_block (a := ⟨b, 0, none⟩) (HBw.out.block b lb)).trans HR.out.c0
      by_cases hlt : j < nl
      · have hl0 : l ≠ [] := by intro h; have := HNl.out; rw [h] at this; simp at this; omega
        obtain ⟨g, o, rfl, hgw, hat⟩ := HRow.out hl0
        have hjl : j < l.length := by rw [HNl.out]; exact hlt
        have HAt : Hid (HnAt wr g (o + j * 3) l[j]) := (hat j hjl).of_block (HBw.out.block g hgw)
        clear hat hl0
        obtain ⟨y, HY⟩ : ∃ y, Hid (l[j] = y) := ⟨l[j], show l[j] = l[j] from rfl⟩
        rw [HY.out] at HAt
        obtain ⟨y0, y1, y2⟩ := y
        obtain ⟨c0, c1, c2⟩ := HAt.out
        dsimp only at c0 c1 c2
        have hlti : (j : Int) < (nl : Int) := by omega
        have hgr : g < wr.heap.size := Nat.lt_of_lt_of_le hgw HBw.out.size
        go_upto_region 9 with fail
        obtain ⟨w3, HW3⟩ : ∃ x, x = wr.alloc (.cells #[.int .i64 y0, .int .i64 y1, .int .i64 y2] 32) := ⟨_, rfl⟩
        rw [← HW3]
        have B3' : Hid (Below wr.heap.size wr w3) := by rw [HW3]; exact (Below.refl _ _).alloc (Nat.le_refl _) _
        have Y3 : Hid (BoxH w3 wr.heap.size y0 y1 y2) := by rw [HW3]; exact boxH_new wr y0 y1 y2 _ rfl
        have X3 : Hid (BoxH w3 w.heap.size x0 x1 x2) := X1.out.below (HB.out.trans (B3'.out.mono HB.out.size)) X1.out.lt
        have HB3 : Hid (Below w1.heap.size w1 w3) := HB.out.trans (B3'.out.mono HB.out.size)
        have HO3 : Hid (OwnH w1.heap.size w3 v6 (offH ⟨x0, x1, x2⟩ (l.take j))) := HO.out.below B3'.out
        have HOs : Hid (offH ⟨x0, x1, x2⟩ (l.take (j + 1)) = offH ⟨x0, x1, x2⟩ (l.take j) ++ (if hSame ⟨x0, x1, x2⟩ ⟨y0, y1, y2⟩ = true then [] else [⟨y0, y1, y2⟩])) := by
          have := off_step ⟨x0, x1, x2⟩ l j hjl
          rw [HY.out] at this
          exact this
        have HNs : Hid (newerH ⟨x0, x1, x2⟩ (l.take (j + 1)) = (hSame ⟨x0, x1, x2⟩ ⟨y0, y1, y2⟩ && decide (x2 < y2))) := by
          have := newer_step ⟨x0, x1, x2⟩ l j hjl
          rw [HY.out, HNw.out, Bool.false_or] at this
          exact this
        have HNi : Hid (hSame ⟨x0, x1, x2⟩ ⟨y0, y1, y2⟩ = true → x2 < y2 → newerH ⟨x0, x1, x2⟩ l = true) := fun h1 h2 => newer_in hjl (by rw [HY.out]; exact h1) (by rw [HY.out]; exact h2)
        have HLn : Hid ((offH ⟨x0, x1, x2⟩ (l.take j)).length ≤ 2000) := by
          have e1 := (off_sub ⟨x0, x1, x2⟩ (l.take j)).length_le
          rw [List.length_take, HNl.out] at e1
          show _ ≤ _
          omega
        obtain ⟨sb, HSb⟩ : ∃ c, Hid (hSame ⟨x0, x1, x2⟩ ⟨y0, y1, y2⟩ = c) := ⟨_, rfl⟩
        rw [HSb.out] at HOs HNs HNi
        clear HW3 c0 c1 c2 HB HO B3' HAt k0 hgr
        obtain ⟨f0, f1, f2, ff⟩ := Y3.out
        obtain ⟨e0, e1, e2, ef⟩ := X3.out
        go_cut [61] (fun c wc => wc = w3 ∧ c = .bool sb)
        case first =>
          have HS2 : Hid (((y0 == x0) && (y1 == x1)) = sb) := HSb.out
          cases h0 : (y0 == x0)
          · have HC : Hid (sb = false) := by show _ = _; rw [← HS2.out, h0]; rfl
            go_wp2_with fail
            go_meet
            case rel => exact ⟨rfl, by rw [HC.out]⟩
          · have HC : Hid (sb = (y1 == x1)) := by show _ = _; rw [← HS2.out, h0]; rfl
            go_wp2_with fail
            go_meet
            case rel => exact ⟨rfl, by rw [HC.out]⟩
        case rest =>
        obtain ⟨hwc, rfl⟩ := hcut
        have hwc' := hwc.symm
        subst hwc'
        cases sb
        · have HO2 : Hid (offH ⟨x0, x1, x2⟩ (l.take (j + 1)) = offH ⟨x0, x1, x2⟩ (l.take j) ++ [⟨y0, y1, y2⟩]) := HOs.out
          have hsz : w1.heap.size ≤ w3.heap.size := HB3.out.size
          have HB4 : Hid (Below w1.heap.size w1 (w3.alloc (.cells #[.int .i64 y0, .int .i64 y1, .int .i64 y2] 32))) := HB3.out.alloc hsz _
          have HO4 : Hid (OwnH w1.heap.size (w3.alloc (.cells #[.int .i64 y0, .int .i64 y1, .int .i64 y2] 32)) v6 (offH ⟨x0, x1, x2⟩ (l.take j))) := HO3.out.below (by go_grown)
          have HV4 : Hid ((w3.alloc (.cells #[.int .i64 y0, .int .i64 y1, .int .i64 y2] 32)).heap[w3.heap.size]? = some (.cells (Hn.cells ⟨y0, y1, y2⟩).toArray 32 (0, 0))) := alloc_at _ _ _ rfl
          have HS4 : Hid (w1.heap.size ≤ (w3.alloc (.cells #[.int .i64 y0, .int .i64 y1, .int .i64 y2] 32)).heap.size) := by
            show _ ≤ _
            simp
            omega
          go_wp2_with (at_builtin; refine wp_appH _ rfl _ _ rfl w1.heap.size _ (offH ⟨x0, x1, x2⟩ (l.take j)) ⟨y0, y1, y2⟩ rfl HO4.out _ rfl HV4.out HLn.out HS4.out ?_)
          intro va wa hown hgrow
          have HO5 : Hid (OwnH w1.heap.size wa va (offH ⟨x0, x1, x2⟩ (l.take (j + 1)))) := by rw [HO2.out]; exact hown
          have HB5 : Hid (Below w1.heap.size w1 wa) := below_grown HB4.out (Nat.le_refl _) hgrow.out (fun c hc => HO4.out.from c hc)
          clear hown hgrow HO4 HV4 HS4 HB4 HO3 HB3
          go_wp2_with fail
          go_roundw
          case rel => exact ⟨j + 1, va, _, by omega, rfl, by go_num, rfl, by rw [HNs.out]; rfl, HO5, HB5⟩
          case measure => simp [intOf]; omega
        · by_cases hv : x2 < y2
          · have HLe2 : Hid (l' = l) := HLe.out.symm.trans (by rw [putH, HNi.out rfl hv, if_pos rfl])
            have HNe2 : Hid (n' = n) := HNe.out.trans (by rw [lostH, HNi.out rfl hv]; rfl)
            go_wp2_with fail
            go_ret
            refine ⟨by rw [HE.out]; rfl, ?_⟩
            rw [HLe2.out, HNe2.out]
            exact RhAt.to ⟨_, HR.out⟩ (B1.out.trans (HB3.out.mono B1.out.size))
          · have HO2 : Hid (offH ⟨x0, x1, x2⟩ (l.take (j + 1)) = offH ⟨x0, x1, x2⟩ (l.take j)) := HOs.out.trans (by simp)
            have HN2 : Hid (newerH ⟨x0, x1, x2⟩ (l.take (j + 1)) = false) := HNs.out.trans (by simp [hv])
            go_wp2_with fail
            go_roundw
            case rel => exact ⟨j + 1, _, _, by omega, rfl, by go_num, rfl, HN2, by rw [HO2.out]; exact HO3, HB3⟩
            case measure => simp [intOf]; omega
      · obtain rfl : j = nl := by omega
        have hts : l.take j = l := List.take_of_length_le (by rw [HNl.out]; exact Nat.le_refl _)
        rw [hts] at HNw HO
        clear hts
        have X3 : Hid (BoxH wr w.heap.size x0 x1 x2) := X1.out.below HB.out X1.out.lt
        obtain ⟨e0, e1, e2, ef⟩ := X3.out
        have hsz : w1.heap.size ≤ wr.heap.size := HB.out.size
        have hws : w.heap.size ≤ w1.heap.size := B1.out.size
        obtain ⟨out, HOut⟩ : ∃ x, Hid (offH ⟨x0, x1, x2⟩ l = x) := ⟨_, rfl⟩
        have HLn : Hid (out.length ≤ 2000) := by
          have e1 := (off_sub ⟨x0, x1, x2⟩ l).length_le
          rw [HOut.out, HNl.out] at e1
          show _ ≤ _
          omega
        have HL2 : Hid (l' = if 10 < (out ++ [(⟨x0, x1, x2⟩ : Hn)]).length then (out ++ [(⟨x0, x1, x2⟩ : Hn)]).tail else out ++ [(⟨x0, x1, x2⟩ : Hn)]) := HLe.out.symm.trans (by rw [putH, HNw.out, HOut.out]; rfl)
        have HN2 : Hid (n' = n + if 10 < (out ++ [(⟨x0, x1, x2⟩ : Hn)]).length then 1 else 0) := HNe.out.trans (by rw [lostH, HNw.out, HOut.out]; simp)
        rw [HOut.out] at HO
        have HB4 : Hid (Below w1.heap.size w1 (wr.alloc (.cells #[.int .i64 x0, .int .i64 x1, .int .i64 x2] 32))) := HB.out.alloc hsz _
        have HO4 : Hid (OwnH w1.heap.size (wr.alloc (.cells #[.int .i64 x0, .int .i64 x1, .int .i64 x2] 32)) v6 out) := HO.out.below (by go_grown)
        have HV4 : Hid ((wr.alloc (.cells #[.int .i64 x0, .int .i64 x1, .int .i64 x2] 32)).heap[wr.heap.size]? = some (.cells (Hn.cells ⟨x0, x1, x2⟩).toArray 32 (0, 0))) := alloc_at _ _ _ rfl
        have HS4 : Hid (w1.heap.size ≤ (wr.alloc (.cells #[.int .i64 x0, .int .i64 x1, .int .i64 x2] 32)).heap.size) := by
          show _ ≤ _
          simp
          omega
        go_wp2_with (at_builtin; refine wp_appH _ rfl _ _ rfl w1.heap.size _ out ⟨x0, x1, x2⟩ rfl HO4.out _ rfl HV4.out HLn.out HS4.out ?_)
        intro va wa hown hgrow
        have HB5 : Hid (Below w1.heap.size w1 wa) := below_grown HB4.out (Nat.le_refl _) hgrow.out (fun c hc => HO4.out.from c hc)
        have HBa : Hid (Below w.heap.size w wa) := B1.out.trans (HB5.out.mono hws)
        have HO5 : Hid (OwnH w1.heap.size wa va (out ++ [⟨x0, x1, x2⟩])) := hown
        clear hgrow HO4 HV4 HS4 HB4
        obtain ⟨nO, HnO⟩ : ∃ k, Hid ((out ++ [(⟨x0, x1, x2⟩ : Hn)]).length = k) := ⟨_, rfl⟩
        have hnO : 0 < nO := by have := HnO.out; simp at this; omega
        obtain ⟨G, cap', rfl, hG1, hG2, hG3⟩ : ∃ G cap', va = .slice (some ⟨G, 0, none⟩) nO cap' ∧ w1.heap.size ≤ G ∧ G < wa.heap.size ∧ nO ≤ cap' := by
          rcases hown.2 with ⟨_, h0⟩ | ⟨G, cap', cur, e, hB, hg, hc1, _⟩
          · rw [HnO.out] at h0
            omega
          · rw [HnO.out] at e hc1
            exact ⟨G, cap', e, hB, (Array.getElem?_eq_some_iff.1 hg).1, hc1⟩
        clear hown
        have HRw : Hid (HnsIs wa (.slice (some ⟨G, 0, none⟩) nO cap') (out ++ [⟨x0, x1, x2⟩])) := HO5.out.hns
        have q0 : wa.cell? ⟨b, 0, none⟩ = some (.slice p j cap) := (World.cell?_of_block (a := ⟨b, 0, none⟩) (HBa.out.block b lb)).trans HR.out.c0
        have q1 : wa.cell? ⟨b, 1, none⟩ = some (.int .i64 n) := (World.cell?_of_block (a := ⟨b, 1, none⟩) (HBa.out.block b lb)).trans HR.out.c1
        have qf : ∀ k, wa.frozen? ⟨b, k, none⟩ = false := fun k => (World.frozen?_of_block (a := ⟨b, k, none⟩) (HBa.out.block b lb)).trans (HR.out.fz k)
        rw [HnO.out] at HL2 HN2
        clear e0 e1 e2 ef X3 k0 HLn HO HB
        by_cases h10 : 10 < nO
        · have h10i : (10 : Int) < (nO : Int) := by omega
          have HL3 : Hid (l' = (out ++ [(⟨x0, x1, x2⟩ : Hn)]).tail) := HL2.out.trans (by rw [if_pos h10])
          have HN3 : Hid (n' = n + 1) := HN2.out.trans (by rw [if_pos h10])
          have hc1 : ¬ cap' = 1 := by omega
          have hc2 : 1 ≤ cap' := by omega
          have hn1 : 1 ≤ nO := by omega
          obtain ⟨k, rfl⟩ : ∃ k, nO = k + 1 := ⟨nO - 1, by omega⟩
          go_wp2_with fail
          go_ret
          refine ⟨by rw [HE.out]; rfl, ?_⟩
          rw [HL3.out, HN3.out]
          have ht := HR.out.stored (n' := n + 1) HBa.out (HnsIs.tail (cap' := cap' - 1) HRw.out) (fun c hc => by have : G = c := (by simpa [Value.ownBlock] using hc); omega) (fun c hc => by have : G = c := (by simpa [Value.ownBlock] using hc); omega)
          have e : ((n + 1 : Nat) : Int) = (n : Int) + 1 := by omega
          rw [e] at ht
          exact ht
        · have h10i : ¬ (10 : Int) < (nO : Int) := by omega
          have HL3 : Hid (l' = out ++ [⟨x0, x1, x2⟩]) := HL2.out.trans (by rw [if_neg h10])
          have HN3 : Hid (n' = n) := HN2.out.trans (by rw [if_neg h10]; rfl)
          go_wp2_with fail
          go_ret
          refine ⟨by rw [HE.out]; rfl, ?_⟩
          rw [HL3.out, HN3.out]
          refine HR.out.stored' HBa.out HRw.out (fun c hc => ?_) (fun c hc => ?_)
          · have : G = c := by simpa [Value.ownBlock] using hc
            omega
          · have : G = c := by simpa [Value.ownBlock] using hc
            omega
end Go.Proofs.YtkhdeaegbkenfaiDoor
