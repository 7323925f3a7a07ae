/-
  meretop.TopConverge answers true, whatever is put and whatever calls there are.
-/
import Derived.Test.YtpcnfoaoajfhlaaDoorTqbn
import Derived.Deep.DeepCutAuto
import Derived.Deep.CutBlock
import Derived.Deep.LoopGhost
import Derived.Deep.Draws
import Derived.Deep.RegionHeld3
import Derived.BigQuiet
import Derived.BigRegion
import Derived.WalkSmall
namespace Go.Proofs.YtpcnfoaoajfhlaaDoor
set_option linter.unusedVariables false
set_option linter.unusedSimpArgs false
set_option linter.unusedVariables false
set_option linter.unusedSimpArgs false
open Go.RowKit

set_option maxRecDepth 100000 in
set_option maxHeartbeats 64000000 in
theorem tconv_w (n : Int) (vs vt vc : Value) (ns nt : Nat) (gcs : List (List Int)) (w : World) (hs : IsSteps w vs ns) (ht : IsTexts w vt nt) (hc : CallsIs w vc gcs) (hT : Lib.TabIs Tryd.prog w powName .u64 Lib.pow10Tab) :
    Calls Tryd.prog 3 #[.int .i64 n, vs, vt, vc] w fun e w' => e = .returned (.bool true) ∧ Below w.heap.size w w' := by
  have HTb : Hid (Lib.TabIs Tryd.prog w powName .u64 Lib.pow10Tab) := hT
  have HCl : Hid (CallsIs w vc gcs) := hc
  obtain ⟨aS, cS, rfl, hns, hs1⟩ := hs
  have HS1 : Hid (∀ i, i < ns → ∃ b o u m, aS = some ⟨b, o, none⟩ ∧ w.cell? ⟨b, o + i, none⟩ = some u ∧ IsInts w u m) := hs1
  obtain ⟨aT, cT, rfl, hnt, ht1⟩ := ht
  have HT1 : Hid (∀ i, i < nt → ∃ b o s, aT = some ⟨b, o, none⟩ ∧ w.cell? ⟨b, o + i, none⟩ = some (.string s) ∧ s.size ≤ maxLen) := ht1
  clear hs1 ht1 hT hc
  unfold maxLen at hns hnt
  go_enter Tryd.func3, Tryd.ntmps3
  go_wp2_with fail
  refine (topOne_c w).mono ?_
  rintro e w4 ⟨rfl, hb⟩
  have B4 : Hid (Below w.heap.size w w4) := hb
  clear hb
  by_cases hn : n < 1 ∨ 6 < n
  · have HN : Hid (n < 1 ∨ 6 < n) := hn
    clear hn
    go_wp2_with (go_at_call 6; refine (mNew_bad n _ HN.out).mono ?_; rintro e w' ⟨rfl, hw⟩; rw [hw]; clear hw w')
    go_ret
    exact ⟨rfl, B4.out⟩
  obtain ⟨nn, rfl⟩ : ∃ k : Nat, n = k := ⟨n.toNat, by omega⟩
  have h1 : 1 ≤ nn := by omega
  have h6 : nn ≤ 6 := by omega
  have hd1 : decide ((nn : Int) < 1) = false := by simp; omega
  have hd2 : decide ((6 : Int) < (nn : Int)) = false := by simp; omega
  clear hn
  go_wp2_with fail
  refine (mNew_ok nn w4 h1 h6).mono ?_
  rintro e w5 ⟨m, rfl, ⟨S, hm, hS⟩, hb⟩
  have hz4 := B4.out.size
  have T5 : Hid (TcIs (fun _ => False) w.heap.size w w5 m nn [] (List.replicate nn [])) := ⟨⟨⟨S, hm, fun c hc => ⟨by have := hS c hc; omega, id⟩⟩, B4.out.trans (hb.mono B4.out.size), Nat.le_trans B4.out.size hb.size, fun c hc => hc.elim⟩, goodM_new nn, List.length_replicate ..⟩
  clear hm hS hb hz4 B4
  go_upto_block 0 with fail
  clear hd1 hd2
  go_cut [12, 13] (fun _ _ wd => ∃ (l : List Deed) (cs : List (List En)), Hid (TcIs (fun _ => False) w.heap.size w wd m nn l cs))
  case first =>
    try clear_value *
    as_aux_lemma =>
      let _BP : Exit → Act → World → Prop := bodyPost Tryd.prog Tryd.f3 fun _ _ => True
      go_wp2_with fail
      go_loopw [12] (fun c12 wr => ∃ (i : Nat) (l : List Deed) (cs : List (List En)), i ≤ ns ∧ i ≤ 30 ∧ c12 = .int .i64 i ∧ Hid (TcIs (fun _ => False) w.heap.size w wr m nn l cs)) (fun c12 _ => ns - (intOf c12).toNat)
      case atStart => exact ⟨0, _, _, by omega, by omega, rfl, T5⟩
      case round =>
        obtain ⟨i, l, cs, hi1, hi2, rfl, HR⟩ := hrel
        clear T5
        by_cases hlt1 : i < ns ∧ i < 30
        · obtain ⟨hn1, hn2⟩ := hlt1
          have hd1 : decide ((i : Int) < (ns : Int)) = true := by simp; omega
          have hd2 : decide ((i : Int) < 30) = true := by simp; omega
          have hlti : (i : Int) < (ns : Int) := by omega
          obtain ⟨bS, oS, u, k, rfl, cu, HI⟩ := HS1.out i hn1
          obtain ⟨aI, cI, rfl, hm, hz⟩ := HI
          have HZ : Hid (∀ j, j < k → ∃ b o z, aI = some ⟨b, o, none⟩ ∧ w.cell? ⟨b, o + j, none⟩ = some (.int .i64 z)) := hz
          have HCu : Hid (w.cell? ⟨bS, oS + i, none⟩ = some (.slice aI k cI)) := cu
          have cu' := old_cell HR.out.h.bel cu
          have lS := World.block_lt_of_cell? wr _ cu'
          unfold maxLen at hm
          clear cu hz
          go_upto_if 76 with fail
          go_cut [13] (fun tv wd => wd = wr ∧ ∃ tx : ByteArray, tv = .string tx ∧ Hid (tx.size ≤ maxLen))
          case first =>
            try clear_value *
            as_aux_lemma =>
              let _BP : Exit → Act → World → Prop := bodyPost Tryd.prog Tryd.f3 fun _ _ => True
              by_cases hn3 : i < nt
              · obtain ⟨bT, oT, s, rfl, ct, hts⟩ := HT1.out i hn3
                have ct' := old_cell HR.out.h.bel ct
                have hn4 : (i : Int) < (nt : Int) := by omega
                go_wp2_with fail
                go_meet
                case rel => exact ⟨rfl, s, rfl, hts⟩
              · have hn4 : ¬ (i : Int) < (nt : Int) := by omega
                go_wp2_with fail
                go_meet
                case rel => exact ⟨rfl, _, rfl, by unfold Hid maxLen; decide⟩
          case rest =>
          obtain ⟨hwd, tx, hslot, HTx⟩ := hcut
          rw [hwd]
          clear hwd wc
          subst hslot
          by_cases hk2 : k = 2
          · subst hk2
            obtain ⟨bI, oI, z0, rfl, hz0⟩ := HZ.out 0 (by omega)
            obtain ⟨bJ, oJ, z1, hJ, hz1⟩ := HZ.out 1 (by omega)
            obtain ⟨rfl, rfl⟩ : bI = bJ ∧ oI = oJ := by simpa using hJ
            simp only [Nat.add_zero] at hz0
            have HCz : Hid (w.cell? ⟨bI, oI, none⟩ = some (.int .i64 z0) ∧ w.cell? ⟨bI, oI + 1, none⟩ = some (.int .i64 z1)) := ⟨hz0, hz1⟩
            have cz0 := old_cell HR.out.h.bel hz0
            have cz1 := old_cell HR.out.h.bel hz1
            have lI := World.block_lt_of_cell? wr _ cz0
            clear HZ hJ hz0 hz1
            obtain ⟨⟨l', cs', kk, er⟩, HRp⟩ : ∃ R, Hid (mPut l cs z0 z1 tx = R) := ⟨_, rfl⟩
            have HG7 : Hid (GoodM l' cs' ∧ cs'.length = cs.length) := mPut_lenT HR.out.good HRp.out
            obtain ⟨ev, HEv⟩ : ∃ ev, Hid (eV er = ev) := ⟨_, rfl⟩
            obtain ⟨S, h1', h2'⟩ := HR.out.h.call
            have HS : Hid _ := h1'
            have HC : Hid _ := h2'
            clear h1' h2'
            go_upto_region 14 with fail
            have KP : Hid (∀ w', MeshTo S wr w' m l' cs' → w'.cell? ⟨bS, oS + i, none⟩ = some (.slice (some ⟨bI, oI, none⟩) 2 cI) ∧ w'.cell? ⟨bI, oI, none⟩ = some (.int .i64 z0) ∧ w'.cell? ⟨bI, oI + 1, none⟩ = some (.int .i64 z1)) := fun w' ht => ⟨old_cell (HC.out _ _ _ ht).1.bel HCu.out, old_cell (HC.out _ _ _ ht).1.bel HCz.out.1, old_cell (HC.out _ _ _ ht).1.bel HCz.out.2⟩
            go_region_held3 (fun w' => w'.cell? ⟨bS, oS + i, none⟩ = some (.slice (some ⟨bI, oI, none⟩) 2 cI) ∧ w'.cell? ⟨bI, oI, none⟩ = some (.int .i64 z0) ∧ w'.cell? ⟨bI, oI + 1, none⟩ = some (.int .i64 z1)) (first | go_keep | (exact KP.out _ HTo.out)) (first | (go_at_call 7; refine Calls.mono (mPut_t (S := S) (l := l) (cs := cs) (MeshAt.grown HS.out (by go_grown)) HR.out.good HTx.out HRp.out HEv.out) ?_; rintro e w7 ⟨rfl, hto⟩; have HTo : Hid (MeshTo S wr w7 m l' cs') := MeshTo.after (by go_grown) hto; clear hto))
            all_goals go_wp2_with fail
            all_goals go_roundw
            all_goals first | exact ⟨i + 1, _, _, by omega, by omega, by go_num, (HC.out _ _ _ HTo.out).1, HG7.out.1, HG7.out.2.trans HR.out.len⟩ | (simp [intOf]; omega)
          · have hk2b : ((k : Int) == 2) = false := by simp; omega
            go_wp2_with fail
            go_roundw
            case rel => exact ⟨i + 1, _, _, by omega, by omega, by go_num, HR⟩
            case measure => simp [intOf]; omega
        · by_cases h : i < ns
          · have hq5 : decide ((i : Int) < (ns : Int)) = true := by simp; omega
            have hq6 : decide ((i : Int) < 30) = false := by simp; omega
            go_wp2_with fail
            go_meet
            case rel => exact ⟨_, _, HR⟩
          · have hq5 : decide ((i : Int) < (ns : Int)) = false := by simp; omega
            go_wp2_with fail
            go_meet
            case rel => exact ⟨_, _, HR⟩
  case rest =>
  obtain ⟨l, cs, HQ⟩ := hcut
  clear T5 HS1 HT1
  go_upto_block 2 with fail
  obtain ⟨A, HAe⟩ : ∃ A, Hid (A = wc.heap.size) := ⟨_, rfl⟩
  obtain ⟨wA, HWA⟩ : ∃ z, z = wc.alloc (.cells #[.int .i64 0, .int .i64 0, .int .i64 0, .int .i64 0, .int .i64 0, .int .i64 0, .int .i64 0, .int .i64 0] 33) := ⟨_, rfl⟩
  have HQA : Hid (TcIs (fun c => c = A) w.heap.size w wA m nn l cs) := by
    unfold Hid
    rw [HWA, HAe.out]
    exact ⟨HQ.out.h.more (by go_grown) (fun c hc => .inr (by omega)) (fun c hc => by simp; omega), HQ.out.good, HQ.out.len⟩
  have HEA : Hid (EightAt wA A (fun _ => 0)) := by
    unfold Hid
    rw [HWA]
    exact eight_new wc _ A HAe.out
  have HAN : Hid (w.heap.size ≤ A) := by have := HQ.out.h.hN; have := HAe.out; show _ ≤ _; omega
  first | rw [← HWA, ← HAe.out] | (simp only [← HWA, ← HAe.out])
  clear HWA HAe HQ wc
  go_cut [15, 16, 17, 18] (fun _ _ _ _ wd => ∃ o, Hid (TcIs (fun c => c = A) w.heap.size w wd m nn l cs) ∧ Hid (EightAt wd A o) ∧ Hid (NwI cs.flatten o))
  case first =>
    try clear_value *
    as_aux_lemma =>
      let _BP : Exit → Act → World → Prop := bodyPost Tryd.prog Tryd.f3 fun _ _ => True
      go_wp2_with fail
      go_loopw [15] (fun c15 wr => ∃ (c : Nat) (o : Nat → Int), c ≤ nn ∧ c15 = .int .i64 c ∧ Hid (TcIs (fun c => c = A) w.heap.size w wr m nn l cs) ∧ Hid (EightAt wr A o) ∧ Hid (NwI (cs.take c).flatten o)) (fun c15 _ => nn - (intOf c15).toNat)
      case atStart => exact ⟨0, _, Nat.zero_le _, rfl, HQA, HEA, nwI_nil⟩
      case round =>
        obtain ⟨c, o, hc, rfl, HQ, HE, HN⟩ := hrel
        clear HQA HEA
        by_cases hlt : c < nn
        · have hlti : (c : Int) < (nn : Int) := by omega
          have hcl : c < cs.length := by have := HQ.out.len; omega
          have HX : Hid (mCacheO cs (c : Int) = (cs[c], 0)) := by
            show mCacheO cs (c : Int) = _
            rw [mCacheO, if_pos (by rw [nodeB_iff]; omega), cacheN_at hcl]
          have HFl : Hid ((cs.take (c + 1)).flatten = (cs.take c).flatten ++ cs[c]) := flatten_take hcl
          have HGx : Hid (GoodC l cs[c]) := HQ.out.good.all _ (List.getElem_mem hcl)
          obtain ⟨x, HXe⟩ : ∃ x, Hid (cs[c] = x) := ⟨cs[c], show cs[c] = cs[c] from rfl⟩
          rw [HXe.out] at HX HFl HGx
          clear HXe hcl
          obtain ⟨S, h1', _⟩ := HQ.out.h.call
          have HS : Hid _ := h1'
          clear h1'
          go_wp2_with fail
          refine (mCache_o HS.out HQ.out.good HX.out).mono ?_
          rintro e w6 ⟨v, rfl, hr, hfr, hb⟩
          rw [eV_zeroN]
          have HQ6 : Hid (TcIs (fun c => c = A) w.heap.size w w6 m nn l cs) := HQ.out.grown hb
          have HE6 : Hid (EightAt w6 A o) := HE.out.grown hb
          have HR6 : Hid (RowIs w6 v x) := hr
          have HNe : Hid (∀ g, v.ownBlock = some g → g ≠ A) := by
            intro g hg
            have h1 := hfr g hg
            have h2 := HE.out.lt
            omega
          obtain ⟨hx63, px, cv, rfl, _⟩ := hr
          obtain ⟨nx, HNx⟩ : ∃ nx, Hid (x.length = nx) := ⟨_, rfl⟩
          rw [HNx.out] at hx63 HR6 HNe
          have hx64 : nx ≤ 9223372036854775807 := hx63
          rw [HNx.out]
          clear hb hfr HS HX HQ HE hx63
          go_wp2_with fail
          go_loopw [18] (fun c18 wq => ∃ (j : Nat) (o : Nat → Int), j ≤ nx ∧ c18 = .int .i64 j ∧ Hid (TcIs (fun c => c = A) w.heap.size w wq m nn l cs) ∧ Hid (EightAt wq A o) ∧ Hid (RowIs wq (.slice px nx cv) x) ∧ Hid (NwI ((cs.take c).flatten ++ x.take j) o)) (fun c18 _ => nx - (intOf c18).toNat)
          case atStart => exact ⟨0, o, Nat.zero_le _, rfl, HQ6, HE6, HR6, by rw [List.take_zero, List.append_nil]; exact HN.out⟩
          case round =>
            clear HQ6 HE6 HR6 HN
            obtain ⟨j, o, hj, rfl, HQ, HE, HRo, HN⟩ := hrel
            obtain ⟨wq, hren⟩ : ∃ y, y = wr := ⟨_, rfl⟩
            subst hren
            by_cases hlt2 : j < nx
            · have hlti2 : (j : Int) < (nx : Int) := by omega
              have hjl : j < x.length := by rw [HNx.out]; exact hlt2
              have HTk : Hid (x.take (j + 1) = x.take j ++ [x[j]]) := List.take_succ_eq_append_getElem hjl
              have HW : Hid (Was l x[j]) := HGx.out.was _ (List.getElem_mem hjl)
              obtain ⟨bx, ox, rfl, hat, hlx⟩ := row_atT HRo.out hjl
              obtain ⟨y, HY⟩ : ∃ y, Hid (x[j] = y) := ⟨x[j], show x[j] = x[j] from rfl⟩
              rw [HY.out] at HTk HW hat
              clear HY hjl
              obtain ⟨yk, yv, ya, yg, yt⟩ := y
              obtain ⟨d0, d1, d2, d3, d4⟩ := hat
              dsimp only at d0 d1 d2 d3 d4
              have hk8 : stK yk = true := HW.out.1
              have hsp := HW.out.span
              have hvl := HQ.out.good.len
              obtain ⟨q, rfl⟩ : ∃ q : Nat, yk = q := ⟨yk.toNat, by simp [stK] at hk8; omega⟩
              have hq8 : q < 8 := by simp [stK] at hk8; omega
              have hq8i : (q : Int) < 8 := by omega
              have e0 := HE.out.cell q hq8
              have lA := HE.out.lt
              have hg0 : decide ((q : Int) < 0) = false := by simp
              have hg1 : decide ((7 : Int) < (q : Int)) = false := by simp; omega
              obtain ⟨B, hB⟩ : ∃ B, decide (o q < yv) = B := ⟨_, rfl⟩
              clear hk8 hsp hvl
              go_upto_region 27 with fail
              clear hg0 hg1
              go_cut [147] (fun c wd => c = .bool B ∧ Hid (Below wq.heap.size wq wd))
              case first =>
                try clear_value *
                as_aux_lemma =>
                  let _BP : Exit → Act → World → Prop := bodyPost Tryd.prog Tryd.f3 fun _ _ => True
                  go_quiet (fail)
                  go_wp2_with fail
                  go_meet
                  case rel => exact ⟨rfl, below_drewN _ _ _⟩
              case rest =>
              obtain ⟨h147, HB⟩ := hcut
              subst h147
              obtain ⟨w7, hren⟩ : ∃ y, y = wc := ⟨_, rfl⟩
              subst hren
              have HQ7 : Hid (TcIs (fun c => c = A) w.heap.size w w7 m nn l cs) := HQ.out.grown HB.out
              have HE7 : Hid (EightAt w7 A o) := HE.out.grown HB.out
              have HR7 : Hid (RowIs w7 (.slice (some ⟨bx, ox, none⟩) nx cv) x) := HRo.out.below HB.out
              have f0 := old_cell HB.out d0
              have f1 := old_cell HB.out d1
              have hlx7 := World.block_lt_of_cell? w7 _ f0
              have lA7 := HE7.out.lt
              clear d0 d1 d2 d3 d4 e0 lA hlx HQ HE HRo HB
              cases B with
              | false =>
                have HN7 : Hid (NwI ((cs.take c).flatten ++ x.take (j + 1)) o) := by
                  show NwI _ _
                  rw [HTk.out, ← List.append_assoc]
                  exact HN.out.less (k := q) rfl (by have := hB; simp at this; exact this)
                clear hB HN HTk HW f0 f1 hlx7 lA7
                go_wp2_with fail
                go_roundw
                case rel => exact ⟨j + 1, o, by omega, by go_num, HQ7, HE7, HR7, HN7⟩
                case measure => simp [intOf]; omega
              | true =>
                have HN7 : Hid (NwI ((cs.take c).flatten ++ x.take (j + 1)) (upd o q yv)) := by
                  show NwI _ _
                  rw [HTk.out, ← List.append_assoc]
                  exact HN.out.more (k := q) rfl (by have := hB; simp at this; exact this) (upd_same o q yv) (fun i hi => upd_other o yv hi)
                have hbA : bx ≠ A := HNe.out bx rfl
                have HSt : Hid (∀ W, Below w7.heap.size w7 W → TcIs (fun c => c = A) w.heap.size w (W.setCell ⟨A, q, none⟩ (.int .i64 yv)) m nn l cs ∧ EightAt (W.setCell ⟨A, q, none⟩ (.int .i64 yv)) A (upd o q yv) ∧ RowIs (W.setCell ⟨A, q, none⟩ (.int .i64 yv)) (.slice (some ⟨bx, ox, none⟩) nx cv) x) := fun W hW => by
                  have g1 := HQ7.out.grown hW
                  refine ⟨⟨g1.h.set A q rfl HAN.out _, g1.good, g1.len⟩, (HE7.out.grown hW).set q hq8 yv, (HR7.out.below hW).blocks (by rw [World.size_setCell]; exact Nat.le_refl _) (fun g hg _ => Below.heap_setCell _ _ _ g (HNe.out g hg))⟩
                have af := HE7.out.fz
                have ac := HE7.out.cell q hq8
                clear hB HN HTk HW
                go_upto_region 28 with fail
                go_region
                all_goals go_wp2_with fail
                all_goals go_roundw
                all_goals first | (have h := HSt.out _ (Below.refl _ _); exact ⟨j + 1, upd o q yv, by omega, by go_num, h.1, h.2.1, h.2.2, HN7⟩) | (have h := HSt.out _ (below_drewN _ _ _); exact ⟨j + 1, upd o q yv, by omega, by go_num, h.1, h.2.1, h.2.2, HN7⟩) | (have h := HSt.out _ (Below.refl _ _); exact ⟨j + 1, upd o q yv, by omega, by go_num, h.1.grown (below_drewN _ _ _), h.2.1.grown (below_drewN _ _ _), h.2.2.below (below_drewN _ _ _), HN7⟩) | (simp [intOf]; omega)
            · obtain rfl : j = nx := by omega
              have HN8 : Hid (NwI (cs.take (c + 1)).flatten o) := by
                show NwI _ _
                have h := HN.out
                rw [List.take_of_length_le (l := x) (by rw [HNx.out]; exact Nat.le_refl _)] at h
                rw [HFl.out]
                exact h
              go_wp2_with fail
              go_roundw
              case rel => exact ⟨c + 1, o, by omega, by go_num, HQ, HE, HN8⟩
              case measure => simp [intOf]; omega
        · obtain rfl : c = nn := by omega
          have HN8 : Hid (NwI cs.flatten o) := by
            show NwI _ _
            have h := HN.out
            rw [List.take_of_length_le (by rw [HQ.out.len]; exact Nat.le_refl _)] at h
            exact h
          go_wp2_with fail
          go_meet
          case rel => exact ⟨o, HQ, HE, HN8⟩
  case rest =>
  obtain ⟨nw, HQ, HE, HN⟩ := hcut
  clear HQA HEA
  obtain ⟨w6, hren⟩ : ∃ y, y = wc := ⟨_, rfl⟩
  subst hren
  have HG0 : Hid (GoodM l cs ∧ cs.length = nn) := ⟨HQ.out.good, HQ.out.len⟩
  have HO0 : Hid (VkI nn (fun j q => vN (cs.getD j []) q) (ownG nn) cs) := vkI_own HQ.out.len
  obtain ⟨E, HEe⟩ : ∃ E, Hid (callsE (nn : Int) gcs = E) := ⟨_, rfl⟩
  obtain ⟨D, HDe⟩ : ∃ D, Hid (doneZ (nn : Int) gcs = D) := ⟨_, rfl⟩
  go_wp2_with fail
  refine (done_n (nn : Int) vc gcs E D HEe.out HDe.out _ (HCl.out.below HQ.out.h.bel)).mono ?_
  rintro e w7 ⟨rfl, hb⟩
  have HQ7 : Hid (TcIs (fun c => c = A) w.heap.size w w7 m nn l cs) := HQ.out.grown hb
  have HE7 : Hid (EightAt w7 A nw) := HE.out.grown hb
  clear hb HQ HE
  obtain ⟨ev, HEv⟩ : ∃ ev, Hid (eV E = ev) := ⟨_, rfl⟩
  obtain ⟨en, HEn⟩ : ∃ en, Hid ((!(E == 0)) = en) := ⟨_, rfl⟩
  have hneq := neq_eV E HEv.out HEn.out
  have hgrd := guard_eV E HEv.out
  rw [HEv.out]
  go_upto_if 166 with fail
  go_cut [3, 11, 19] (fun c3 c11 c19 wd => ∃ (v : Value) (ls : List (List Int)) (D : Bool) (X : Nat → Prop), c3 = v ∧ c11 = .nilIface ∧ c19 = .bool D ∧ Hid (TcJ X A w.heap.size w wd m nn l cs nw v ls) ∧ Hid (CallsOk nn D ls))
  case first =>
    try clear_value *
    as_aux_lemma =>
      let _BP : Exit → Act → World → Prop := bodyPost Tryd.prog Tryd.f3 fun _ _ => True
      cases en with
      | false =>
        have hE0 : E = 0 := by have := HEn.out; simpa using this
        subst hE0
        have hev := HEv.out
        rw [eV_zeroN] at hev
        subst hev
        have HOk : Hid (CallsOk nn D gcs) := callsOk_own HEe.out HDe.out
        obtain ⟨us, hu1, hu2, hu3⟩ := HCl.out
        have HJ : Hid (TcJ (fun c => c < w.heap.size) A w.heap.size w w7 m nn l cs nw vc gcs) :=
          HQ7.out.start HE7.out (Below.refl _ _) (fun c h1 h2 => by omega) ((callsAt_of (w := w) HOk.out hu1 hu2 hu3 (fun c _ h => h) (fun u _ c _ h => h)).keep HQ7.out.h.bel.size (fun c _ hc => HQ7.out.h.bel.block c hc))
        clear hu1 hu2 hu3 hneq hgrd
        go_wp2_with fail
        go_meet
        case rel => exact ⟨_, _, _, _, rfl, rfl, rfl, HJ, HOk⟩
      | true =>
        clear hneq hgrd
        go_wp2_with fail
        refine (plan_ok nn h1 h6 w7).mono ?_
        rintro e w8 ⟨⟨v, rfl, us, hu1, hu2, hu3, hu4, hu5⟩, hb⟩
        have HOk : Hid (CallsOk nn true (planL nn)) := callsOk_plan nn h1 h6
        have HJ : Hid (TcJ (fun c => w7.heap.size ≤ c ∧ c < w8.heap.size) A w.heap.size w w8 m nn l cs nw v (planL nn)) :=
          HQ7.out.start HE7.out hb (fun c h1 h2 => h1) (callsAt_of HOk.out hu1 hu2 hu3 (fun c hc hl => ⟨hu5 c hc, hl⟩) (fun u hu c hc hl => ⟨hu4 u hu c hc, hl⟩))
        clear hu1 hu2 hu3 hu4 hu5 hb
        go_wp2_with fail
        go_meet
        case rel => exact ⟨_, _, _, _, rfl, rfl, rfl, HJ, HOk⟩
  case rest =>
  obtain ⟨v, ls, D2, X, h3, h11, h19, HJ, HOk⟩ := hcut
  clear HQ7 HE7 HEe HDe HEv HEn hneq hgrd
  obtain ⟨w8, hren⟩ : ∃ y, y = wc := ⟨_, rfl⟩
  subst hren
  have h3' := h3.symm
  subst h3' h11 h19
  obtain ⟨p, cap, rfl, _⟩ := HJ.out.calls
  obtain ⟨ng, HNg⟩ : ∃ ng, Hid (ls.length = ng) := ⟨_, rfl⟩
  have hng40 : ng ≤ 40 := by have := HOk.out.len; have := HNg.out; omega
  rw [HNg.out] at HJ ⊢
  have HO8 : Hid (VkI nn (fun j q => vN (cs.getD j []) q) (knowG nn (ls.take 0)) cs) := HO0.out
  clear HO0
  go_upto_block 6 with fail
  go_cut [20, 21, 22, 23, 24, 25, 26, 27, 28, 29, 30, 31, 32] (fun _ _ _ _ _ _ _ _ _ _ _ _ _ wd => ∃ csn, Hid (TcJ X A w.heap.size w wd m nn l csn nw (.slice p ng cap) ls) ∧ Hid (VkI nn (fun j q => vN (cs.getD j []) q) (knowG nn ls) csn))
  case first =>
    as_aux_lemma =>
      go_wp2_with fail
      go_loopw [20] (fun c20 wr => ∃ (i : Nat) (csi : List (List En)), i ≤ ng ∧ c20 = .int .i64 i ∧ Hid (TcJ X A w.heap.size w wr m nn l csi nw (.slice p ng cap) ls) ∧ Hid (VkI nn (fun j q => vN (cs.getD j []) q) (knowG nn (ls.take i)) csi)) (fun c20 _ => ng - (intOf c20).toNat)
      case atStart => exact ⟨0, cs, Nat.zero_le _, rfl, HJ, HO8⟩
      case round =>
        obtain ⟨i, csi, hi, rfl, HR, HV⟩ := hrel
        clear HJ HO8
        by_cases hlt : i < ng
        · have hlti : (i : Int) < (ng : Int) := by omega
          have hil : i < ls.length := by rw [HNg.out]; exact hlt
          obtain ⟨a, b, hab, ha, hb, hne, hkn⟩ := HOk.out.at hil
          have HKn : Hid (knowG nn (ls.take (i + 1)) = stepG (knowG nn (ls.take i)) (a, b)) := hkn
          obtain ⟨p', cap', hpe, hcl⟩ := HR.out.calls
          obtain ⟨cb, co, hp2, hXb, hlb, hcj⟩ := hcl (fun e => by rw [e] at hil; exact absurd hil (by simp))
          obtain ⟨g, o2, c2, x, y, k1, hXg, hlg, hxy, k5, k6⟩ := hcj i hil
          rw [hab] at hxy
          obtain ⟨rfl, rfl⟩ : (a : Int) = x ∧ (b : Int) = y := by simpa using hxy
          have hpp : p = some ⟨cb, co, none⟩ := by rw [hp2] at hpe; injection hpe
          subst hpp
          have HCs : Hid (wr.cell? ⟨cb, co + i, none⟩ = some (.slice (some ⟨g, o2, none⟩) 2 c2) ∧ wr.cell? ⟨g, o2, none⟩ = some (.int .i64 (a : Nat)) ∧ wr.cell? ⟨g, o2 + 1, none⟩ = some (.int .i64 (b : Nat))) := ⟨k1, k5, k6⟩
          have HXs : Hid (X cb ∧ X g) := ⟨hXb, hXg⟩
          have hal : a < csi.length := by have := HR.out.len; omega
          have hbl : b < csi.length := by have := HR.out.len; omega
          have HX1 : Hid (mCacheO csi (a : Int) = (csi.getD a [], 0)) := by
            show mCacheO csi (a : Int) = _
            rw [mCacheO, if_pos (by rw [nodeB_iff]; omega), cacheN_at hal, getD_get hal]
          have HX2 : Hid (mCacheO csi (b : Int) = (csi.getD b [], 0)) := by
            show mCacheO csi (b : Int) = _
            rw [mCacheO, if_pos (by rw [nodeB_iff]; omega), cacheN_at hbl, getD_get hbl]
          obtain ⟨x', y', hp, hms, hgs, hls⟩ := swap_goes HR.out.good hal hbl hne
          have HPr : Hid (pairW (csi.getD a []) (csi.getD b []) = (x', y', 0)) := hp
          have HMs : Hid (mSwap csi (a : Int) (b : Int) = ((csi.set a x').set b y', 0) ∧ GoodM l ((csi.set a x').set b y') ∧ ((csi.set a x').set b y').length = nn) := ⟨hms, hgs, hls.trans HR.out.len⟩
          have HGa : Hid (GoodC l (csi.getD a [])) := HR.out.good.atD a
          have HGb : Hid (GoodC l (csi.getD b [])) := HR.out.good.atD b
          have HAb : Hid (a < nn ∧ b < nn ∧ a ≠ b) := ⟨ha, hb, hne⟩
          obtain ⟨ca, HCa⟩ : ∃ z, Hid (csi.getD a [] = z) := ⟨csi.getD a [], show csi.getD a [] = _ from rfl⟩
          obtain ⟨cb2, HCb⟩ : ∃ z, Hid (csi.getD b [] = z) := ⟨csi.getD b [], show csi.getD b [] = _ from rfl⟩
          rw [HCa.out] at HX1 HPr HGa
          rw [HCb.out] at HX2 HPr HGb
          clear hil hab hkn hpe hcl hp2 hXb hlb hcj hXg hlg hxy hal hbl hp hms hgs hls ha hb hne
          have lcb := World.block_lt_of_cell? wr _ k1
          have lg := World.block_lt_of_cell? wr _ k5
          obtain ⟨S, h1', _⟩ := HR.out.h.call
          have HS : Hid _ := h1'
          clear h1'
          go_wp2_with fail
          refine (mCache_o HS.out HR.out.good HX1.out).mono ?_
          rintro e w9 ⟨v1, rfl, hr, _, hb⟩
          rw [eV_zeroN]
          have HB9 : Hid (Below wr.heap.size wr w9) := hb
          have HR9 : Hid (TcJ X A w.heap.size w w9 m nn l csi nw (.slice (some ⟨cb, co, none⟩) ng cap) ls) := HR.out.grown hb
          have HP9 : Hid (RowIs w9 v1 ca) := hr
          clear hb hr HS HX1 k1 k5 k6 lcb lg
          have k1 := old_cell HB9.out HCs.out.1
          have k5 := old_cell HB9.out HCs.out.2.1
          have k6 := old_cell HB9.out HCs.out.2.2
          have lcb := World.block_lt_of_cell? w9 _ k1
          have lg := World.block_lt_of_cell? w9 _ k5
          obtain ⟨S, h1', _⟩ := HR9.out.h.call
          have HS : Hid _ := h1'
          clear h1'
          go_wp2_with fail
          refine (mCache_o HS.out HR9.out.good HX2.out).mono ?_
          rintro e wa ⟨v2, rfl, hr, _, hb⟩
          rw [eV_zeroN]
          have HBa : Hid (Below wr.heap.size wr wa) := HB9.out.trans (hb.mono HB9.out.size)
          have HRa : Hid (TcJ X A w.heap.size w wa m nn l csi nw (.slice (some ⟨cb, co, none⟩) ng cap) ls) := HR9.out.grown hb
          have HPa : Hid (RowIs wa v1 ca) := HP9.out.below hb
          have HQa : Hid (RowIs wa v2 cb2) := hr
          clear hb hr HS HX2 k1 k5 k6 lcb lg HB9 HR9 HP9
          go_wp2_with fail
          refine (lacks_ok v1 v2 ca cb2 wa HPa.out HQa.out HGa.out.good.bad HGb.out.good.bad (TabIs_below HTb.out HRa.out.h.bel)).mono ?_
          rintro e wb ⟨vk, rfl, ho, hb⟩
          have HBb : Hid (Below wr.heap.size wr wb) := HBa.out.trans (hb.mono HBa.out.size)
          have HRb : Hid (TcJ X A w.heap.size w wb m nn l csi nw (.slice (some ⟨cb, co, none⟩) ng cap) ls) := HRa.out.grown hb
          have HPb : Hid (RowIs wb v1 ca) := HPa.out.below hb
          have HQb : Hid (RowIs wb v2 cb2) := HQa.out.below hb
          have HKb : Hid (IntsIs wb vk (lackK ca cb2)) := ho.ints
          clear hb ho HBa HRa HPa HQa
          go_wp2_with fail
          go_loopw [27] (fun c27 wq => ∃ (q : Nat), q ≤ 8 ∧ c27 = .int .i64 q ∧ Hid (Below wr.heap.size wr wq) ∧ Hid (TcJ X A w.heap.size w wq m nn l csi nw (.slice (some ⟨cb, co, none⟩) ng cap) ls) ∧ Hid (RowIs wq v1 ca) ∧ Hid (RowIs wq v2 cb2) ∧ Hid (IntsIs wq vk (lackK ca cb2)) ∧ Hid (∀ k : Nat, k < q → (lackK ca cb2).contains (k : Int) = true ∨ vN ca k = vN cb2 k)) (fun c27 _ => 8 - (intOf c27).toNat)
          case atStart => exact ⟨0, Nat.zero_le _, rfl, HBb, HRb, HPb, HQb, HKb, fun k hk => absurd hk (by omega)⟩
          case round =>
            obtain ⟨q, hq, rfl, HBq, HRq, HPq, HQq, HKq, HAl⟩ := hrel
            obtain ⟨wq, hren⟩ : ∃ y, y = wr := ⟨_, rfl⟩
            subst hren
            clear HBb HRb HPb HQb HKb
            by_cases hq8 : q < 8
            · have hq8i : (q : Int) < 8 := by omega
              obtain ⟨x0, x1, x2, x3, x4, EX, hcx, hxe⟩ := getS_e v1 ca q HGa.out.good.bad hq8
              obtain ⟨y0, y1, y2, y3, y4, EY, hcy, hye⟩ := getS_e v2 cb2 q HGb.out.good.bad hq8
              have HCx : Hid _ := hcx
              have HCy : Hid _ := hcy
              have HXe : Hid ((EX = .nilIface ∧ getE ca (q : Int) = some ⟨x0, x1, x2, x3, x4⟩) ∨ (EX = .iface 71 (.int .i64 5) ∧ getE ca (q : Int) = none)) := hxe
              have HYe : Hid ((EY = .nilIface ∧ getE cb2 (q : Int) = some ⟨y0, y1, y2, y3, y4⟩) ∨ (EY = .iface 71 (.int .i64 5) ∧ getE cb2 (q : Int) = none)) := hye
              clear hcx hcy hxe hye
              go_wp2_with fail
              refine (HCx.out _ HPq.out).mono ?_
              rintro e wd1 ⟨rfl, hb⟩
              have B1 : Hid (Below wq.heap.size wq (wd1.alloc (.cells #[.int .i64 x0, .int .i64 x1, .int .i64 x2, .bool x3, .string x4] 38))) := hb.alloc hb.size _
              have X1 : Hid (BoxAt (wd1.alloc (.cells #[.int .i64 x0, .int .i64 x1, .int .i64 x2, .bool x3, .string x4] 38)) wd1.heap.size x0 x1 x2 x3 x4) := box_new wd1 x0 x1 x2 x3 x4 _ rfl
              clear hb HCx
              go_upto_region 49 with fail
              obtain ⟨we1, HW1⟩ : ∃ z, z = wd1.alloc (.cells #[.int .i64 x0, .int .i64 x1, .int .i64 x2, .bool x3, .string x4] 38) := ⟨_, rfl⟩
              obtain ⟨P1, HP1⟩ : ∃ z, z = wd1.heap.size := ⟨_, rfl⟩
              rw [← HW1] at B1 X1 ⊢
              rw [← HP1] at X1 ⊢
              clear HW1 HP1
              go_wp2_with fail
              refine (HCy.out _ (HQq.out.below B1.out)).mono ?_
              rintro e wd2 ⟨rfl, hb⟩
              have B2 : Hid (Below wq.heap.size wq (wd2.alloc (.cells #[.int .i64 y0, .int .i64 y1, .int .i64 y2, .bool y3, .string y4] 38))) := (B1.out.trans (hb.mono B1.out.size)).alloc (Nat.le_trans B1.out.size hb.size) _
              have X2 : Hid (BoxAt (wd2.alloc (.cells #[.int .i64 y0, .int .i64 y1, .int .i64 y2, .bool y3, .string y4] 38)) P1 x0 x1 x2 x3 x4) := (X1.out.below hb X1.out.lt).alloc _
              have Y2 : Hid (BoxAt (wd2.alloc (.cells #[.int .i64 y0, .int .i64 y1, .int .i64 y2, .bool y3, .string y4] 38)) wd2.heap.size y0 y1 y2 y3 y4) := box_new wd2 y0 y1 y2 y3 y4 _ rfl
              clear hb HCy B1 X1
              go_upto_region 50 with fail
              obtain ⟨we2, HW2⟩ : ∃ z, z = wd2.alloc (.cells #[.int .i64 y0, .int .i64 y1, .int .i64 y2, .bool y3, .string y4] 38) := ⟨_, rfl⟩
              obtain ⟨P2, HP2⟩ : ∃ z, z = wd2.heap.size := ⟨_, rfl⟩
              rw [← HW2] at B2 X2 Y2 ⊢
              rw [← HP2] at Y2 ⊢
              clear HW2 HP2
              obtain ⟨inb, HIn⟩ : ∃ c, Hid ((lackK ca cb2).contains (q : Int) = c) := ⟨_, rfl⟩
              go_wp2_with fail
              refine (inC_o HIn.out vk _ (HKq.out.below B2.out)).mono ?_
              rintro e we3 ⟨rfl, hb⟩
              have B3 : Hid (Below wq.heap.size wq we3) := B2.out.trans (hb.mono B2.out.size)
              obtain ⟨f0, f1, f2, f3, f4, ff⟩ := X2.out.below hb X2.out.lt
              obtain ⟨g0, g1, g2, g3, g4, gf⟩ := Y2.out.below hb Y2.out.lt
              have l1 := World.block_lt_of_cell? we3 _ f0
              have l2 := World.block_lt_of_cell? we3 _ g0
              clear hb B2 X2 Y2
              go_upto_region 51 with fail
              go_cut [272] (fun c wd => ∃ B : Bool, c = .bool B ∧ Hid (B = false → (lackK ca cb2).contains (q : Int) = true ∨ vN ca q = vN cb2 q) ∧ Hid (Below we3.heap.size we3 wd))
              case first =>
                try clear_value *
                as_aux_lemma =>
                  let _BP : Exit → Act → World → Prop := bodyPost Tryd.prog Tryd.f3 fun _ _ => True
                  cases inb with
                  | true =>
                    clear HXe HYe
                    go_quiet (fail)
                    go_wp2_with fail
                    go_meet
                    case rel => exact ⟨_, rfl, fun _ => .inl HIn.out, below_drewN _ _ _⟩
                  | false =>
                    by_cases hv : x1 = y1
                    · subst hv
                      by_cases hgg : x3 = y3
                      · subst hgg
                        by_cases htt : x4 = y4
                        · subst htt
                          rcases HXe.out with ⟨h1, h2⟩ | ⟨h1, h2⟩ <;> rcases HYe.out with ⟨h3, h4⟩ | ⟨h3, h4⟩
                          · subst h1 h3
                            have HE : Hid (vN ca q = vN cb2 q) := vO_eq h2 h4 rfl
                            clear h2 h4 HXe HYe
                            go_quiet (fail)
                            go_wp2_with fail
                            go_meet
                            case rel => exact ⟨_, rfl, fun _ => .inr HE.out, below_drewN _ _ _⟩
                          · subst h1 h3
                            clear h2 h4 HXe HYe
                            go_quiet (fail)
                            go_wp2_with fail
                            go_meet
                            case rel => exact ⟨true, rfl, fun h => absurd h (by simp), below_drewN _ _ _⟩
                          · subst h1 h3
                            clear h2 h4 HXe HYe
                            go_quiet (fail)
                            go_wp2_with fail
                            go_meet
                            case rel => exact ⟨true, rfl, fun h => absurd h (by simp), below_drewN _ _ _⟩
                          · subst h1 h3
                            have HE : Hid (vN ca q = vN cb2 q) := vO_none h2 h4
                            clear h2 h4 HXe HYe
                            go_quiet (fail)
                            go_wp2_with fail
                            go_meet
                            case rel => exact ⟨_, rfl, fun _ => .inr HE.out, below_drewN _ _ _⟩
                        · have htb : (x4.toList == y4.toList) = false := toL_ne htt
                          have htc : (x4.toList != y4.toList) = true := by rw [bne, htb]; rfl
                          clear htt HXe HYe
                          go_quiet (fail)
                          go_wp2_with fail
                          go_meet
                          case rel => exact ⟨true, rfl, fun h => absurd h (by simp), below_drewN _ _ _⟩
                      · clear HXe HYe
                        cases x3 with
                        | false =>
                          cases y3 with
                          | false => exact absurd rfl hgg
                          | true =>
                            clear hgg
                            go_quiet (fail)
                            go_wp2_with fail
                            go_meet
                            case rel => exact ⟨true, rfl, fun h => absurd h (by simp), below_drewN _ _ _⟩
                        | true =>
                          cases y3 with
                          | true => exact absurd rfl hgg
                          | false =>
                            clear hgg
                            go_quiet (fail)
                            go_wp2_with fail
                            go_meet
                            case rel => exact ⟨true, rfl, fun h => absurd h (by simp), below_drewN _ _ _⟩
                    · have hvb : (x1 != y1) = true := by simpa using hv
                      clear hv HXe HYe
                      go_quiet (fail)
                      go_wp2_with fail
                      go_meet
                      case rel => exact ⟨true, rfl, fun h => absurd h (by simp), below_drewN _ _ _⟩
              case rest =>
              obtain ⟨B, h272, HBf, HB4⟩ := hcut
              subst h272
              obtain ⟨we4, hren⟩ : ∃ y, y = wc := ⟨_, rfl⟩
              subst hren
              have B5 : Hid (Below wq.heap.size wq we4) := B3.out.trans (HB4.out.mono B3.out.size)
              clear f0 f1 f2 f3 f4 ff g0 g1 g2 g3 g4 gf l1 l2 B3 HB4 HXe HYe HIn
              cases B with
              | true =>
                have HEnd : Hid (Below w.heap.size w we4) := HRq.out.h.bel.trans (B5.out.mono HRq.out.h.hN)
                go_wp2_with fail
                go_ret
                exact ⟨rfl, HEnd.out⟩
              | false =>
                have HAl2 : Hid (∀ k : Nat, k < q + 1 → (lackK ca cb2).contains (k : Int) = true ∨ vN ca k = vN cb2 k) := fun k hk => by
                  by_cases h : k < q
                  · exact HAl.out k h
                  · obtain rfl : k = q := by omega
                    exact HBf.out rfl
                go_wp2_with fail
                go_roundw
                case rel => exact ⟨q + 1, by omega, by go_num, HBq.out.trans (B5.out.mono HBq.out.size), HRq.out.grown B5.out, HPq.out.below B5.out, HQq.out.below B5.out, HKq.out.below B5.out, HAl2⟩
                case measure => simp [intOf]; omega
            · obtain rfl : q = 8 := by omega
              have HVs : Hid (VkI nn (fun j q => vN (cs.getD j []) q) (knowG nn (ls.take (i + 1))) ((csi.set a x').set b y')) := by
                show VkI _ _ _ _
                rw [HKn.out]
                refine HV.out.step HAb.out.1 HAb.out.2.1 HAb.out.2.2 (fun k hk => ?_)
                rw [HCa.out, HCb.out]
                exact vN_swap HPr.out HGa.out HGb.out (fun hn => (HAl.out k hk).resolve_left (fun h => hn (by simpa using h)))
              have k1 := old_cell HBq.out HCs.out.1
              have k5 := old_cell HBq.out HCs.out.2.1
              have k6 := old_cell HBq.out HCs.out.2.2
              have lcb := World.block_lt_of_cell? wq _ k1
              have lg := World.block_lt_of_cell? wq _ k5
              obtain ⟨S, h1', h2'⟩ := HRq.out.call
              have HS : Hid _ := h1'
              have HC : Hid _ := h2'
              have HTq : Hid (Lib.TabIs Tryd.prog wq powName .u64 Lib.pow10Tab) := TabIs_below HTb.out HRq.out.h.bel
              clear h1' h2'
              have KP : Hid (∀ w', MeshTo S wq w' m l ((csi.set a x').set b y') → w'.cell? ⟨cb, co + i, none⟩ = some (.slice (some ⟨g, o2, none⟩) 2 c2) ∧ w'.cell? ⟨g, o2, none⟩ = some (.int .i64 (a : Nat)) ∧ w'.cell? ⟨g, o2 + 1, none⟩ = some (.int .i64 (b : Nat))) := fun w' ht => by
                have hbk := (HC.out w' _ ht).1
                exact ⟨(World.cell?_of_block (a := ⟨cb, co + i, none⟩) (hbk cb HXs.out.1 lcb)).trans k1, (World.cell?_of_block (a := ⟨g, o2, none⟩) (hbk g HXs.out.2 lg)).trans k5, (World.cell?_of_block (a := ⟨g, o2 + 1, none⟩) (hbk g HXs.out.2 lg)).trans k6⟩
              clear HAl HPq HQq HKq HBq HCs
              go_upto_region 53 with fail
              go_cut [287] (fun c wd => c = .bool false ∧ Hid (TcJ X A w.heap.size w wd m nn l ((csi.set a x').set b y') nw (.slice (some ⟨cb, co, none⟩) ng cap) ls))
              case first =>
                try clear_value *
                as_aux_lemma =>
                  let _BP : Exit → Act → World → Prop := bodyPost Tryd.prog Tryd.f3 fun _ _ => True
                  go_region_held3 (fun w' => w'.cell? ⟨cb, co + i, none⟩ = some (.slice (some ⟨g, o2, none⟩) 2 c2) ∧ w'.cell? ⟨g, o2, none⟩ = some (.int .i64 (a : Nat)) ∧ w'.cell? ⟨g, o2 + 1, none⟩ = some (.int .i64 (b : Nat))) (first | go_keep | (exact KP.out _ HTo.out)) (first | (go_at_call 14; refine Calls.mono (mSwap_t (S := S) (l := l) (cs := csi) (MeshAt.grown HS.out (by go_grown)) HRq.out.good HMs.out.1 (TabIs_below HTq.out (by go_grown))) ?_; rintro e w7 ⟨rfl, hto⟩; have HTo : Hid (MeshTo S wq w7 m l ((csi.set a x').set b y')) := MeshTo.after (by go_grown) hto; clear hto))
                  all_goals go_wp2_with fail
                  all_goals go_meet
                  all_goals exact ⟨rfl, (HC.out _ _ HTo.out).2 HMs.out.2.1 HMs.out.2.2⟩
              case rest =>
              obtain ⟨h287, HJ9⟩ := hcut
              subst h287
              clear HS HC HTq KP k1 k5 k6 lcb lg HRq
              go_wp2_with fail
              go_roundw
              case rel => exact ⟨i + 1, _, by omega, by go_num, HJ9, HVs⟩
              case measure => simp [intOf]; omega
        · obtain rfl : i = ng := by omega
          have HVe : Hid (VkI nn (fun j q => vN (cs.getD j []) q) (knowG nn ls) csi) := by
            have h := HV.out
            rw [List.take_of_length_le (by rw [HNg.out]; exact Nat.le_refl _)] at h
            exact h
          go_wp2_with fail
          go_meet
          case rel => exact ⟨csi, HR, HVe⟩
  case rest =>
  obtain ⟨csn, HJn, HVn⟩ := hcut
  clear HJ HO8
  obtain ⟨wn, hren⟩ : ∃ y, y = wc := ⟨_, rfl⟩
  subst hren
  cases D2 with
  | false =>
    go_wp2_with fail
    go_ret
    exact ⟨rfl, HJn.out.h.bel⟩
  | true =>
    have HEn : Hid (∀ c, c < nn → lackK (csn.getD 0 []) (csn.getD c []) = [] ∧ ∀ q : Nat, q < 8 → 0 < nw q → ∃ x, getE (csn.getD c []) (q : Int) = some x ∧ x.v = nw q) :=
      fun c hc => vkI_end HVn.out (HOk.out.done rfl) HG0.out.1 HJn.out.good HG0.out.2 HN.out c hc
    have HX0 : Hid (mCacheO csn 0 = (csn.getD 0 [], 0)) := by
      have h0 : 0 < csn.length := by have := HJn.out.len; omega
      show mCacheO csn ((0 : Nat) : Int) = _
      rw [mCacheO, if_pos (by rw [nodeB_iff]; omega), cacheN_at h0, getD_get h0]
    have HGz : Hid (GoodC l (csn.getD 0 [])) := HJn.out.good.atD 0
    obtain ⟨z, HZe⟩ : ∃ z, Hid (csn.getD 0 [] = z) := ⟨csn.getD 0 [], show csn.getD 0 [] = _ from rfl⟩
    rw [HZe.out] at HEn HX0 HGz
    clear HVn HOk HG0 HN HZe
    obtain ⟨S, h1', _⟩ := HJn.out.h.call
    have HS : Hid _ := h1'
    clear h1'
    go_wp2_with fail
    refine (mCache_o HS.out HJn.out.good HX0.out).mono ?_
    rintro e wo ⟨v0, rfl, hr, _, hb⟩
    rw [eV_zeroN]
    have HJo : Hid (TcJ X A w.heap.size w wo m nn l csn nw (.slice p ng cap) ls) := HJn.out.grown hb
    have HZo : Hid (RowIs wo v0 z) := hr
    clear hb hr HS HX0 HJn
    go_wp2_with fail
    go_loopw [35] (fun c35 wr => ∃ (c : Nat), c ≤ nn ∧ c35 = .int .i64 c ∧ Hid (TcJ X A w.heap.size w wr m nn l csn nw (.slice p ng cap) ls) ∧ Hid (RowIs wr v0 z)) (fun c35 _ => nn - (intOf c35).toNat)
    case atStart => exact ⟨0, Nat.zero_le _, rfl, HJo, HZo⟩
    case round =>
      clear HJo HZo
      obtain ⟨c, hc, rfl, HJ, HZ⟩ := hrel
      by_cases hlt : c < nn
      · have hlti : (c : Int) < (nn : Int) := by omega
        have hcl : c < csn.length := by have := HJ.out.len; omega
        have HX : Hid (mCacheO csn (c : Int) = (csn.getD c [], 0)) := by
          show mCacheO csn (c : Int) = _
          rw [mCacheO, if_pos (by rw [nodeB_iff]; omega), cacheN_at hcl, getD_get hcl]
        have HE := HEn.out c hlt
        have HLk : Hid (lackK z (csn.getD c []) = []) := HE.1
        have HNw : Hid (∀ q : Nat, q < 8 → 0 < nw q → ∃ x, getE (csn.getD c []) (q : Int) = some x ∧ x.v = nw q) := HE.2
        have HGx : Hid (GoodC l (csn.getD c [])) := HJ.out.good.atD c
        clear HE hcl
        generalize csn.getD c [] = x at HX HLk HNw HGx
        obtain ⟨S, h1', _⟩ := HJ.out.h.call
        have HS : Hid _ := h1'
        clear h1'
        go_wp2_with fail
        refine (mCache_o HS.out HJ.out.good HX.out).mono ?_
        rintro e w1 ⟨v1, rfl, hr, _, hb⟩
        rw [eV_zeroN]
        have HJ1 : Hid (TcJ X A w.heap.size w w1 m nn l csn nw (.slice p ng cap) ls) := HJ.out.grown hb
        have HZ1 : Hid (RowIs w1 v0 z) := HZ.out.below hb
        have HR1 : Hid (RowIs w1 v1 x) := hr
        clear hb hr HS HX HJ HZ
        go_wp2_with fail
        refine (lacks_ok v0 v1 z x w1 HZ1.out HR1.out HGz.out.good.bad HGx.out.good.bad (TabIs_below HTb.out HJ1.out.h.bel)).mono ?_
        rw [HLk.out]
        rintro e w2 ⟨vk, rfl, ho, hb⟩
        have HJ2 : Hid (TcJ X A w.heap.size w w2 m nn l csn nw (.slice p ng cap) ls) := HJ1.out.grown hb
        have HZ2 : Hid (RowIs w2 v0 z) := HZ1.out.below hb
        have HR2 : Hid (RowIs w2 v1 x) := HR1.out.below hb
        obtain ⟨_, pk, ck, rfl, _⟩ := ho.ints
        rw [List.length_nil]
        clear hb ho HLk HJ1 HZ1 HR1
        go_wp2_with fail
        go_loopw [40] (fun c40 wq => ∃ (q : Nat), q ≤ 8 ∧ c40 = .int .i64 q ∧ Hid (TcJ X A w.heap.size w wq m nn l csn nw (.slice p ng cap) ls) ∧ Hid (RowIs wq v0 z) ∧ Hid (RowIs wq v1 x)) (fun c40 _ => 8 - (intOf c40).toNat)
        case atStart => exact ⟨0, Nat.zero_le _, rfl, HJ2, HZ2, HR2⟩
        case round =>
          clear HJ2 HZ2 HR2
          obtain ⟨q, hq, rfl, HJ, HZ, HR⟩ := hrel
          obtain ⟨wq, hren⟩ : ∃ y, y = wr := ⟨_, rfl⟩
          subst hren
          by_cases hq8 : q < 8
          · have hq8i : (q : Int) < 8 := by omega
            obtain ⟨x0, x1, x2, x3, x4, EX, hcx, hxe⟩ := getS_e v1 x q HGx.out.good.bad hq8
            have HCx : Hid _ := hcx
            have HXe : Hid (0 < nw q → EX = .nilIface ∧ x1 = nw q) := fun h0 => by
              obtain ⟨y, h3, h4⟩ := HNw.out q hq8 h0
              rcases hxe with ⟨h1, h2⟩ | ⟨h1, h2⟩
              · rw [h2] at h3
                obtain rfl := Option.some.inj h3
                exact ⟨h1, h4⟩
              · rw [h2] at h3
                cases h3
            clear hcx hxe
            go_wp2_with fail
            refine (HCx.out _ HR.out).mono ?_
            rintro e w3 ⟨rfl, hb⟩
            have B1 : Hid (Below wq.heap.size wq (w3.alloc (.cells #[.int .i64 x0, .int .i64 x1, .int .i64 x2, .bool x3, .string x4] 38))) := hb.alloc hb.size _
            have X1 : Hid (BoxAt (w3.alloc (.cells #[.int .i64 x0, .int .i64 x1, .int .i64 x2, .bool x3, .string x4] 38)) w3.heap.size x0 x1 x2 x3 x4) := box_new w3 x0 x1 x2 x3 x4 _ rfl
            clear hb HCx
            go_upto_region 71 with fail
            obtain ⟨w4, HW1⟩ : ∃ z, z = w3.alloc (.cells #[.int .i64 x0, .int .i64 x1, .int .i64 x2, .bool x3, .string x4] 38) := ⟨_, rfl⟩
            obtain ⟨P1, HP1⟩ : ∃ z, z = w3.heap.size := ⟨_, rfl⟩
            rw [← HW1] at B1 X1 ⊢
            rw [← HP1] at X1 ⊢
            clear HW1 HP1
            have HJ4 : Hid (TcJ X A w.heap.size w w4 m nn l csn nw (.slice p ng cap) ls) := HJ.out.grown B1.out
            have HZ4 : Hid (RowIs w4 v0 z) := HZ.out.below B1.out
            have HR4 : Hid (RowIs w4 v1 x) := HR.out.below B1.out
            obtain ⟨f0, f1, f2, f3, f4, ff⟩ := X1.out
            have l1 := X1.out.lt
            have e0 := HJ4.out.a8.cell q hq8
            have lA := HJ4.out.a8.lt
            clear HJ HZ HR B1 X1
            go_cut [350] (fun c wd => c = .bool false ∧ Hid (Below w4.heap.size w4 wd))
            case first =>
              try clear_value *
              as_aux_lemma =>
                let _BP : Exit → Act → World → Prop := bodyPost Tryd.prog Tryd.f3 fun _ _ => True
                by_cases hp : 0 < nw q
                · have hpd : decide (0 < nw q) = true := by simpa using hp
                  obtain ⟨h1, h2⟩ := HXe.out hp
                  have hxb : (x1 != nw q) = false := by simp [h2]
                  subst h1
                  clear hp h2 HXe
                  go_quiet (fail)
                  go_wp2_with fail
                  go_meet
                  case rel => exact ⟨rfl, below_drewN _ _ _⟩
                · have hpd : decide (0 < nw q) = false := by simpa using hp
                  clear hp HXe
                  go_quiet (fail)
                  go_wp2_with fail
                  go_meet
                  case rel => exact ⟨rfl, below_drewN _ _ _⟩
            case rest =>
            obtain ⟨h350, HB⟩ := hcut
            subst h350
            clear f0 f1 f2 f3 f4 ff l1 e0 lA HXe
            go_wp2_with fail
            go_roundw
            case rel => exact ⟨q + 1, by omega, by go_num, HJ4.out.grown HB.out, HZ4.out.below HB.out, HR4.out.below HB.out⟩
            case measure => simp [intOf]; omega
          · obtain rfl : q = 8 := by omega
            go_wp2_with fail
            go_roundw
            case rel => exact ⟨c + 1, by omega, by go_num, HJ, HZ⟩
            case measure => simp [intOf]; omega
      · obtain rfl : c = nn := by omega
        go_wp2_with fail
        go_ret
        exact ⟨rfl, HJ.out.h.bel⟩
end Go.Proofs.YtpcnfoaoajfhlaaDoor
