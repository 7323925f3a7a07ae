/-
  meretop.TopMail answers true, whatever is sent, and whatever comes.
-/
import Derived.Test.YtbincnajklmnaaaTmP
import Derived.Test.YtbincnajklmnaaaPl2
import Derived.Deep.DeepCutAuto
import Derived.Deep.CutBlock
import Derived.Deep.LoopGhost
import Derived.Deep.Draws
import Derived.Deep.RegionHeld3
import Derived.BigQuiet
import Derived.BigRegion
import Derived.WalkSmall
namespace Go.Proofs.Ytbincnajklmnaaa
set_option linter.unusedVariables false
set_option linter.unusedSimpArgs false
open Go.RowKit

set_option maxRecDepth 100000 in
set_option maxHeartbeats 64000000 in
theorem tmail_w (n : Int) (vs vt vc : Value) (ns nt nc : Nat) (w : World) (hs : IsSteps w vs ns) (ht : IsTexts w vt nt) (hc : IsSteps w vc nc) :
    Calls Try.prog 3 #[.int .i64 n, vs, vt, vc] w fun e w' => e = .returned (.bool true) ∧ Below w.heap.size w w' := by
  obtain ⟨aS, cS, rfl, hns, hs1⟩ := hs
  have HS1 : Hid (∀ i, i < ns → ∃ b o u m, aS = some ⟨b, o, none⟩ ∧ w.cell? ⟨b, o + i, none⟩ = some u ∧ IsInts w u m) := hs1
  obtain ⟨aC, cC, rfl, hnc, hc1⟩ := hc
  have HC1 : Hid (∀ i, i < nc → ∃ b o u m, aC = some ⟨b, o, none⟩ ∧ w.cell? ⟨b, o + i, none⟩ = some u ∧ IsInts w u m) := hc1
  obtain ⟨aT, cT, rfl, hnt, ht1⟩ := ht
  have HT1 : Hid (∀ i, i < nt → ∃ b o s, aT = some ⟨b, o, none⟩ ∧ w.cell? ⟨b, o + i, none⟩ = some (.string s) ∧ s.size ≤ maxLen) := ht1
  clear hs1 ht1 hc1
  unfold maxLen at hns hnt hnc
  obtain ⟨q0, HQ0⟩ : ∃ q : Nat → Nat → Bool, Hid (q = fun _ _ => false) := ⟨_, rfl⟩
  go_enter Try.func3, Try.ntmps3
  go_wp2_with fail
  refine (topOne_c w).mono ?_
  rintro e w4 ⟨rfl, hb⟩
  have B4 : Hid (Below w.heap.size w w4) := hb
  clear hb
  by_cases hn : n < 1 ∨ 6 < n
  · have HN : Hid (n < 1 ∨ 6 < n) := hn
    clear hn
    go_wp2_with (go_at_call 6; refine (mNew_bad n _ HN.out).mono ?_; rintro e w' ⟨rfl, hw⟩; rw [hw]; clear hw w')
    go_ret
    exact ⟨rfl, B4.out⟩
  obtain ⟨nn, rfl⟩ : ∃ k : Nat, n = k := ⟨n.toNat, by omega⟩
  have h1 : 1 ≤ nn := by omega
  have h6 : nn ≤ 6 := by omega
  clear hn
  go_wp2_with fail
  refine (mNew_ok nn w4 h1 h6).mono ?_
  rintro e w5 ⟨m, rfl, ⟨S, hm, hS⟩, hb⟩
  have hz4 := B4.out.size
  have M5 : Hid (Mh (fun _ => False) w.heap.size w w5 m [] (List.replicate nn [])) := ⟨⟨S, hm, fun c hc => ⟨by have := hS c hc; omega, id⟩⟩, B4.out.trans (hb.mono B4.out.size), Nat.le_trans B4.out.size hb.size, fun c hc => hc.elim⟩
  clear hm hS hb hz4 B4 h1 h6
  go_wp2_with fail
  refine (mlNew_c _).mono ?_
  rintro e w6 ⟨b, rfl, ⟨T0, hm0, hT0⟩, hb⟩
  rw [← HQ0.out] at hm0
  have T6 : Hid (TmIs (fun _ => False) w.heap.size w w6 m b [] (List.replicate nn []) [] q0) := ⟨Jm.new M5.out hm0 hT0 hb, goodM_new nn, QWas.nil _⟩
  clear hb hm0 hT0 M5
  go_upto_block 0 with fail
  go_cut [13, 14, 15, 16, 17, 18] (fun _ _ _ _ _ _ wd => ∃ (l : List Deed) (cs : List (List En)) (ls : List Lt), Hid (TmIs (fun _ => False) w.heap.size w wd m b l cs ls q0))
  case first =>
    go_wp2_with fail
    go_loopw [13] (fun c13 wr => ∃ (i : Nat) (l : List Deed) (cs : List (List En)) (ls : List Lt), i ≤ ns ∧ i ≤ 30 ∧ c13 = .int .i64 i ∧ Hid (TmIs (fun _ => False) w.heap.size w wr m b l cs ls q0)) (fun c13 _ => ns - (intOf c13).toNat)
    case atStart => exact ⟨0, _, _, _, by omega, by omega, rfl, T6⟩
    case round =>
      obtain ⟨i, l, cs, ls, hi1, hi2, rfl, HR⟩ := hrel
      clear T6
      by_cases hlt1 : i < ns ∧ i < 30
      · obtain ⟨hn1, hn2⟩ := hlt1
        have hd1 : decide ((i : Int) < (ns : Int)) = true := by simp; omega
        have hd2 : decide ((i : Int) < 30) = true := by simp; omega
        have hlti : (i : Int) < (ns : Int) := by omega
        obtain ⟨bS, oS, u, k, rfl, cu, HI⟩ := HS1.out i hn1
        obtain ⟨aI, cI, rfl, hm, hz⟩ := HI
        have HZ : Hid (∀ j, j < k → ∃ b o z, aI = some ⟨b, o, none⟩ ∧ w.cell? ⟨b, o + j, none⟩ = some (.int .i64 z)) := hz
        have HCu : Hid (w.cell? ⟨bS, oS + i, none⟩ = some (.slice aI k cI)) := cu
        have cu' := old_cell HR.out.h.bel cu
        have lS := World.block_lt_of_cell? wr _ cu'
        unfold maxLen at hm
        clear cu hz
        go_upto_if 50 with fail
        go_cut [14] (fun tv wd => wd = wr ∧ ∃ tx : ByteArray, tv = .string tx ∧ Hid (tx.size ≤ maxLen))
        case first =>
          by_cases hn3 : i < nt
          · obtain ⟨bT, oT, s, rfl, ct, hts⟩ := HT1.out i hn3
            have ct' := old_cell HR.out.h.bel ct
            have hn4 : (i : Int) < (nt : Int) := by omega
            go_wp2_with fail
            go_meet
            case rel => exact ⟨rfl, s, rfl, hts⟩
          · have hn4 : ¬ (i : Int) < (nt : Int) := by omega
            go_wp2_with fail
            go_meet
            case rel => exact ⟨rfl, _, rfl, by unfold Hid maxLen; decide⟩
        case rest =>
        obtain ⟨hwd, tx, hslot, HTx⟩ := hcut
        rw [hwd]
        clear hwd wc
        subst hslot
        by_cases hk2 : k = 2
        · subst hk2
          obtain ⟨bI, oI, z0, rfl, hz0⟩ := HZ.out 0 (by omega)
          obtain ⟨bJ, oJ, z1, hJ, hz1⟩ := HZ.out 1 (by omega)
          obtain ⟨rfl, rfl⟩ : bI = bJ ∧ oI = oJ := by simpa using hJ
          simp only [Nat.add_zero] at hz0
          have HCz : Hid (w.cell? ⟨bI, oI, none⟩ = some (.int .i64 z0) ∧ w.cell? ⟨bI, oI + 1, none⟩ = some (.int .i64 z1)) := ⟨hz0, hz1⟩
          have cz0 := old_cell HR.out.h.bel hz0
          have cz1 := old_cell HR.out.h.bel hz1
          have lI := World.block_lt_of_cell? wr _ cz0
          clear HZ hJ hz0 hz1
          obtain ⟨⟨l', cs', kk, er⟩, HRp⟩ : ∃ R, Hid (mPut l cs z0 z1 tx = R) := ⟨_, rfl⟩
          have HG7 : Hid (GoodM l' cs') := by have h1 := mPut_good HR.out.good z0 z1 tx; rw [HRp.out] at h1; exact h1
          obtain ⟨ev, HEv⟩ : ∃ ev, Hid (eV er = ev) := ⟨_, rfl⟩
          obtain ⟨S, h1', h2'⟩ := HR.out.h.callM
          have HLen : Hid (cs.length ≤ 6) := h1'.len
          have HS : Hid _ := h1'
          have HC : Hid _ := h2'
          clear h1' h2'
          go_upto_region 15 with fail
          go_cut [15, 16] (fun c15 c16 wd => c15 = .int .i64 kk ∧ c16 = ev ∧ Hid (Jm (fun _ => False) w.heap.size w wd m b l' cs' ls q0))
          case first =>
            have KP : Hid (∀ w', MeshTo S wr w' m l' cs' → w'.cell? ⟨bS, oS + i, none⟩ = some (.slice (some ⟨bI, oI, none⟩) 2 cI) ∧ w'.cell? ⟨bI, oI, none⟩ = some (.int .i64 z0) ∧ w'.cell? ⟨bI, oI + 1, none⟩ = some (.int .i64 z1)) := fun w' ht => ⟨old_cell (HC.out _ _ _ ht).1.bel HCu.out, old_cell (HC.out _ _ _ ht).1.bel HCz.out.1, old_cell (HC.out _ _ _ ht).1.bel HCz.out.2⟩
            go_region_held3 (fun w' => w'.cell? ⟨bS, oS + i, none⟩ = some (.slice (some ⟨bI, oI, none⟩) 2 cI) ∧ w'.cell? ⟨bI, oI, none⟩ = some (.int .i64 z0) ∧ w'.cell? ⟨bI, oI + 1, none⟩ = some (.int .i64 z1)) (first | go_keep | (exact KP.out _ HTo.out)) (first | (go_at_call 8; refine Calls.mono (mPut_n (S := S) (l := l) (cs := cs) (MeshAt.grown HS.out (by go_grown)) HR.out.good HTx.out HRp.out HEv.out) ?_; rintro e w7 ⟨rfl, hto⟩; have HTo : Hid (MeshTo S wr w7 m l' cs') := MeshTo.after (by go_grown) hto; clear hto))
            all_goals go_wp2_with fail
            all_goals go_meet
            all_goals exact ⟨rfl, rfl, (HC.out _ _ _ HTo.out).1⟩
          case rest =>
          obtain ⟨h15, h16, HJ7⟩ := hcut
          obtain ⟨w7, hren⟩ : ∃ x, x = wc := ⟨_, rfl⟩
          subst hren
          subst h15 h16
          clear HS HC cu' lS cz0 cz1 lI hm
          have HB7 : Hid (Below w.heap.size w w7) := HJ7.out.bel
          by_cases her : er = 0
          · subst her
            have hev := HEv.out
            rw [eV_zeroN] at hev
            subst hev
            obtain ⟨⟨m2, HL2⟩, hkk, hnode⟩ := put_done HRp.out
            have HGet : Hid (mGet l' cs' z0 z1 kk = (cs', ⟨z1, kk, kk, false, tx⟩, true, 0)) := put_get HR.out.good HRp.out
            have HW7 : Hid (Was l' ⟨z1, kk, kk, false, tx⟩) := (get_told HG7.out HGet.out).2.2
            have HQ7 : Hid (QWas l' ls) := by rw [HL2]; exact HR.out.was.later m2
            obtain ⟨ln, HLn⟩ : ∃ ln, Hid (l'.length = ln) := ⟨_, rfl⟩
            rw [HLn.out] at hkk
            subst hkk
            obtain ⟨z, rfl, hz⟩ := node_nat hnode
            have hz6 : z < 6 := by have := HLen.out; omega
            clear HL2 HRp HEv hnode hz HLen
            obtain ⟨S, h1', h2', h3'⟩ := HJ7.out.callN
            have HS : Hid _ := h1'
            have HC : Hid _ := h2'
            have HC2 : Hid _ := h3'
            have HN7 : Hid (w.heap.size ≤ w7.heap.size) := HJ7.out.hN
            clear h1' h2' h3'
            have cu7 := old_cell HB7.out HCu.out
            have cz0 := old_cell HB7.out HCz.out.1
            have cz1 := old_cell HB7.out HCz.out.2
            have lS := World.block_lt_of_cell? w7 _ cu7
            have lI := World.block_lt_of_cell? w7 _ cz0
            go_upto_region 17 with fail
            go_cut [16, 17, 18] (fun c16 c17 _ wd => ∃ A, c16 = .nilIface ∧ c17 = .pointer (some ⟨A, 0, none⟩) ∧ Hid (BoxAt wd A z1 ln ln false tx) ∧ Hid (Jm (fun c => c = A) w.heap.size w wd m b l' cs' ls q0))
            case first =>
              have KP : Hid (∀ w', MeshTo S w7 w' m l' cs' → w'.cell? ⟨bS, oS + i, none⟩ = some (.slice (some ⟨bI, oI, none⟩) 2 cI) ∧ w'.cell? ⟨bI, oI, none⟩ = some (.int .i64 (z : Int)) ∧ w'.cell? ⟨bI, oI + 1, none⟩ = some (.int .i64 z1)) := fun w' ht => ⟨old_cell (HC.out _ _ _ ht).bel HCu.out, old_cell (HC.out _ _ _ ht).bel HCz.out.1, old_cell (HC.out _ _ _ ht).bel HCz.out.2⟩
              have KA : Hid (∀ w', MeshTo S w7 w' m l' cs' → ∀ o, (w'.alloc o).cell? ⟨bS, oS + i, none⟩ = some (.slice (some ⟨bI, oI, none⟩) 2 cI) ∧ (w'.alloc o).cell? ⟨bI, oI, none⟩ = some (.int .i64 (z : Int)) ∧ (w'.alloc o).cell? ⟨bI, oI + 1, none⟩ = some (.int .i64 z1)) := fun w' ht o => by
                obtain ⟨k1, k2, k3⟩ := KP.out w' ht
                exact ⟨old_cell (Below.alloc (Below.refl w'.heap.size w') (Nat.le_refl _) o) k1, old_cell (Below.alloc (Below.refl w'.heap.size w') (Nat.le_refl _) o) k2, old_cell (Below.alloc (Below.refl w'.heap.size w') (Nat.le_refl _) o) k3⟩
              have nn1 := World.new_ne w7 _ cu7
              have nn2 := World.new_ne w7 _ cz0
              go_region_held3 (fun w' => w'.cell? ⟨bS, oS + i, none⟩ = some (.slice (some ⟨bI, oI, none⟩) 2 cI) ∧ w'.cell? ⟨bI, oI, none⟩ = some (.int .i64 (z : Int)) ∧ w'.cell? ⟨bI, oI + 1, none⟩ = some (.int .i64 z1)) (first | go_keep | (exact KA.out _ HTo.out _) | (exact KP.out _ HTo.out)) (first | (go_at_call 10; refine Calls.mono (mSeq_n (S := S) (l := l') (cs := cs') (MeshAt.grown HS.out (by go_grown)) HLn.out) ?_; rintro e w' ⟨rfl, rfl⟩) | (go_at_call 9; refine Calls.mono (mGet_n (S := S) (l := l') (cs := cs') (MeshAt.grown HS.out (by go_grown)) HG7.out HGet.out) ?_; rintro e w8 ⟨rfl, hto⟩; have HTo : Hid (MeshTo S w7 w8 m l' cs') := MeshTo.after (by go_grown) hto; try (have HTa : Hid (Jm (fun c => c = w7.heap.size) w.heap.size w w8 m b l' cs' ls q0 ∧ BoxAt w8 w7.heap.size 0 0 0 false ⟨#[]⟩) := (HC2.out (.cells #[.int .i64 0, .int .i64 0, .int .i64 0, .bool false, .string ⟨#[]⟩] 36) w8 l' cs' ⟨⟨hto.1.os, hto.1.tape, hto.1.output, hto.1.size, hto.1.block⟩, hto.2⟩).imp id (fun hh => (box_new w7 0 0 0 false ⟨#[]⟩ _ rfl).of_block hh)); try (obtain ⟨g0, g1, g2, g3, g4, gf⟩ := HTa.out.2); obtain ⟨k1, k2, k3⟩ := KP.out _ HTo.out; have kn1 := World.new_ne w8 _ k1; have kn2 := World.new_ne w8 _ k2; clear hto))
              all_goals go_wp2_with fail
              all_goals go_meet
              all_goals refine ⟨_, rfl, rfl, ?_, ?_⟩
              all_goals first | exact box_new w8 _ _ _ _ _ _ rfl | exact HTa.out.2.set _ _ _ _ _ | exact HTa.out.1.sets rfl HN7.out _ _ _ _ _ | exact (show Jm _ _ _ _ _ _ _ _ _ _ from Jm.more (HC.out w8 l' cs' HTo.out) ((Below.refl _ _).alloc (Nat.le_refl _) _) (fun c hc => .inr (Nat.le_of_eq (Eq.symm hc))) (fun c hc => by have hc' : c = w8.heap.size := hc; rw [hc']; simp))
            case rest =>
            obtain ⟨A, h16, h17, HX, HJ8⟩ := hcut
            obtain ⟨w8, hren⟩ : ∃ x, x = wc := ⟨_, rfl⟩
            subst hren
            subst h16 h17
            clear HS HC HJ7 HB7 cu7 cz0 cz1 lS lI
            have HB8 : Hid (Below w.heap.size w w8) := HJ8.out.bel
            obtain ⟨T, h1', h2'⟩ := HJ8.out.callB
            have HT : Hid _ := h1'
            have HC : Hid _ := h2'
            clear h1' h2'
            obtain ⟨d0, d1, d2, d3, d4, df⟩ := HX.out
            have lA := HX.out.lt
            have cu8 := old_cell HB8.out HCu.out
            have cz0 := old_cell HB8.out HCz.out.1
            have lS := World.block_lt_of_cell? w8 _ cu8
            have lI := World.block_lt_of_cell? w8 _ cz0
            go_upto_region 20 with fail
            have KP : Hid (∀ w' ls', MlTo T w8 w' b ls' q0 → w'.cell? ⟨bS, oS + i, none⟩ = some (.slice (some ⟨bI, oI, none⟩) 2 cI) ∧ w'.cell? ⟨bI, oI, none⟩ = some (.int .i64 (z : Int)) ∧ w'.cell? ⟨A, 0, none⟩ = some (.int .i64 z1) ∧ w'.cell? ⟨A, 1, none⟩ = some (.int .i64 (ln : Int)) ∧ w'.cell? ⟨A, 2, none⟩ = some (.int .i64 (ln : Int)) ∧ w'.cell? ⟨A, 3, none⟩ = some (.bool false) ∧ w'.cell? ⟨A, 4, none⟩ = some (.string tx)) := fun w' ls' ht => by
              obtain ⟨r1, r2, _⟩ := HC.out _ _ _ ht
              have hx := HX.out.of_block (r2 A rfl)
              exact ⟨old_cell r1.bel HCu.out, old_cell r1.bel HCz.out.1, hx.c0, hx.c1, hx.c2, hx.c3, hx.c4⟩
            go_region_held3 (fun w' => w'.cell? ⟨bS, oS + i, none⟩ = some (.slice (some ⟨bI, oI, none⟩) 2 cI) ∧ w'.cell? ⟨bI, oI, none⟩ = some (.int .i64 (z : Int)) ∧ w'.cell? ⟨A, 0, none⟩ = some (.int .i64 z1) ∧ w'.cell? ⟨A, 1, none⟩ = some (.int .i64 (ln : Int)) ∧ w'.cell? ⟨A, 2, none⟩ = some (.int .i64 (ln : Int)) ∧ w'.cell? ⟨A, 3, none⟩ = some (.bool false) ∧ w'.cell? ⟨A, 4, none⟩ = some (.string tx)) (first | go_keep | (exact (HTo.out.elim fun ls' h' => KP.out _ ls' h'.2))) (first | (go_at_call 11; refine Calls.mono (mlSend_c (S := T) (l := ls) (q := q0) (MlAt.grown HT.out (by go_grown)) _ _ _ _ _ _ _) ?_; rintro e w9 ⟨rfl, hto⟩; have HTo : Hid (∃ ls', QWas l' ls' ∧ MlTo T w8 w9 b ls' q0) := ⟨_, HQ7.out.send HW7.out, MlTo.after (by go_grown) hto⟩; clear hto))
            all_goals go_wp2_with fail
            all_goals go_roundw
            all_goals first
              | (show _ < _; simp [intOf]; omega)
              | (obtain ⟨ls', hq', ht'⟩ := HTo.out; exact ⟨i + 1, l', cs', ls', by omega, by omega, by go_num, (HC.out _ _ _ ht').1.less (fun c hc => hc.elim), HG7.out, hq'⟩)
          · have hev := HEv.out
            rw [eV_errN her] at hev
            subst hev
            have HEnd : Hid (TmIs (fun _ => False) w.heap.size w w7 m b l' cs' ls q0) := ⟨HJ7.out, HG7.out, by rw [(put_not HRp.out her).1]; exact HR.out.was⟩
            go_wp2_with fail
            go_roundw
            case rel => exact ⟨i + 1, l', cs', ls, by omega, by omega, by go_num, HEnd⟩
            case measure => simp [intOf]; omega
        · have hk2b : ((k : Int) != 2) = true := by simp; omega
          go_wp2_with fail
          go_roundw
          case rel => exact ⟨i + 1, l, cs, ls, by omega, by omega, by go_num, HR⟩
          case measure => simp [intOf]; omega
      · by_cases hn1 : i < ns
        · have hd1 : decide ((i : Int) < (ns : Int)) = true := by simp; omega
          have hd2 : decide ((i : Int) < 30) = false := by simp; omega
          go_wp2_with fail
          go_meet
          case rel => exact ⟨l, cs, ls, HR⟩
        · have hd1 : decide ((i : Int) < (ns : Int)) = false := by simp; omega
          go_wp2_with fail
          go_meet
          case rel => exact ⟨l, cs, ls, HR⟩
  case rest =>
  obtain ⟨l, cs, ls0, HM⟩ := hcut
  obtain ⟨w7, hren⟩ : ∃ x, x = wc := ⟨_, rfl⟩
  subst hren
  clear T6
  have HG : Hid (GoodM l cs) := HM.out.good
  have T7 : Hid (TmIs (fun c => (Value.slice none 0 0).ownBlock = some c) w.heap.size w w7 m b l cs ls0 q0) := ⟨HM.out.h.less (fun c hc => by simp [Value.ownBlock] at hc), HM.out.good, HM.out.was⟩
  have R7 : Hid (RowIs w7 (.slice none 0 0) []) := RowIs.nil _
  have G7 : Hid (GoodC l []) := goodC_nil l
  clear HM
  go_upto_block 2 with fail
  go_cut [19, 20, 21, 22] (fun c19 _ _ _ wd => ∃ (xs : List En) (ls : List Lt) (v : Value), c19 = v ∧ Hid (TmIs (fun c => v.ownBlock = some c) w.heap.size w wd m b l cs ls q0) ∧ Hid (RowIs wd v xs) ∧ Hid (GoodC l xs))
  case first =>
    try clear_value *
    as_aux_lemma =>
      let _BP : Exit → Act → World → Prop := bodyPost Try.prog Try.f3 fun _ _ => True
      go_wp2_with fail
      go_loopw [19, 20] (fun c19 c20 wr => ∃ (j : Nat) (xs : List En) (ls : List Lt) (v : Value), j ≤ nc ∧ j ≤ 60 ∧ c19 = v ∧ c20 = .int .i64 j ∧ Hid (TmIs (fun c => v.ownBlock = some c) w.heap.size w wr m b l cs ls q0) ∧ Hid (RowIs wr v xs) ∧ Hid (GoodC l xs)) (fun _ c20 _ => nc - (intOf c20).toNat)
      case atStart => exact ⟨0, [], ls0, _, by omega, by omega, rfl, rfl, T7, R7, G7⟩
      case round =>
        obtain ⟨j, xs, ls, v, hj1, hj2, hv, rfl, HR, HRow, HGC⟩ := hrel
        have hv' := hv.symm
        subst hv'
        clear T7 R7 G7
        by_cases hlt1 : j < nc ∧ j < 60
        · obtain ⟨hn1, hn2⟩ := hlt1
          have hd1 : decide ((j : Int) < (nc : Int)) = true := by simp; omega
          have hd2 : decide ((j : Int) < 60) = true := by simp; omega
          have hlti : (j : Int) < (nc : Int) := by omega
          obtain ⟨bS, oS, u, k, rfl, cu, HI⟩ := HC1.out j hn1
          obtain ⟨aI, cI, rfl, hm, hz⟩ := HI
          have HZ : Hid (∀ j, j < k → ∃ b o z, aI = some ⟨b, o, none⟩ ∧ w.cell? ⟨b, o + j, none⟩ = some (.int .i64 z)) := hz
          have cu' := old_cell HR.out.h.bel cu
          have lS := World.block_lt_of_cell? wr _ cu'
          unfold maxLen at hm
          clear cu hz
          by_cases hk2 : k = 2
          · subst hk2
            obtain ⟨bI, oI, z0, rfl, hz0⟩ := HZ.out 0 (by omega)
            obtain ⟨bJ, oJ, z1, hJ, hz1⟩ := HZ.out 1 (by omega)
            obtain ⟨rfl, rfl⟩ : bI = bJ ∧ oI = oJ := by simpa using hJ
            simp only [Nat.add_zero] at hz0
            have cz0 := old_cell HR.out.h.bel hz0
            have cz1 := old_cell HR.out.h.bel hz1
            have lI := World.block_lt_of_cell? wr _ cz0
            clear HZ hJ hz0 hz1
            obtain ⟨T, h1', h2'⟩ := HR.out.h.callB
            have HT : Hid _ := h1'
            have HC : Hid _ := h2'
            clear h1' h2'
            by_cases e0 : z0 = 0
            · have e0b : (z0 == 0) = true := by simp [e0]
              clear e0
              obtain ⟨mm, HMm⟩ : ∃ mm, Hid (hasE ls.length z1 = mm) := ⟨_, rfl⟩
              obtain ⟨ls', HLs⟩ : ∃ ls', Hid (loseL ls z1 = ls') := ⟨_, rfl⟩
              have HQ : Hid (QWas l ls') := by rw [← HLs.out]; exact HR.out.was.lose z1
              go_wp2_with fail
              refine (mlLose_n HT.out HMm.out HLs.out).mono ?_
              rintro e w8 ⟨rfl, hto⟩
              obtain ⟨h1', h2', h3'⟩ := HC.out _ _ _ hto
              have HEnd : Hid (TmIs (fun c => v.ownBlock = some c) w.heap.size w w8 m b l cs ls' q0) := ⟨h1', HG.out, HQ.out⟩
              have HRe : Hid (RowIs w8 v xs) := HRow.out.blocks h3' (fun c hc _ => h2' c hc)
              clear hto h1' h2' h3' HT HC cu' cz0 cz1 lS lI
              go_wp2_with fail
              go_roundw
              case rel => exact ⟨j + 1, xs, ls', v, by omega, by omega, rfl, by go_num, HEnd, HRe, HGC⟩
              case measure => simp [intOf]; omega
            · have e0b : (z0 == 0) = false := by simp [e0]
              clear e0
              by_cases e1 : z0 = 1
              · have e1b : (z0 == 1) = true := by simp [e1]
                clear e1
                obtain ⟨mm, HMm⟩ : ∃ mm, Hid (twiceE ls.length z1 = mm) := ⟨_, rfl⟩
                obtain ⟨ls', HLs⟩ : ∃ ls', Hid (twiceL ls z1 = ls') := ⟨_, rfl⟩
                have HQ : Hid (QWas l ls') := by rw [← HLs.out]; exact HR.out.was.twice z1
                go_wp2_with fail
                refine (mlTwice_n HT.out HMm.out HLs.out).mono ?_
                rintro e w8 ⟨rfl, hto⟩
                obtain ⟨h1', h2', h3'⟩ := HC.out _ _ _ hto
                have HEnd : Hid (TmIs (fun c => v.ownBlock = some c) w.heap.size w w8 m b l cs ls' q0) := ⟨h1', HG.out, HQ.out⟩
                have HRe : Hid (RowIs w8 v xs) := HRow.out.blocks h3' (fun c hc _ => h2' c hc)
                clear hto h1' h2' h3' HT HC cu' cz0 cz1 lS lI
                go_wp2_with fail
                go_roundw
                case rel => exact ⟨j + 1, xs, ls', v, by omega, by omega, rfl, by go_num, HEnd, HRe, HGC⟩
                case measure => simp [intOf]; omega
              · have e1b : (z0 == 1) = false := by simp [e1]
                clear e1
                cases hi : (decide (0 ≤ z1) && decide (z1 < ls.length))
                · have HI : Hid ((decide (0 ≤ z1) && decide (z1 < ls.length)) = false) := hi
                  clear hi
                  go_wp2_with fail
                  refine (mlGive_err HT.out HI.out).mono ?_
                  rintro e w8 ⟨rfl, hb⟩
                  have HEnd : Hid (TmIs (fun c => v.ownBlock = some c) w.heap.size w w8 m b l cs ls q0) := HR.out.grown hb
                  have HRe : Hid (RowIs w8 v xs) := HRow.out.below hb
                  clear hb HT HC cu' cz0 cz1 lS lI
                  have HEnd2 : Hid (TmIs (fun c => v.ownBlock = some c) w.heap.size w (w8.alloc (.cells #[.int .i64 0, .int .i64 0, .int .i64 0, .int .i64 0, .int .i64 0, .bool false, .string ⟨#[]⟩] 42)) m b l cs ls q0) := HEnd.out.grown ((Below.refl _ _).alloc (Nat.le_refl _) _)
                  have HRe2 : Hid (RowIs (w8.alloc (.cells #[.int .i64 0, .int .i64 0, .int .i64 0, .int .i64 0, .int .i64 0, .bool false, .string ⟨#[]⟩] 42)) v xs) := HRe.out.below ((Below.refl _ _).alloc (Nat.le_refl _) _)
                  go_wp2_with fail
                  go_roundw
                  case rel => exact ⟨j + 1, xs, ls, v, by omega, by omega, rfl, by go_num, HEnd2, HRe2, HGC⟩
                  case measure => simp [intOf]; omega
                · obtain ⟨z, rfl, hz⟩ : ∃ z : Nat, z1 = z ∧ z < ls.length := by
                    simp only [Bool.and_eq_true, decide_eq_true_eq] at hi
                    exact ⟨z1.toNat, by omega, by omega⟩
                  have HZl : Hid (z < ls.length) := hz
                  obtain ⟨y, HY⟩ : ∃ y, Hid (ls[z] = y) := ⟨ls[z], show ls[z] = ls[z] from rfl⟩
                  obtain ⟨f, d, ⟨x0, x1, x2, x3, x4⟩⟩ := y
                  have HW : Hid (Was l ⟨x0, x1, x2, x3, x4⟩) := by have := HR.out.was ls[z] (List.getElem_mem hz); rw [HY.out] at this; exact this
                  obtain ⟨ls', HLs⟩ : ∃ ls', Hid (ls.eraseIdx z = ls') := ⟨_, rfl⟩
                  have HQ : Hid (QWas l ls') := by rw [← HLs.out]; exact fun y hy => HR.out.was y (List.mem_of_mem_eraseIdx hy)
                  obtain ⟨R1, R2, hadd, hgr⟩ := add_was HG.out.good HG.out.len HGC.out HW.out
                  have HAdd : Hid (cacheAdd xs ⟨x0, x1, x2, x3, x4⟩ = (R1, R2, 0)) := hadd
                  have HGR : Hid (GoodC l R1) := hgr
                  clear hi hz hadd hgr
                  go_wp2_with fail
                  refine (mlGive_ok z HZl.out HT.out f d x0 x1 x2 x3 x4 HY.out).mono ?_
                  rw [HLs.out]
                  rintro e w8 ⟨rfl, hto⟩
                  obtain ⟨h1', h2', h3'⟩ := HC.out _ _ _ hto
                  have HE8 : Hid (TmIs (fun c => v.ownBlock = some c) w.heap.size w w8 m b l cs ls' q0) := ⟨h1', HG.out, HQ.out⟩
                  have HR8 : Hid (RowIs w8 v xs) := HRow.out.blocks h3' (fun c hc _ => h2' c hc)
                  clear hto h1' h2' h3' HT HC cu' cz0 cz1 lS lI HY HLs HZl
                  go_upto_region 31 with fail
                  have HE9 : Hid (TmIs (fun c => v.ownBlock = some c) w.heap.size w (w8.alloc (.cells #[.int .i64 f, .int .i64 d, .int .i64 x0, .int .i64 x1, .int .i64 x2, .bool x3, .string x4] 42)) m b l cs ls' q0) := HE8.out.grown ((Below.refl _ _).alloc (Nat.le_refl _) _)
                  have HR9 : Hid (RowIs (w8.alloc (.cells #[.int .i64 f, .int .i64 d, .int .i64 x0, .int .i64 x1, .int .i64 x2, .bool x3, .string x4] 42)) v xs) := HR8.out.below ((Below.refl _ _).alloc (Nat.le_refl _) _)
                  have Y9 : Hid (BoxL (w8.alloc (.cells #[.int .i64 f, .int .i64 d, .int .i64 x0, .int .i64 x1, .int .i64 x2, .bool x3, .string x4] 42)) w8.heap.size f d x0 x1 x2 x3 x4) := boxL_new w8 _ _ _ _ _ _ _ _ rfl
                  generalize (w8.alloc (.cells #[.int .i64 f, .int .i64 d, .int .i64 x0, .int .i64 x1, .int .i64 x2, .bool x3, .string x4] 42)) = w9 at HE9 HR9 Y9 ⊢
                  generalize w8.heap.size = B9 at Y9 ⊢
                  clear HE8 HR8
                  obtain ⟨y0, y1, y2, y3, y4, y5, y6, yf⟩ := Y9.out
                  go_wp2_with fail
                  refine (add_w HAdd.out v _ HR9.out).mono ?_
                  rintro e w10 ⟨v', rfl, hown, hb⟩
                  have HEnd : Hid (TmIs (fun c => v'.ownBlock = some c) w.heap.size w w10 m b l cs ls' q0) := ⟨HE9.out.h.more hb (fun c hc => .inr (ownsRow_from hown c hc)) (fun c hc => ownsRow_lt hown c hc), HG.out, HQ.out⟩
                  have HRe : Hid (RowIs w10 v' R1) := RowIs.own hown
                  obtain ⟨_, pv, cv, rfl, _⟩ := HRe.out
                  clear hown hb y0 y1 y2 y3 y4 y5 y6 yf Y9
                  go_wp2_with fail
                  go_roundw
                  case rel => exact ⟨j + 1, R1, ls', _, by omega, by omega, rfl, by go_num, HEnd, HRe, HGR⟩
                  case measure => simp [intOf]; omega
          · have hk2b : ((k : Int) != 2) = true := by simp; omega
            go_wp2_with fail
            go_roundw
            case rel => exact ⟨j + 1, xs, ls, v, by omega, by omega, rfl, by go_num, HR, HRow, HGC⟩
            case measure => simp [intOf]; omega
        · by_cases hn1 : j < nc
          · have hd1 : decide ((j : Int) < (nc : Int)) = true := by simp; omega
            have hd2 : decide ((j : Int) < 60) = false := by simp; omega
            go_wp2_with fail
            go_meet
            case rel => exact ⟨xs, ls, v, rfl, HR, HRow, HGC⟩
          · have hd1 : decide ((j : Int) < (nc : Int)) = false := by simp; omega
            go_wp2_with fail
            go_meet
            case rel => exact ⟨xs, ls, v, rfl, HR, HRow, HGC⟩
  case rest =>
  obtain ⟨xs, ls, v, hv, HM, HRow, HGC⟩ := hcut
  obtain ⟨w8, hren⟩ : ∃ x, x = wc := ⟨_, rfl⟩
  subst hren
  subst hv
  clear T7 R7 G7
  have HBad : Hid (badL xs = 0) := HGC.out.good.bad
  obtain ⟨hxl, pv, cv, hsl, _⟩ := HRow.out
  subst hsl
  obtain ⟨nx, HNx⟩ : ∃ nx, Hid (xs.length = nx) := ⟨_, rfl⟩
  rw [HNx.out] at hxl HRow ⊢
  have H8 : Hid (Mh (fun _ => False) w.heap.size w w8 m l cs) := by
    obtain ⟨S, T, h1, h2, h3, h4⟩ := HM.out.h.s
    exact ⟨⟨S, h1, fun c hc => ⟨(h3 c hc).1, id⟩⟩, HM.out.h.bel, HM.out.h.hN, fun c hc => hc.elim⟩
  have hx63 : nx ≤ 9223372036854775807 := hxl
  clear HM
  go_wp2_with fail
  go_loopw [23] (fun c23 wq => ∃ j : Nat, j ≤ nx ∧ c23 = .int .i64 j ∧ Hid (Mh (fun _ => False) w.heap.size w wq m l cs) ∧ Hid (RowIs wq (.slice pv nx cv) xs)) (fun c23 _ => nx - (intOf c23).toNat)
  case atStart => exact ⟨0, Nat.zero_le _, rfl, H8, HRow⟩
  case round =>
    obtain ⟨j, hj, rfl, HQ, HRq⟩ := hrel
    clear H8 HRow
    by_cases hlj : j < nx
    · have hlji : (j : Int) < (nx : Int) := by omega
      have hjl : j < xs.length := by rw [HNx.out]; exact hlj
      obtain ⟨_, p', c', he, hrow⟩ := HRq.out
      obtain ⟨rfl, hnx, rfl⟩ : pv = p' ∧ nx = xs.length ∧ cv = c' := by simpa using he
      clear hnx he
      obtain ⟨bx, ox, rfl, hbx, hat⟩ := hrow (fun h => by simp [h] at hjl)
      have HAt : Hid (EnAt wr bx (ox + j * 5) xs[j]) := hat j hjl
      have HW : Hid (Was l xs[j]) := HGC.out.was _ (List.getElem_mem hjl)
      obtain ⟨y, HY⟩ : ∃ y, Hid (xs[j] = y) := ⟨xs[j], show xs[j] = xs[j] from rfl⟩
      rw [HY.out] at HAt HW
      clear HY hrow hat
      obtain ⟨x0, x1, x2, x3, x4⟩ := y
      have HAO : Hid (atO l x0 x2 = (⟨x0, x1, x2, x3, x4⟩, 0)) := was_at HW.out
      obtain ⟨S, h1', _⟩ := HQ.out.call
      have HS : Hid _ := h1'
      clear h1'
      obtain ⟨c0, c1, c2, c3, c4⟩ := HAt.out
      dsimp only at c0 c1 c2 c3 c4
      go_upto_region 38 with fail
      go_cut [24, 25] (fun c24 c25 wd => ∃ A, c24 = .pointer (some ⟨A, 0, none⟩) ∧ c25 = .nilIface ∧ Hid (BoxAt wd A x0 x1 x2 x3 x4) ∧ Hid (Below wr.heap.size wr wd))
      case first =>
        refine wp_region_noPanic ?_
        go_region_with (go_at_call 16; refine Calls.mono (mAt_o (S := S) (l := l) (cs := cs) (MeshAt.grown HS.out (by go_grown)) (congrArg Prod.fst HAO.out) (congrArg Prod.snd HAO.out)) ?_; rw [eV_zeroN]; rintro e w9 ⟨rfl, hb9⟩; have HB9 : Hid (Below wr.heap.size wr w9) := Below.trans (by go_grown) (hb9.mono (by simp)); try (have HX9 : Hid (BoxAt w9 wr.heap.size 0 0 0 false ⟨#[]⟩) := BoxAt.below (box_new wr 0 0 0 false ⟨#[]⟩ _ rfl) (B := wr.heap.size + 1) ⟨hb9.os, hb9.tape, hb9.output, by simpa using hb9.size, fun c hc => hb9.block c (by simpa using hc)⟩ (by omega)); try (obtain ⟨g0, g1, g2, g3, g4, gf⟩ := HX9.out); clear hb9)
        all_goals refine NoPanic.normal ?_
        all_goals go_wp2_with fail
        all_goals go_meet
        all_goals refine ⟨_, rfl, rfl, ?_, ?_⟩
        all_goals first | exact HX9.out.set _ _ _ _ _ | exact box_new w9 _ _ _ _ _ _ rfl | (have hbw := HB9.out; have hbs := hbw.size; show Below _ _ _; go_grown)
      case rest =>
      obtain ⟨A, h24, h25, HX, HB⟩ := hcut
      obtain ⟨w9, hren⟩ : ∃ x, x = wc := ⟨_, rfl⟩
      subst hren
      subst h24 h25
      have HQ9 : Hid (Mh (fun _ => False) w.heap.size w w9 m l cs) := HQ.out.grown HB.out
      have R9 : Hid (RowIs w9 (.slice (some ⟨bx, ox, none⟩) nx cv) xs) := HRq.out.below HB.out
      have A9 : Hid (EnAt w9 bx (ox + j * 5) ⟨x0, x1, x2, x3, x4⟩) := HAt.out.of_block (HB.out.block bx hbx)
      have hbx9 : bx < w9.heap.size := Nat.lt_of_lt_of_le hbx HB.out.size
      clear HS c0 c1 c2 c3 c4 HQ HRq HAt hbx HB
      obtain ⟨c0, c1, c2, c3, c4⟩ := A9.out
      dsimp only at c0 c1 c2 c3 c4
      obtain ⟨d0, d1, d2, d3, d4, df⟩ := HX.out
      have lA := HX.out.lt
      have hq := neq_cells x0 x1 x2 x3 x4 x0 x1 x2 x3 x4 true (En.same_self _)
      have hgd := eqGuard_en
      go_upto_region 39 with fail
      go_cut [226] (fun c wd => c = .bool false ∧ Hid (Below w9.heap.size w9 wd))
      case first =>
        go_quiet (fail)
        all_goals go_wp2_with fail
        all_goals go_meet
        all_goals exact ⟨rfl, show Below _ _ _ from ⟨rfl, rfl, rfl, Nat.le_refl _, fun _ _ => rfl⟩⟩
      case rest =>
      obtain ⟨rfl, HB⟩ := hcut
      have HQ10 : Hid (Mh (fun _ => False) w.heap.size w wc m l cs) := HQ9.out.grown HB.out
      have R10 : Hid (RowIs wc (.slice (some ⟨bx, ox, none⟩) nx cv) xs) := R9.out.below HB.out
      clear c0 c1 c2 c3 c4 d0 d1 d2 d3 d4 df lA hq hgd HQ9 R9 A9 HX HB
      go_wp2_with fail
      go_roundw
      case rel => exact ⟨j + 1, by omega, by go_num, HQ10, R10⟩
      case measure => simp [intOf]; omega
    · obtain rfl : j = nx := by omega
      go_wp2_with fail
      refine (cacheCheck_ok HRq.out HBad.out).mono ?_
      rintro e w9 ⟨rfl, hb⟩
      have B9 : Hid (Below w.heap.size w w9) := HQ.out.bel.trans (hb.mono HQ.out.hN)
      clear hb
      go_wp2_with fail
      go_ret
      exact ⟨rfl, B9.out⟩
end Go.Proofs.Ytbincnajklmnaaa
