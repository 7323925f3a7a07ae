/-
  merelaw2.MailPlays answers true, whatever the steps and the entries.
-/
import Derived.Test.YthpcogpbgjkiaahDoorRg28
import Derived.Deep.DeepCutAuto
import Derived.Deep.CutBlock
import Derived.Deep.LoopGhost
import Derived.Deep.Draws
import Derived.BigQuiet
import Derived.BigRegion
import Derived.WalkSmall
namespace Go.Proofs.YthpcogpbgjkiaahDoor
set_option linter.unusedVariables false
set_option linter.unusedSimpArgs false
open Go.RowKit
attribute [local go_sem ↓] Go.wp_at_zero Go.wp_at_succ
attribute [local go_sem ↓] appG_is

set_option maxRecDepth 100000 in
set_option maxHeartbeats 32000000 in
theorem plays_w (vs vl : Value) (ns : Nat) (l : List En) (w : World) (hg : HasErr w) (hs : IsSteps w vs ns) (hrl : RowIs w vl l) :
    Calls Tryd.prog 3 #[vs, vl] w fun e w' => e = .returned (.bool true) ∧ Below w.heap.size w w' := by
  have HG : Hid (HasErr w) := hg
  have hlt := hg.lt
  clear hg
  obtain ⟨aS, cS, rfl, hns, hs1⟩ := hs
  have HS1 : Hid (∀ i, i < ns → ∃ b o u m, aS = some ⟨b, o, none⟩ ∧ w.cell? ⟨b, o + i, none⟩ = some u ∧ IsInts w u m) := hs1
  clear hs1
  unfold maxLen at hns
  obtain ⟨hlen, pL, capL, rfl, hrow⟩ := hrl
  have HRow : Hid (l ≠ [] → ∃ b o, pL = some ⟨b, o, none⟩ ∧ b < w.heap.size ∧ ∀ j (h : j < l.length), EnAt w b (o + j * 5) l[j]) := hrow
  clear hrow
  obtain ⟨nl, HNl⟩ : ∃ n, Hid (l.length = n) := ⟨_, rfl⟩
  rw [HNl.out] at hlen ⊢
  have hn63 : nl ≤ 9223372036854775807 := hlen
  go_enter Tryd.func3, Tryd.ntmps3
  go_wp2_with fail
  refine (mlNew_c _).mono ?_
  rintro e w1 ⟨b, rfl, ⟨S0, hm0, hS0⟩, hb⟩
  have T0 : Hid (Tm (fun _ => False) w.heap.size w (w1.alloc (.cells #[.slice none 0 0, .bool false, .bool false, .bool false, .bool false, .bool false, .bool false, .bool false, .bool false, .bool false, .bool false, .bool false, .bool false, .bool false, .bool false, .bool false, .bool false, .bool false, .bool false, .bool false, .bool false, .bool false, .bool false, .bool false, .bool false, .bool false, .bool false, .bool false, .bool false, .bool false, .bool false, .bool false, .bool false, .bool false, .bool false, .bool false, .bool false] 31)) b w1.heap.size [] (fun _ _ => false) [] (fun _ _ => false)) := by
    have hsz := hb.size
    refine ⟨⟨S0, fun c => c = w1.heap.size, hm0.grown (by go_grown), rm_new w1 _ rfl, fun c hc => ⟨hS0 c hc, fun e => ?_, id⟩, fun c hc => ⟨by omega, id⟩⟩, hb.alloc hb.size _, by simp; omega, fun c hc => hc.elim⟩
    have := hm0.lt c hc
    omega
  clear hb hm0 hS0
  go_upto_region 2 with fail
  go_cut [6] (fun c6 wc => ∃ K, c6 = .pointer (some ⟨K, 0, none⟩) ∧ Hid (Tm (fun _ => False) w.heap.size w wc b K [] (fun _ _ => false) [] (fun _ _ => false)))
  case first =>
    try clear_value *
    as_aux_lemma =>
      let _BP : Exit → Act → World → Prop := bodyPost Tryd.prog Tryd.f3 fun _ _ => True
      go_wp2_with fail
      go_meet
      case rel => exact ⟨_, rfl, T0⟩
  case rest =>
  clear T0
  obtain ⟨K, rfl, T0⟩ := hcut
  obtain ⟨w2, hren⟩ : ∃ x, x = wc := ⟨_, rfl⟩
  subst hren
  go_wp2_with fail
  go_loopw [7, 8] (fun c7 i wr => ∃ (n a : Nat) (L : List Lt) (q : Nat → Nat → Bool), n ≤ ns ∧ n ≤ 150 ∧ a ≤ nl ∧ c7 = .int .i64 a ∧ i = .int .i64 n ∧ Hid (L.length ≤ 40) ∧ Hid (Tm (fun _ => False) w.heap.size w wr b K L q L q)) (fun _ i _ => ns - (intOf i).toNat)
  case atStart => exact ⟨0, 0, [], fun _ _ => false, by omega, by omega, by omega, rfl, rfl, by show _ ≤ _; simp, T0⟩
  case round =>
    obtain ⟨n, a, L, q, hnn, hn150, han, rfl, rfl, HL, TR⟩ := hrel
    clear T0
    by_cases hlt1 : n < ns ∧ n < 150
    · obtain ⟨hn1, hn2⟩ := hlt1
      have hd1 : decide ((n : Int) < (ns : Int)) = true := by simp; omega
      have hd2 : decide ((n : Int) < 150) = true := by simp; omega
      have hlti : (n : Int) < (ns : Int) := by omega
      obtain ⟨bS, oS, u, m, rfl, cu, HI⟩ := HS1.out n hn1
      have cu' := old_cell TR.out.bel cu
      have lS := World.block_lt_of_cell? wr _ cu'
      have HI' := HI.below TR.out.bel
      obtain ⟨aI, cI, rfl, hm, hz⟩ := HI'
      have HZ : Hid (∀ j, j < m → ∃ b o z, aI = some ⟨b, o, none⟩ ∧ wr.cell? ⟨b, o + j, none⟩ = some (.int .i64 z)) := hz
      unfold maxLen at hm
      clear HI cu hz
      go_upto_block 2 with fail
      go_cut [10] (fun _ wc => ∃ z0 z1 z2 : Int, wc = wr.alloc (.cells #[.int .i64 z0, .int .i64 z1, .int .i64 z2] 32))
      case first =>
        try clear_value *
        as_aux_lemma =>
          let _BP : Exit → Act → World → Prop := bodyPost Tryd.prog Tryd.f3 fun _ _ => True
          go_wp2_with fail
          go_loopg [10] 3 (fun gq j wi => ∃ q : Nat, gq + q = 3 ∧ j = .int .i64 q ∧ ∃ z0 z1 z2 : Int, wi = wr.alloc (.cells #[.int .i64 z0, .int .i64 z1, .int .i64 z2] 32))
          case atStart => exact ⟨0, by omega, rfl, 0, 0, 0, rfl⟩
          case round =>
            obtain ⟨q, hq, rfl, z0, z1, z2, rfl⟩ := hrel
            by_cases hqm : q < m ∧ q < 3
            · obtain ⟨hq1, hq2⟩ := hqm
              have hq3 : (q : Int) < (m : Int) := by omega
              have hq4 : decide ((q : Int) < (m : Int)) = true := by simp; omega
              obtain ⟨bI, oI, z, rfl, cz⟩ := HZ.out q hq1
              have lI := World.block_lt_of_cell? wr _ cz
              have h4 : q = 0 ∨ q = 1 ∨ q = 2 := by omega
              rcases h4 with rfl | rfl | rfl
              · simp only [Nat.add_zero] at cz
                go_wp2
                go_roundg (2 : Nat)
                case measure => omega
                case rel => exact ⟨1, by omega, rfl, _, _, _, rfl⟩
              · go_wp2
                go_roundg (1 : Nat)
                case measure => omega
                case rel => exact ⟨2, by omega, rfl, _, _, _, rfl⟩
              · go_wp2
                go_roundg (0 : Nat)
                case measure => omega
                case rel => exact ⟨3, by omega, rfl, _, _, _, rfl⟩
            · by_cases h : q < m
              · have hq5 : decide ((q : Int) < (m : Int)) = true := by simp; omega
                have hq6 : decide ((q : Int) < 3) = false := by simp; omega
                go_wp2_with fail
                go_meet
                case rel => exact ⟨z0, z1, z2, rfl⟩
              · have hq5 : decide ((q : Int) < (m : Int)) = false := by simp; omega
                go_wp2_with fail
                go_meet
                case rel => exact ⟨z0, z1, z2, rfl⟩
      case rest =>
        obtain ⟨z0, z1, z2, hwc⟩ := hcut
        obtain ⟨wA, hren⟩ : ∃ x, x = wc := ⟨_, rfl⟩
        subst hren
        obtain ⟨A, HA⟩ : ∃ A, Hid (A = wr.heap.size) := ⟨_, rfl⟩
        have TA : Hid (Tm (fun c => c = A) w.heap.size w wA b K L q L q) := by
          unfold Hid
          rw [hwc, HA.out]
          exact (TR.out.more (by go_grown) wr.heap.size (Nat.le_refl _) (by simp)).less (fun c hc => .inr hc)
        have ZA : Hid (Z3 wA A z0 z1 z2) := by
          unfold Hid
          rw [hwc, HA.out]
          exact ⟨by simp, by simp, by simp⟩
        clear hwc HZ cu' lS hm TR
        rw [← HA.out]
        clear HA
        obtain ⟨nL, HNL⟩ : ∃ n, Hid (L.length = n) := ⟨_, rfl⟩
        obtain ⟨ins, HIns⟩ : ∃ c, Hid (inK L.length z1 = c) := ⟨_, rfl⟩
        obtain ⟨pk, capk, ck⟩ := TA.out.cellK
        rw [HNL.out] at ck
        have lK := World.block_lt_of_cell? wA _ ck
        obtain ⟨a0, a1, a2⟩ := ZA.out
        have lA := ZA.out.lt
        go_upto_region 12 with fail
        go_cut [11] (fun c11 wd => c11 = .bool ins ∧ Hid (Tm (fun c => c = A) w.heap.size w wd b K L q L q) ∧ Hid (Z3 wd A z0 z1 z2))
        case first =>
          try clear_value *
          as_aux_lemma =>
            let _BP : Exit → Act → World → Prop := bodyPost Tryd.prog Tryd.f3 fun _ _ => True
            by_cases h0 : 0 ≤ z1
            · have hd0 : decide (0 ≤ z1) = true := by simpa using h0
              have HC : Hid (ins = decide (z1 < (nL : Int))) := by
                show ins = _
                rw [← HIns.out, HNL.out]
                simp [inK, h0]
              go_quiet (fail)
              go_wp2_with fail
              go_meet
              case rel => exact ⟨by rw [HC.out], TA.out.grown ⟨rfl, rfl, rfl, Nat.le_refl _, fun _ _ => rfl⟩, ZA.out.of_block rfl⟩
            · have hd0 : decide (0 ≤ z1) = false := by simpa using h0
              have HC : Hid (ins = false) := by
                show ins = _
                rw [← HIns.out]
                simp [inK, hd0]
              go_quiet (fail)
              go_wp2_with fail
              go_meet
              case rel => exact ⟨by rw [HC.out], TA.out.grown ⟨rfl, rfl, rfl, Nat.le_refl _, fun _ _ => rfl⟩, ZA.out.of_block rfl⟩
        case rest =>
          obtain ⟨rfl, TB, ZB⟩ := hcut
          obtain ⟨wB, hren⟩ : ∃ x, x = wc := ⟨_, rfl⟩
          subst hren
          clear TA ZA ck lK a0 a1 a2 lA
          obtain ⟨a0, a1, a2⟩ := ZB.out
          have lA := ZB.out.lt
          go_upto_block 4 with fail
          go_cut [7, 13] (fun c7 c13 wd => c13 = .bool true ∧ ∃ (a' : Nat) (L' : List Lt) (q' : Nat → Nat → Bool), c7 = .int .i64 a' ∧ a' ≤ nl ∧ Hid (L'.length ≤ 40) ∧ Hid (Tm (fun c => c = A) w.heap.size w wd b K L' q' L' q'))
          case first =>
            try clear_value *
            as_aux_lemma =>
              let _BP : Exit → Act → World → Prop := bodyPost Tryd.prog Tryd.f3 fun _ _ => True
              obtain ⟨tb, HTb⟩ : ∃ c, Hid (((z0 == 0) || ((z0 == 1) || (z0 == 2))) = c) := ⟨_, rfl⟩
              go_upto_if 99 with fail
              go_cut [99] (fun c99 wd => wd = wB ∧ c99 = .bool tb)
              case first =>
                cases h0 : (z0 == 0)
                · cases h1 : (z0 == 1)
                  · have HC : Hid (tb = (z0 == 2)) := by show tb = _; rw [← HTb.out, h0, h1]; simp
                    go_wp2_with fail
                    go_meet
                    case rel => exact ⟨rfl, by rw [HC.out]⟩
                  · have HC : Hid (tb = true) := by show tb = _; rw [← HTb.out, h0, h1]; simp
                    go_wp2_with fail
                    go_meet
                    case rel => exact ⟨rfl, by rw [HC.out]⟩
                · have HC : Hid (tb = true) := by show tb = _; rw [← HTb.out, h0]; simp
                  go_wp2_with fail
                  go_meet
                  case rel => exact ⟨rfl, by rw [HC.out]⟩
              case rest =>
                obtain ⟨hwd, rfl⟩ := hcut
                have hwd' := hwd.symm
                subst hwd'
                clear HTb
                cases tb
                · cases h3 : (z0 == 3)
                  · cases h4 : (z0 == 4)
                    · cases h5 : (z0 == 5)
                      · try clear_value *
                        as_aux_lemma =>
                          let _BP : Exit → Act → World → Prop := bodyPost Tryd.prog Tryd.f3 fun _ _ => True
                          obtain ⟨m, HMe⟩ : ∃ m, Hid (endsE z1 z2 = m) := ⟨_, rfl⟩
                          obtain ⟨cb, HCb⟩ : ∃ c, Hid ((z0 == 6) = c) := ⟨_, rfl⟩
                          have hcb := HCb.out
                          obtain ⟨q', HQ'⟩ : ∃ q', Hid (cutQ q z1 z2 cb = q') := ⟨_, rfl⟩
                          go_wp2_with fail
                          refine (rEnds_b HMe.out _).mono ?_
                          rintro e w3 ⟨rfl, rfl⟩
                          go_upto_if 79 with fail
                          go_cut [85] (fun _ wd => Hid (Tm (fun c => c = A) w.heap.size w wd b K L q L q') ∧ Hid (Z3 wd A z0 z1 z2))
                          case first =>
                            try clear_value *
                            as_aux_lemma =>
                              let _BP : Exit → Act → World → Prop := bodyPost Tryd.prog Tryd.f3 fun _ _ => True
                              by_cases hm : m = 0
                              · subst hm
                                obtain ⟨x, y, rfl, rfl, hx, hy, _⟩ := endsE_ok HMe.out
                                have hQ2 : cutQ q x y cb = (fun a e => if a = x ∧ e = y then cb else q a e) := by rw [cutQ, if_pos HMe.out, Int.toNat_natCast, Int.toNat_natCast]
                                have HQ2 : Hid (q' = fun a e => if a = x ∧ e = y then cb else q a e) := HQ'.out.symm.trans hQ2
                                clear hQ2
                                have hxi : (x : Int) < 6 := by omega
                                have hyi : (y : Int) < 6 := by omega
                                obtain ⟨S1, hS1, hC1⟩ := TB.out.callK
                                obtain ⟨vk, hk⟩ := hS1
                                have HR : Hid _ := hk
                                have HC : Hid _ := hC1
                                have cq := hk.cq x y hx hy
                                have fq := hk.fz (1 + x * 6 + y)
                                have lK : K < wB.heap.size := World.block_lt_of_cell? wB _ cq
                                clear hk hC1
                                go_upto_region 19 with fail
                                refine wp_ends ?_
                                go_region
                                all_goals refine endsBy_normal ?_
                                all_goals go_wp2_with fail
                                all_goals go_meet
                                all_goals
                                  have ht := RmTo.after (w := wB) (w1 := wB.drew) ⟨rfl, rfl, rfl, Nat.le_refl _, fun _ _ => rfl⟩ ((HR.out.blocks (w' := wB.drew) (Nat.le_refl _) (fun _ _ => rfl)).recut x y hx hy cb)
                                  rw [← HQ2.out] at ht
                                  obtain ⟨t1, t2⟩ := HC.out _ _ _ ht
                                  exact ⟨t1, ZB.out.of_block (t2 A rfl)⟩
                              · have hm0 : (m == 0) = false := by simpa using hm
                                have HQ2 : Hid (q' = q) := HQ'.out.symm.trans (by rw [cutQ, if_neg (fun e => hm (HMe.out.symm.trans e))])
                                clear hm
                                go_wp2_with fail
                                go_meet
                                case rel => exact ⟨by rw [HQ2.out]; exact TB, ZB⟩
                          case rest =>
                            obtain ⟨T3, Z3'⟩ := hcut
                            obtain ⟨w3, hren⟩ : ∃ x, x = wc := ⟨_, rfl⟩
                            subst hren
                            clear TB ZB a0 a1 a2 lA
                            obtain ⟨a0, a1, a2⟩ := Z3'.out
                            have lA := Z3'.out.lt
                            obtain ⟨S1, hS1, hC1⟩ := T3.out.callM
                            have HS : Hid _ := hS1
                            have HC : Hid _ := hC1
                            clear hS1 hC1
                            go_wp2_with fail
                            refine (mlCut_n HS.out HMe.out HQ'.out).mono ?_
                            rintro e w4 ⟨rfl, ht⟩
                            have T4 : Hid _ := (HC.out _ _ _ ht).1
                            clear ht HS HC
                            go_wp2_with fail
                            refine (err_same m _ (HG.out.below hlt T4.out.bel)).mono ?_
                            rintro e w5 ⟨rfl, hb⟩
                            have T5 : Hid _ := T4.out.grown hb
                            clear hb
                            go_wp2_with fail
                            go_meet
                            case rel => exact ⟨rfl, a, L, q', rfl, han, HL, T5⟩
                      · try clear_value *
                        as_aux_lemma =>
                          let _BP : Exit → Act → World → Prop := bodyPost Tryd.prog Tryd.f3 fun _ _ => True
                          obtain ⟨m, HMe⟩ : ∃ m, Hid (twiceE L.length z1 = m) := ⟨_, rfl⟩
                          obtain ⟨L', HLs⟩ : ∃ L', Hid (twiceL L z1 = L') := ⟨_, rfl⟩
                          obtain ⟨pk, capk, ck⟩ := TB.out.cellK
                          rw [HNL.out] at ck
                          have lK : K < wB.heap.size := World.block_lt_of_cell? wB _ ck
                          go_upto_region 45 with fail
                          obtain ⟨fb, HFb⟩ : ∃ c, Hid ((ins && decide ((40 : Int) ≤ (nL : Int))) = c) := ⟨_, rfl⟩
                          go_cut [180] (fun c wd => wd = wB ∧ c = .bool fb)
                          case first =>
                            cases ins
                            · have HC : Hid (fb = false) := HFb.out.symm
                              go_wp2_with fail
                              go_meet
                              case rel => exact ⟨rfl, by rw [HC.out]⟩
                            · have HC : Hid (fb = decide ((40 : Int) ≤ (nL : Int))) := HFb.out.symm
                              go_wp2_with fail
                              go_meet
                              case rel => exact ⟨rfl, by rw [HC.out]⟩
                          case rest =>
                          obtain ⟨hwd, rfl⟩ := hcut
                          have hwd' := hwd.symm
                          subst hwd'
                          go_upto_if 180 with fail
                          go_cut [12] (fun c12 wd => c12 = .int .i64 m ∧ Hid (Tm (fun c => c = A) w.heap.size w wd b K L q L' q) ∧ Hid (Z3 wd A z0 z1 z2))
                          case first =>
                            try clear_value *
                            as_aux_lemma =>
                              let _BP : Exit → Act → World → Prop := bodyPost Tryd.prog Tryd.f3 fun _ _ => True
                              cases ins
                              · obtain rfl : false = fb := HFb.out
                                have HE1 : Hid (m = 1) := HMe.out.symm.trans (by have h := HIns.out; unfold inK at h; rw [twiceE, h]; rfl)
                                have HL1 : Hid (L' = L) := HLs.out.symm.trans (by rw [twiceL, if_neg (fun e => by have := HMe.out; rw [e, HE1.out] at this; omega)])
                                go_wp2_with fail
                                go_meet
                                case rel => exact ⟨by rw [HE1.out], by rw [HL1.out]; exact TB, ZB⟩
                              · by_cases h40 : 40 ≤ nL
                                · have h40i : (40 : Int) ≤ (nL : Int) := by omega
                                  obtain rfl : fb = true := by rw [← HFb.out]; simpa using h40i
                                  have HE1 : Hid (m = 4) := HMe.out.symm.trans (by have h := HIns.out; unfold inK at h; rw [twiceE, h, if_pos rfl, if_pos (by rw [HNL.out]; exact h40)])
                                  have HL1 : Hid (L' = L) := HLs.out.symm.trans (by rw [twiceL, if_neg (fun e => by have := HMe.out; rw [e, HE1.out] at this; omega)])
                                  go_wp2_with fail
                                  go_meet
                                  case rel => exact ⟨by rw [HE1.out], by rw [HL1.out]; exact TB, ZB⟩
                                · have h40i : ¬ (40 : Int) ≤ (nL : Int) := by omega
                                  obtain rfl : fb = false := by rw [← HFb.out]; simpa using h40i
                                  obtain ⟨k1, rfl, hk1⟩ := inK_nat HIns.out
                                  have HE1 : Hid (m = 0) := HMe.out.symm.trans (by have h := HIns.out; unfold inK at h; rw [twiceE, h, if_pos rfl, if_neg (by rw [HNL.out]; exact h40)])
                                  obtain ⟨x, HX⟩ : ∃ x, Hid (L[k1] = x) := ⟨L[k1], show L[k1] = L[k1] from rfl⟩
                                  have HL1 : Hid (L' = L ++ [x]) := HLs.out.symm.trans (by
                                    rw [twiceL, if_pos (HMe.out.trans HE1.out), Int.toNat_natCast, List.drop_eq_getElem_cons hk1, HX.out]
                                    rfl)
                                  obtain ⟨f, d, ⟨k, v, a1', g, t⟩⟩ := x
                                  obtain ⟨G0, cap, ck0, lG, hat⟩ := TB.out.rowK k1 hk1
                                  rw [HX.out] at hat
                                  rw [HNL.out] at ck0 hk1
                                  have e1 : pk = some ⟨G0, 0, none⟩ ∧ capk = cap := by
                                    have := ck.symm.trans ck0
                                    simpa using this
                                  obtain ⟨rfl, rfl⟩ := e1
                                  clear ck0
                                  obtain ⟨S1, ⟨vk, hk⟩, hC1⟩ := TB.out.callK
                                  obtain rfl : vk = .slice (some ⟨G0, 0, none⟩) nL capk := by
                                    have := hk.c0.symm.trans ck
                                    simpa using this
                                  have HR : Hid _ := hk
                                  have HC : Hid _ := hC1
                                  obtain ⟨i0, hi0, hz0, hz1, hz2⟩ := info_parts infoLt
                                  have OW : Hid (wB.ownsRow 0 37 7 (.slice (some ⟨G0, 0, none⟩) nL capk) nL (rowL L)) := by have := hk.own; unfold OwnL at this; rw [HNL.out] at this; exact this
                                  have hne : (Value.slice (some ⟨G0, 0, none⟩) nL capk).ownBlock ≠ some K := hk.n0
                                  have fz := hk.fz 0
                                  clear hk hC1
                                  obtain ⟨x0, x1, x2, x3, x4, x5, x6⟩ := hat
                                  dsimp only at x0 x1 x2 x3 x4 x5 x6
                                  have hk1i : (k1 : Int) < (nL : Int) := by omega
                                  have hn63' : nL ≤ 9223372036854775807 := by omega
                                  have hb1 : (wB.alloc (.cells #[.int .i64 f, .int .i64 d, .int .i64 k, .int .i64 v, .int .i64 a1', .bool g, .string t] 37)).drew.heap[wB.heap.size]? = some (.cells #[.int .i64 f, .int .i64 d, .int .i64 k, .int .i64 v, .int .i64 a1', .bool g, .string t] 37 (0, 0)) := heap_alloc_new wB _
                                  obtain ⟨v', w4, hrun, hown1, hgrow, _, hloc⟩ := run_append_own_at (P := Tryd.prog) (wB.alloc (.cells #[.int .i64 f, .int .i64 d, .int .i64 k, .int .i64 v, .int .i64 a1', .bool g, .string t] 37)).drew 0 27 27 37 i0 _ 7 64 Tryd.underlying27 hi0 hz0 hz1 hz2 rfl (by omega) (.slice (some ⟨G0, 0, none⟩) nL capk) nL (rowL L) ((OW.out.alloc _).drew) ⟨wB.heap.size, 0, none⟩ 1 1 [.int .i64 f, .int .i64 d, .int .i64 k, .int .i64 v, .int .i64 a1', .bool g, .string t] rfl (World.news_of_block hb1) (by simp [Value.oneCell']) (by unfold maxLen; omega) (by omega) (Nat.zero_le _)
                                  rw [appG_is] at hrun
                                  obtain ⟨G, cap', rfl, hlt'⟩ : ∃ G cap', v' = .slice (some ⟨G, 0, none⟩) (nL + 1) cap' ∧ G < w4.heap.size := by
                                    rcases hown1.2 with ⟨_, h0⟩ | ⟨G, cap', cur, e, _, hg, _⟩
                                    · omega
                                    · exact ⟨G, cap', e, (Array.getElem?_eq_some_iff.1 hg).1⟩
                                  have hat' : (Value.slice (some ⟨G0, 0, none⟩) nL capk).ownBlock = some G ∨ G = wB.heap.size + 1 := by
                                    rcases hloc with e | e
                                    · exact .inl (by rw [← e]; rfl)
                                    · exact .inr (by simpa [Value.ownBlock] using e)
                                  have hsz : (wB.alloc (.cells #[.int .i64 f, .int .i64 d, .int .i64 k, .int .i64 v, .int .i64 a1', .bool g, .string t] 37)).drew.heap.size = wB.heap.size + 1 := by simp
                                  have fz4 : w4.frozen? ⟨K, 0, none⟩ = false := (hgrow.frozen_far ⟨K, 0, none⟩ (by rw [hsz]; show K < _; omega) (Ne.symm hne)).trans ((World.frozen?_alloc_old _ _ ⟨K, 0, none⟩ (Nat.ne_of_lt lK)).trans fz)
                                  have cz : w4.cell? ⟨K, 0, none⟩ = some (.slice (some ⟨G0, 0, none⟩) nL capk) := (hgrow.cell_far ⟨K, 0, none⟩ (by rw [hsz]; show K < _; omega) (Ne.symm hne)).trans ((World.cell?_alloc_lt _ _ ⟨K, 0, none⟩ lK).trans ck)
                                  have lK4 : K < w4.heap.size := World.block_lt_of_cell? w4 _ cz
                                  have HT : Hid (RmTo S1 wB (w4.setCell ⟨K, 0, none⟩ (.slice (some ⟨G, 0, none⟩) (nL + 1) cap')) K L' q) := by
                                    have ht := HR.out.sent (x := ⟨f, d, ⟨k, v, a1', g, t⟩⟩) HNL.out hgrow hown1 hat' hlt'
                                    rw [← HL1.out] at ht
                                    exact ht
                                  clear hown1 hgrow hloc hat' hlt' hb1 OW hne fz HR hsz
                                  go_upto_region 48 with fail
                                  refine reg48 a1 lA lK lG ck x0 x1 x2 x3 x4 x5 x6 hk1i hn63' hrun fz4 cz lK4 ?_
                                  go_wp2_with fail
                                  go_meet
                                  case rel =>
                                    obtain ⟨t1, t2⟩ := HC.out _ _ _ HT.out
                                    exact ⟨by rw [HE1.out], t1, ZB.out.of_block (t2 A rfl)⟩
                          case rest =>
                            obtain ⟨rfl, T3, Z3'⟩ := hcut
                            obtain ⟨w3, hren⟩ : ∃ x, x = wc := ⟨_, rfl⟩
                            subst hren
                            clear TB ZB a0 a1 a2 lA ck lK
                            obtain ⟨a0, a1, a2⟩ := Z3'.out
                            have lA := Z3'.out.lt
                            obtain ⟨S1, hS1, hC1⟩ := T3.out.callM
                            have HS : Hid _ := hS1
                            have HC : Hid _ := hC1
                            clear hS1 hC1
                            go_wp2_with fail
                            refine (mlTwice_n HS.out HMe.out HLs.out).mono ?_
                            rintro e w4 ⟨rfl, ht⟩
                            have T4 : Hid _ := (HC.out _ _ _ ht).1
                            clear ht HS HC
                            go_wp2_with fail
                            refine (err_same m _ (HG.out.below hlt T4.out.bel)).mono ?_
                            rintro e w5 ⟨rfl, hb⟩
                            have T5 : Hid _ := T4.out.grown hb
                            clear hb
                            go_wp2_with fail
                            go_meet
                            case rel => exact ⟨rfl, a, L', q, rfl, han, by rw [← HLs.out]; exact twice_40 HL.out, T5⟩
                    · try clear_value *
                      as_aux_lemma =>
                        let _BP : Exit → Act → World → Prop := bodyPost Tryd.prog Tryd.f3 fun _ _ => True
                        obtain ⟨m, HMe⟩ : ∃ m, Hid (hasE L.length z1 = m) := ⟨_, rfl⟩
                        obtain ⟨L', HLs⟩ : ∃ L', Hid (loseL L z1 = L') := ⟨_, rfl⟩
                        go_upto_if 159 with fail
                        go_cut [12] (fun c12 wd => c12 = .int .i64 m ∧ Hid (Tm (fun c => c = A) w.heap.size w wd b K L q L' q) ∧ Hid (Z3 wd A z0 z1 z2))
                        case first =>
                          try clear_value *
                          as_aux_lemma =>
                            let _BP : Exit → Act → World → Prop := bodyPost Tryd.prog Tryd.f3 fun _ _ => True
                            cases ins
                            · have HE1 : Hid (m = 1) := HMe.out.symm.trans (by have h := HIns.out; unfold inK at h; rw [hasE, h]; rfl)
                              have HL1 : Hid (L' = L) := HLs.out.symm.trans (by have h := HIns.out; unfold inK at h; rw [loseL, h]; rfl)
                              go_wp2_with fail
                              go_meet
                              case rel => exact ⟨by rw [HE1.out], by rw [HL1.out]; exact TB, ZB⟩
                            · obtain ⟨k1, rfl, hk1⟩ := inK_nat HIns.out
                              have HE1 : Hid (m = 0) := HMe.out.symm.trans (by have h := HIns.out; unfold inK at h; rw [hasE, h]; rfl)
                              obtain ⟨S1, hS1, hC1⟩ := TB.out.callK
                              have HS : Hid _ := hS1
                              have HC : Hid _ := hC1
                              clear hS1 hC1
                              go_wp2_with fail
                              refine (rOut_n HS.out hk1 HL.out HLs.out).mono ?_
                              rintro e w3 ⟨rfl, ht⟩
                              obtain ⟨t1, t2⟩ := HC.out _ _ _ ht
                              have T3 : Hid _ := t1
                              have Z3' : Hid (Z3 w3 A z0 k1 z2) := ZB.out.of_block (t2 A rfl)
                              clear ht t1 t2 HS HC
                              go_wp2_with fail
                              go_meet
                              case rel => exact ⟨by rw [HE1.out], T3, Z3'⟩
                        case rest =>
                          obtain ⟨rfl, T3, Z3'⟩ := hcut
                          obtain ⟨w3, hren⟩ : ∃ x, x = wc := ⟨_, rfl⟩
                          subst hren
                          clear TB ZB a0 a1 a2 lA
                          obtain ⟨a0, a1, a2⟩ := Z3'.out
                          have lA := Z3'.out.lt
                          obtain ⟨S1, hS1, hC1⟩ := T3.out.callM
                          have HS : Hid _ := hS1
                          have HC : Hid _ := hC1
                          clear hS1 hC1
                          go_wp2_with fail
                          refine (mlLose_n HS.out HMe.out HLs.out).mono ?_
                          rintro e w4 ⟨rfl, ht⟩
                          have T4 : Hid _ := (HC.out _ _ _ ht).1
                          clear ht HS HC
                          go_wp2_with fail
                          refine (err_same m _ (HG.out.below hlt T4.out.bel)).mono ?_
                          rintro e w5 ⟨rfl, hb⟩
                          have T5 : Hid _ := T4.out.grown hb
                          clear hb
                          go_wp2_with fail
                          go_meet
                          case rel => exact ⟨rfl, a, L', q, rfl, han, by rw [← HLs.out]; exact lose_40 HL.out, T5⟩
                  · try clear_value *
                    as_aux_lemma =>
                      let _BP : Exit → Act → World → Prop := bodyPost Tryd.prog Tryd.f3 fun _ _ => True
                      obtain ⟨m, HMe⟩ : ∃ m, Hid (hasE L.length z1 = m) := ⟨_, rfl⟩
                      obtain ⟨L', HLs⟩ : ∃ L', Hid (loseL L z1 = L') := ⟨_, rfl⟩
                      obtain ⟨x, HX⟩ : ∃ x, Hid (giveX L z1 = x) := ⟨_, rfl⟩
                      obtain ⟨f, d, ⟨k, v, a1', g, t⟩⟩ := x
                      go_upto_if 129 with fail
                      go_cut [12] (fun c12 wd => c12 = .int .i64 m ∧ Hid (Tm (fun c => c = A ∨ c = wB.heap.size) w.heap.size w wd b K L q L' q) ∧ Hid (Z3 wd A z0 z1 z2) ∧ Hid (BoxL wd wB.heap.size f d k v a1' g t))
                      case first =>
                        try clear_value *
                        as_aux_lemma =>
                          let _BP : Exit → Act → World → Prop := bodyPost Tryd.prog Tryd.f3 fun _ _ => True
                          cases ins
                          · have HE1 : Hid (m = 1) := HMe.out.symm.trans (by have h := HIns.out; unfold inK at h; rw [hasE, h]; rfl)
                            have HL1 : Hid (L' = L) := HLs.out.symm.trans (by have h := HIns.out; unfold inK at h; rw [loseL, h]; rfl)
                            have hx := HX.out
                            rw [giveX_no HIns.out] at hx
                            have e0 : noLt = ⟨0, 0, ⟨0, 0, 0, false, ⟨#[]⟩⟩⟩ := rfl
                            rw [e0] at hx
                            injection hx with e1 e2 e3
                            injection e3 with e3 e4 e5 e6 e7
                            subst e1 e2 e3 e4 e5 e6 e7
                            clear e0
                            go_wp2_with fail
                            go_meet
                            case rel => exact ⟨by rw [HE1.out], by rw [HL1.out]; exact TB.out.more (by go_grown) _ (Nat.le_refl _) (by simp), ZB.out.grown (by go_grown), boxL_new wB _ _ _ _ _ _ _ _ rfl⟩
                          · obtain ⟨k1, rfl, hk1⟩ := inK_nat HIns.out
                            have HE1 : Hid (m = 0) := HMe.out.symm.trans (by have h := HIns.out; unfold inK at h; rw [hasE, h]; rfl)
                            have HX' : Hid (L[k1] = ⟨f, d, ⟨k, v, a1', g, t⟩⟩) := (giveX_yes hk1).symm.trans HX.out
                            obtain ⟨G0, cap, ck0, lG, hat⟩ := TB.out.rowK k1 hk1
                            rw [HX'.out] at hat
                            rw [HNL.out] at ck0
                            have lK : K < wB.heap.size := World.block_lt_of_cell? wB _ ck0
                            obtain ⟨x0, x1, x2, x3, x4, x5, x6⟩ := hat
                            dsimp only at x0 x1 x2 x3 x4 x5 x6
                            have hk1i : (k1 : Int) < (nL : Int) := by have := HNL.out; omega
                            have hn63' : nL ≤ 9223372036854775807 := by have := HNL.out; have := HL.out; omega
                            go_upto_region 34 with fail
                            go_cut [137] (fun _ wd => Hid (Tm (fun c => c = A ∨ c = wB.heap.size) w.heap.size w wd b K L q L q) ∧ Hid (Z3 wd A z0 k1 z2) ∧ Hid (BoxL wd wB.heap.size f d k v a1' g t))
                            case first =>
                              refine wp_ends ?_
                              go_region
                              all_goals refine endsBy_normal ?_
                              all_goals go_wp2_with fail
                              all_goals go_meet
                              all_goals exact ⟨TB.out.more (w' := (wB.alloc (.cells #[.int .i64 f, .int .i64 d, .int .i64 k, .int .i64 v, .int .i64 a1', .bool g, .string t] 37)).drew) ⟨rfl, rfl, rfl, by simp, fun c hc => Below.heap_alloc _ _ _ hc⟩ _ (Nat.le_refl _) (by simp), ZB.out.of_block (Below.heap_alloc _ _ _ lA), (boxL_new wB f d k v a1' g t _ rfl).of_block rfl⟩
                            case rest =>
                              obtain ⟨T2, Z2, X2⟩ := hcut
                              obtain ⟨w2', hren⟩ : ∃ x, x = wc := ⟨_, rfl⟩
                              subst hren
                              clear x0 x1 x2 x3 x4 x5 x6 ck0 lK lG a0 a1 a2 lA
                              obtain ⟨a0, a1, a2⟩ := Z2.out
                              have lA := Z2.out.lt
                              obtain ⟨S1, hS1, hC1⟩ := T2.out.callK
                              have HS : Hid _ := hS1
                              have HC : Hid _ := hC1
                              clear hS1 hC1
                              go_wp2_with fail
                              refine (rOut_n HS.out hk1 HL.out HLs.out).mono ?_
                              rintro e w3 ⟨rfl, ht⟩
                              obtain ⟨t1, t2⟩ := HC.out _ _ _ ht
                              have T3 : Hid _ := t1
                              have Z3' : Hid (Z3 w3 A z0 k1 z2) := Z2.out.of_block (t2 A (.inl rfl))
                              have X3 : Hid (BoxL w3 wB.heap.size f d k v a1' g t) := X2.out.of_block (t2 _ (.inr rfl))
                              clear ht t1 t2 HS HC a0 a1 a2 lA
                              go_wp2_with fail
                              go_meet
                              case rel => exact ⟨by rw [HE1.out], T3, Z3', X3⟩
                      case rest =>
                        obtain ⟨rfl, T3, Z3', X3⟩ := hcut
                        obtain ⟨w3, hren⟩ : ∃ x, x = wc := ⟨_, rfl⟩
                        subst hren
                        obtain ⟨W, HW⟩ : ∃ W, Hid (wB.heap.size = W) := ⟨_, rfl⟩
                        rw [HW.out] at T3 X3 ⊢
                        clear TB ZB a0 a1 a2 lA HW
                        obtain ⟨a0, a1, a2⟩ := Z3'.out
                        have lA := Z3'.out.lt
                        obtain ⟨S1, hS1, hC1⟩ := T3.out.callM
                        have HS : Hid _ := hS1
                        have HC : Hid _ := hC1
                        clear hS1 hC1
                        go_wp2_with fail
                        refine (mlGive_n HS.out HMe.out HLs.out HX.out).mono ?_
                        rintro e w4 ⟨rfl, ht⟩
                        obtain ⟨t1, t2⟩ := HC.out _ _ _ ht
                        have T4 : Hid _ := t1
                        have X4 : Hid (BoxL w4 W f d k v a1' g t) := X3.out.of_block (t2 W (.inr rfl))
                        clear ht t1 t2 HS HC a0 a1 a2 lA
                        obtain ⟨EV, HEV⟩ : ∃ x, Hid (eV m = x) := ⟨_, rfl⟩
                        rw [HEV.out]
                        go_upto_region 38 with fail
                        have T5 : Hid (Tm (fun c => c = A ∨ c = W) w.heap.size w (w4.alloc (.cells #[.int .i64 f, .int .i64 d, .int .i64 k, .int .i64 v, .int .i64 a1', .bool g, .string t] 37)) b K L' q L' q) := T4.out.grown (by go_grown)
                        have X5 : Hid (BoxL (w4.alloc (.cells #[.int .i64 f, .int .i64 d, .int .i64 k, .int .i64 v, .int .i64 a1', .bool g, .string t] 37)) W f d k v a1' g t) := X4.out.alloc _
                        have Y5 : Hid (BoxL (w4.alloc (.cells #[.int .i64 f, .int .i64 d, .int .i64 k, .int .i64 v, .int .i64 a1', .bool g, .string t] 37)) w4.heap.size f d k v a1' g t) := boxL_new w4 _ _ _ _ _ _ _ _ rfl
                        generalize (w4.alloc (.cells #[.int .i64 f, .int .i64 d, .int .i64 k, .int .i64 v, .int .i64 a1', .bool g, .string t] 37)) = w5 at T5 X5 Y5 ⊢
                        obtain ⟨Y, HY⟩ : ∃ Y, Hid (w4.heap.size = Y) := ⟨_, rfl⟩
                        rw [HY.out] at Y5 ⊢
                        clear HY T4 X4
                        go_wp2_with fail
                        rw [← HEV.out]
                        refine (err_same m _ (HG.out.below hlt T5.out.bel)).mono ?_
                        rintro e w6 ⟨rfl, hb⟩
                        have T6 : Hid _ := T5.out.grown hb
                        obtain ⟨x0, x1, x2, x3, x4, x5, x6, xf⟩ := X5.out.grown hb
                        obtain ⟨y0, y1, y2, y3, y4, y5, y6, yf⟩ := Y5.out.grown hb
                        clear hb
                        have heq := eql_lt ⟨f, d, ⟨k, v, a1', g, t⟩⟩ ⟨f, d, ⟨k, v, a1', g, t⟩⟩ true (Lt.same_self _)
                        dsimp only at heq
                        have hgd := eqGuard_lt
                        go_wp2_with fail
                        go_meet
                        case rel => exact ⟨rfl, a, L', q, rfl, han, by rw [← HLs.out]; exact lose_40 HL.out, T6.out.less (fun c hc => .inl hc)⟩
                · try clear_value *
                  as_aux_lemma =>
                    let _BP : Exit → Act → World → Prop := bodyPost Tryd.prog Tryd.f3 fun _ _ => True
                    go_upto_if 106 with fail
                    go_cut [7] (fun c7 wd => ∃ (a' : Nat) (x0 x1 x2 : Int) (x3 : Bool) (x4 : ByteArray), c7 = .int .i64 a' ∧ a' ≤ nl ∧ wd = wB.alloc (.cells #[.int .i64 x0, .int .i64 x1, .int .i64 x2, .bool x3, .string x4] 35))
                    case first =>
                      try clear_value *
                      as_aux_lemma =>
                        let _BP : Exit → Act → World → Prop := bodyPost Tryd.prog Tryd.f3 fun _ _ => True
                        by_cases hL : a < nl
                        · have hjl : a < l.length := by rw [HNl.out]; exact hL
                          have hlti' : (a : Int) < (nl : Int) := by omega
                          obtain ⟨bL, ob, rfl, hbw, hat⟩ := HRow.out (fun h => by simp [h] at hjl)
                          have HAt : Hid (EnAt w bL (ob + a * 5) l[a]) := hat a hjl
                          clear hat
                          obtain ⟨y, HY⟩ : ∃ y, Hid (l[a] = y) := ⟨l[a], show l[a] = l[a] from rfl⟩
                          rw [HY.out] at HAt
                          obtain ⟨x0, x1, x2, x3, x4⟩ := y
                          obtain ⟨c0, c1, c2, c3, c4⟩ := HAt.out.of_block (TB.out.bel.block bL hbw)
                          dsimp only at c0 c1 c2 c3 c4
                          have hb3 : bL < wB.heap.size := by have := TB.out.hN; omega
                          go_wp2_with fail
                          go_meet
                          case rel => exact ⟨a + 1, x0, x1, x2, x3, x4, by go_num, by omega, rfl⟩
                        · have hlti' : ¬ (a : Int) < (nl : Int) := by omega
                          go_wp2_with fail
                          go_meet
                          case rel => exact ⟨a, 0, 0, 0, false, ⟨#[]⟩, rfl, han, rfl⟩
                    case rest =>
                      obtain ⟨a', x0, x1, x2, x3, x4, rfl, ha', hwd⟩ := hcut
                      obtain ⟨wE, hren⟩ : ∃ x, x = wc := ⟨_, rfl⟩
                      subst hren
                      have TE : Hid (Tm (fun c => c = A) w.heap.size w wE b K L q L q) := by unfold Hid; rw [hwd]; exact TB.out.grown (by go_grown)
                      have ZE : Hid (Z3 wE A z0 z1 z2) := by unfold Hid; rw [hwd]; exact ZB.out.grown (by go_grown)
                      have XE : Hid (BoxAt wE wB.heap.size x0 x1 x2 x3 x4) := by unfold Hid; rw [hwd]; exact box_new wB x0 x1 x2 x3 x4 _ rfl
                      obtain ⟨E, HE⟩ : ∃ E, Hid (wB.heap.size = E) := ⟨_, rfl⟩
                      rw [HE.out] at XE ⊢
                      clear hwd TB ZB a0 a1 a2 lA HE
                      obtain ⟨a0, a1, a2⟩ := ZE.out
                      have lA := ZE.out.lt
                      have lE := XE.out.lt
                      obtain ⟨c0, c1, c2, c3, c4, cf⟩ := XE.out
                      go_upto_region 28 with fail
                      refine reg28 a1 a2 lA lE c0 c1 c2 c3 c4 ?_
                      go_upto_region 29 with fail
                      have TY : Hid (Tm (fun c => c = A ∨ c = wE.heap.size) w.heap.size w (wE.alloc (.cells #[.int .i64 z1, .int .i64 z2, .int .i64 x0, .int .i64 x1, .int .i64 x2, .bool x3, .string x4] 37)) b K L q L q) := TE.out.more (by go_grown) _ (Nat.le_refl _) (by simp)
                      have YY : Hid (BoxL (wE.alloc (.cells #[.int .i64 z1, .int .i64 z2, .int .i64 x0, .int .i64 x1, .int .i64 x2, .bool x3, .string x4] 37)) wE.heap.size z1 z2 x0 x1 x2 x3 x4) := boxL_new wE _ _ _ _ _ _ _ _ rfl
                      generalize (wE.alloc (.cells #[.int .i64 z1, .int .i64 z2, .int .i64 x0, .int .i64 x1, .int .i64 x2, .bool x3, .string x4] 37)) = wY at TY YY ⊢
                      obtain ⟨Y, HY⟩ : ∃ Y, Hid (wE.heap.size = Y) := ⟨_, rfl⟩
                      rw [HY.out] at TY YY ⊢
                      clear HY a0 a1 a2 lA lE c0 c1 c2 c3 c4 cf TE ZE XE
                      obtain ⟨m, HMe⟩ : ∃ m, Hid (sendE L.length ⟨z1, z2, ⟨x0, x1, x2, x3, x4⟩⟩ = m) := ⟨_, rfl⟩
                      obtain ⟨L', HLs⟩ : ∃ L', Hid (sendL L q ⟨z1, z2, ⟨x0, x1, x2, x3, x4⟩⟩ = L') := ⟨_, rfl⟩
                      obtain ⟨S1, hS1, hC1⟩ := TY.out.callK
                      have HS : Hid _ := hS1
                      have HC : Hid _ := hC1
                      clear hS1 hC1
                      obtain ⟨y0, y1, y2, y3, y4, y5, y6, yf⟩ := YY.out
                      go_wp2_with fail
                      refine (rSend_n HS.out HMe.out HLs.out).mono ?_
                      rintro e w3 ⟨rfl, ht⟩
                      obtain ⟨t1, t2⟩ := HC.out _ _ _ ht
                      have T3 : Hid _ := t1
                      have Y3 : Hid (BoxL w3 Y z1 z2 x0 x1 x2 x3 x4) := YY.out.of_block (t2 Y (.inr rfl))
                      clear ht t1 t2 HS HC y0 y1 y2 y3 y4 y5 y6 yf TY YY
                      obtain ⟨S1, hS1, hC1⟩ := T3.out.callM
                      have HS : Hid _ := hS1
                      have HC : Hid _ := hC1
                      clear hS1 hC1
                      obtain ⟨y0, y1, y2, y3, y4, y5, y6, yf⟩ := Y3.out
                      go_wp2_with fail
                      refine (mlSend_n HS.out HMe.out HLs.out).mono ?_
                      rintro e w4 ⟨rfl, ht⟩
                      have T4 : Hid _ := (HC.out _ _ _ ht).1
                      clear ht HS HC y0 y1 y2 y3 y4 y5 y6 yf
                      go_wp2_with fail
                      refine (err_same m _ (HG.out.below hlt T4.out.bel)).mono ?_
                      rintro e w5 ⟨rfl, hb⟩
                      have T5 : Hid _ := T4.out.grown hb
                      clear hb
                      go_wp2_with fail
                      go_meet
                      case rel => exact ⟨rfl, a', L', q, rfl, ha', by rw [← HLs.out]; exact send_40 HL.out, T5.out.less (fun c hc => .inl hc)⟩
          case rest =>
            obtain ⟨rfl, a', L', q', rfl, ha', HL', TC⟩ := hcut
            obtain ⟨wC, hren⟩ : ∃ x, x = wc := ⟨_, rfl⟩
            subst hren
            clear TB ZB a0 a1 a2 lA
            obtain ⟨nC, HNC⟩ : ∃ n, Hid (L'.length = n) := ⟨_, rfl⟩
            obtain ⟨nD, HND⟩ : ∃ n, Hid (L'.length = n) := ⟨_, rfl⟩
            have hne : ((nD : Int) != (nC : Int)) = false := by have := HNC.out; have := HND.out; simp; omega
            obtain ⟨pk2, capk2, ck2⟩ := TC.out.cellK
            rw [HNC.out] at ck2
            have lK2 := World.block_lt_of_cell? wC _ ck2
            obtain ⟨S5, hS5, _⟩ := TC.out.callM
            have HCt : Hid (∀ r, Calls Tryd.prog 15 #[.pointer (some ⟨b, 0, none⟩)] (wC.drewN r) fun e w' => e = .returned (.int .i64 nD) ∧ w' = wC.drewN r) := fun r => (mlCount_c (hS5.blocks (w' := wC.drewN r) (Nat.le_refl _) (fun _ _ => rfl)) HND.out).mono fun _ _ h => ⟨h.1, h.2.symm⟩
            clear hS5
            go_upto_region 51 with fail
            go_quiet (first | (go_at_call 15; exact Calls.quiet_of_same (HCt.out _)))
            go_wp2_with fail
            go_roundw
            case rel => exact ⟨n + 1, a', L', q', by omega, by omega, ha', rfl, by go_num, HL', (TC.out.less (fun _ h => h.elim)).grown ⟨rfl, rfl, rfl, Nat.le_refl _, fun _ _ => rfl⟩⟩
            case measure => simp [intOf]; omega
    · by_cases hn1 : n < ns
      · have hd1 : decide ((n : Int) < (ns : Int)) = true := by simp; omega
        have hd2 : decide ((n : Int) < 150) = false := by simp; omega
        go_wp2_with fail
        go_ret
        exact ⟨rfl, TR.out.bel⟩
      · have hd1 : decide ((n : Int) < (ns : Int)) = false := by simp; omega
        go_wp2_with fail
        go_ret
        exact ⟨rfl, TR.out.bel⟩
end Go.Proofs.YthpcogpbgjkiaahDoor
