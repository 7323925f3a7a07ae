/-
  merelaw1.StorePlays, the walk.
-/
import Derived.Test.YtgncclahhejcdaaDoorPlL
import Derived.Test.YtgncclahhejcdaaDoorEq
import Derived.Deep.DeepCutAuto
import Derived.Deep.CutBlock
import Derived.Deep.RegionHeld3
import Derived.Deep.DrawnRows
import Derived.Deep.LoopGhost
import Derived.BigQuiet
import Derived.WalkSmall
namespace Go.Proofs.YtgncclahhejcdaaDoor.storePlays
set_option linter.unusedVariables false
set_option linter.unusedSimpArgs false
open Go.RowKit
attribute [local go_sem ↓] Go.wp_at_zero Go.wp_at_succ

set_option maxRecDepth 100000 in
set_option maxHeartbeats 4000000 in
theorem walk (vs vt : Value) (ns nt : Nat) (w : World) (hg : HasErr w) (hs : IsSteps w vs ns) (ht : IsTexts w vt nt) :
    Calls Tryd.prog 4 #[vs, vt] w fun e w' => e = .returned (.bool true) ∧ Below w.heap.size w w' := by
  have HG : Hid (HasErr w) := hg
  obtain ⟨aS, cS, rfl, hns, hs1⟩ := hs
  obtain ⟨aT, cT, rfl, hnt, ht1⟩ := ht
  have HS1 : Hid (∀ i, i < ns → ∃ b o u m, aS = some ⟨b, o, none⟩ ∧ w.cell? ⟨b, o + i, none⟩ = some u ∧ IsInts w u m) := hs1
  have HT1 : Hid (∀ i, i < nt → ∃ b o s, aT = some ⟨b, o, none⟩ ∧ w.cell? ⟨b, o + i, none⟩ = some (.string s) ∧ s.size ≤ maxLen) := ht1
  clear hs1 ht1
  have hlt := hg.lt
  clear hg
  unfold maxLen at hns hnt
  go_enter Tryd.func4, Tryd.ntmps4
  go_wp2_with (first | (go_at_call 7; refine (new_c _).mono ?_; rintro e w' ⟨rfl, rfl⟩))
  go_loopg [7] 80 (fun gk i wr => ∃ n : Nat, gk + n = 80 ∧ n ≤ ns ∧ i = .int .i64 n ∧ Hid (Below w.heap.size w wr) ∧ ∃ l F G, Hid (Both w.heap.size wr w.heap.size (w.heap.size + 1) l F G))
  case atStart => exact ⟨0, by omega, by omega, rfl, by unfold Hid; go_grown, [], _, _, both_start w⟩
  case round =>
    obtain ⟨n, hgk, hnn, rfl, HB, l, F, G, HBw⟩ := hrel
    by_cases hlt1 : n < ns ∧ n < 80
    · obtain ⟨hn1, hn2⟩ := hlt1
      have hd1 : decide ((n : Int) < (ns : Int)) = true := by simp; omega
      have hd2 : decide ((n : Int) < 80) = true := by simp; omega
      obtain ⟨bS, oS, u, m, rfl, cu, HI⟩ := HS1.out n hn1
      have cu' := old_cell HB.out cu
      have lS := World.block_lt_of_cell? wr _ cu'
      have HI' := HI.below HB.out
      obtain ⟨aI, cI, rfl, hm, hz⟩ := HI'
      have HZ : Hid (∀ j, j < m → ∃ b o z, aI = some ⟨b, o, none⟩ ∧ wr.cell? ⟨b, o + j, none⟩ = some (.int .i64 z)) := hz
      unfold maxLen at hm
      clear HI cu hz
      go_upto_block 2 with fail
      go_cut [9] (fun _ wc => ∃ z0 z1 z2 z3 : Int, wc = wr.alloc (.cells #[.int .i64 z0, .int .i64 z1, .int .i64 z2, .int .i64 z3] 42))
      case first =>
        as_aux_lemma =>
          go_wp2_with fail
          go_loopg [9] 4 (fun gq j wi => ∃ q : Nat, gq + q = 4 ∧ j = .int .i64 q ∧ ∃ z0 z1 z2 z3 : Int, wi = wr.alloc (.cells #[.int .i64 z0, .int .i64 z1, .int .i64 z2, .int .i64 z3] 42))
          case atStart => exact ⟨0, by omega, rfl, 0, 0, 0, 0, rfl⟩
          case round =>
            obtain ⟨q, hq, rfl, z0, z1, z2, z3, rfl⟩ := hrel
            by_cases hqm : q < m ∧ q < 4
            · obtain ⟨hq1, hq2⟩ := hqm
              have hq3 : (q : Int) < (m : Int) := by omega
              have hq4 : decide ((q : Int) < (m : Int)) = true := by simp; omega
              obtain ⟨bI, oI, z, rfl, cz⟩ := HZ.out q hq1
              have lI := World.block_lt_of_cell? wr _ cz
              have h4 : q = 0 ∨ q = 1 ∨ q = 2 ∨ q = 3 := by omega
              rcases h4 with rfl | rfl | rfl | rfl
              · simp only [Nat.add_zero] at cz
                go_wp2
                go_roundg (3 : Nat)
                case measure => omega
                case rel => exact ⟨1, by omega, rfl, _, _, _, _, rfl⟩
              · go_wp2
                go_roundg (2 : Nat)
                case measure => omega
                case rel => exact ⟨2, by omega, rfl, _, _, _, _, rfl⟩
              · go_wp2
                go_roundg (1 : Nat)
                case measure => omega
                case rel => exact ⟨3, by omega, rfl, _, _, _, _, rfl⟩
              · go_wp2
                go_roundg (0 : Nat)
                case measure => omega
                case rel => exact ⟨4, by omega, rfl, _, _, _, _, rfl⟩
            · by_cases h : q < m
              · have hq5 : decide ((q : Int) < (m : Int)) = true := by simp; omega
                have hq6 : decide ((q : Int) < 4) = false := by simp; omega
                go_wp2_with fail
                go_meet
                case rel => exact ⟨z0, z1, z2, z3, rfl⟩
              · have hq5 : decide ((q : Int) < (m : Int)) = false := by simp; omega
                go_wp2_with fail
                go_meet
                case rel => exact ⟨z0, z1, z2, z3, rfl⟩
      case rest =>
        as_aux_lemma =>
          obtain ⟨z0, z1, z2, z3, hwc⟩ := hcut
          obtain ⟨wA, hren⟩ : ∃ x, x = wc := ⟨_, rfl⟩
          subst hren
          have HBo : Hid (Both w.heap.size wA w.heap.size (w.heap.size + 1) l F G) := by unfold Hid; rw [hwc]; exact HBw.out.below ((Below.refl _ _).alloc (Nat.le_refl _) _)
          have HBc : Hid (Below w.heap.size w wA) := by unfold Hid; rw [hwc]; exact HB.out.alloc HB.out.size _
          obtain ⟨A, HA⟩ : ∃ A, Hid (A = wr.heap.size) := ⟨_, rfl⟩
          have a0 : wA.cell? ⟨A, 0, none⟩ = some (.int .i64 z0) := by rw [hwc, HA.out]; simp
          have a1 : wA.cell? ⟨A, 1, none⟩ = some (.int .i64 z1) := by rw [hwc, HA.out]; simp
          have a2 : wA.cell? ⟨A, 2, none⟩ = some (.int .i64 z2) := by rw [hwc, HA.out]; simp
          have a3 : wA.cell? ⟨A, 3, none⟩ = some (.int .i64 z3) := by rw [hwc, HA.out]; simp
          have nFA : Hid (¬ F A) := fun h => by have := HBw.out.ltF A h; have := HA.out; omega
          have nGA : Hid (¬ G A) := fun h => by have := HBw.out.ltG A h; have := HA.out; omega
          have hBA : Hid (w.heap.size ≤ wA.heap.size) := HBc.out.size
          clear hwc HZ cu' lS hm
          rw [← HA.out]
          clear HA
          go_upto_if 59 with fail
          go_cut [10] (fun tv wd => wd = wA ∧ ∃ tx : ByteArray, tv = .string tx ∧ Hid (tx.size ≤ maxLen))
          case first =>
            as_aux_lemma =>
              by_cases hn3 : n < nt
              · obtain ⟨bT, oT, s, rfl, ct, hts⟩ := HT1.out n hn3
                have ct' := old_cell HBc.out ct
                have hn4 : (n : Int) < (nt : Int) := by omega
                go_wp2_with fail
                go_meet
                case rel => exact ⟨rfl, s, rfl, hts⟩
              · have hn4 : ¬ (n : Int) < (nt : Int) := by omega
                go_wp2_with fail
                go_meet
                case rel => exact ⟨rfl, _, rfl, by unfold Hid maxLen; decide⟩
          case rest =>
            as_aux_lemma =>
              obtain ⟨hwd, tx, hslot, HTS⟩ := hcut
              have hwd' := hwd.symm
              subst hwd'
              subst hslot
              go_upto_block 4 with fail
              go_cut [11, 12, 13, 14] (fun v11 v12 v13 v14 we => ∃ o : Out, v11 = .int .i64 o.num ∧ v12 = .int .i64 o.err ∧ v13 = .int .i64 o.num ∧ v14 = errV o.err ∧ Hid (Step w.heap.size w.heap.size (w.heap.size + 1) F G wA we o.done))
              case first =>
                as_aux_lemma =>
                  by_cases e0 : z0 = 0
                  · have e0b : (z0 == 0) = true := by simp [e0]
                    clear e0
                    go_wp2_with fail
                    refine (refPut_c _ z1 tx l G _ HTS.out HBo.out.2.1).mono ?_
                    rintro e w4 hr4
                    have HR4 : Hid (LeftR _ _ _ _ _ _) := hr4
                    obtain ⟨rfl, _⟩ := hr4
                    have k1 : w4.cell? ⟨A, 1, none⟩ = some (.int .i64 z1) := pair_midCell HR4.out nGA.out a1
                    have k2 : w4.cell? ⟨A, 2, none⟩ = some (.int .i64 z2) := pair_midCell HR4.out nGA.out a2
                    go_wp2_with fail
                    refine (put_c _ z1 tx l F _ HTS.out (pair_mid HBo.out HR4.out)).mono ?_
                    rintro e w5 hr5
                    have HR5 : Hid (Left _ _ _ _ _ _) := hr5
                    obtain ⟨rfl, _⟩ := hr5
                    have HST : Hid (Step _ _ _ _ _ _ _ _) := pair_step hBA.out HBo.out HR4.out HR5.out
                    clear k1 k2
                    go_wp2_with fail
                    go_meet
                    case rel => exact ⟨_, rfl, rfl, rfl, rfl, HST⟩
                  · have e0b : (z0 == 0) = false := by simp [e0]
                    clear e0
                    by_cases e1 : z0 = 1
                    · have e1b : (z0 == 1) = true := by simp [e1]
                      clear e1
                      go_wp2_with fail
                      refine (refPut_c _ z1 tx l G _ HTS.out HBo.out.2.1).mono ?_
                      rintro e w4 hr4
                      have HR4 : Hid (LeftR _ _ _ _ _ _) := hr4
                      obtain ⟨rfl, _⟩ := hr4
                      have k1 : w4.cell? ⟨A, 1, none⟩ = some (.int .i64 z1) := pair_midCell HR4.out nGA.out a1
                      have k2 : w4.cell? ⟨A, 2, none⟩ = some (.int .i64 z2) := pair_midCell HR4.out nGA.out a2
                      go_wp2_with fail
                      refine (put_c _ z1 tx l F _ HTS.out (pair_mid HBo.out HR4.out)).mono ?_
                      rintro e w5 hr5
                      have HR5 : Hid (Left _ _ _ _ _ _) := hr5
                      obtain ⟨rfl, _⟩ := hr5
                      have HST : Hid (Step _ _ _ _ _ _ _ _) := pair_step hBA.out HBo.out HR4.out HR5.out
                      clear k1 k2
                      go_wp2_with fail
                      go_meet
                      case rel => exact ⟨_, rfl, rfl, rfl, rfl, HST⟩
                    · have e1b : (z0 == 1) = false := by simp [e1]
                      clear e1
                      by_cases e2 : z0 = 2
                      · have e2b : (z0 == 2) = true := by simp [e2]
                        clear e2
                        go_wp2_with fail
                        refine (refDelete_c _ z1 l G _ HBo.out.2.1).mono ?_
                        rintro e w4 hr4
                        have HR4 : Hid (LeftR _ _ _ _ _ _) := hr4
                        obtain ⟨rfl, _⟩ := hr4
                        have k1 : w4.cell? ⟨A, 1, none⟩ = some (.int .i64 z1) := pair_midCell HR4.out nGA.out a1
                        have k2 : w4.cell? ⟨A, 2, none⟩ = some (.int .i64 z2) := pair_midCell HR4.out nGA.out a2
                        go_wp2_with fail
                        refine (delete_c _ z1 l F _ (pair_mid HBo.out HR4.out)).mono ?_
                        rintro e w5 hr5
                        have HR5 : Hid (Left _ _ _ _ _ _) := hr5
                        obtain ⟨rfl, _⟩ := hr5
                        have HST : Hid (Step _ _ _ _ _ _ _ _) := pair_step hBA.out HBo.out HR4.out HR5.out
                        clear k1 k2
                        go_wp2_with fail
                        go_meet
                        case rel => exact ⟨_, rfl, rfl, rfl, rfl, HST⟩
                      · have e2b : (z0 == 2) = false := by simp [e2]
                        clear e2
                        go_wp2_with fail
                        refine (refSwap_c _ z1 z2 tx l G _ HTS.out HBo.out.2.1).mono ?_
                        rintro e w4 hr4
                        have HR4 : Hid (LeftR _ _ _ _ _ _) := hr4
                        obtain ⟨rfl, _⟩ := hr4
                        have k1 : w4.cell? ⟨A, 1, none⟩ = some (.int .i64 z1) := pair_midCell HR4.out nGA.out a1
                        have k2 : w4.cell? ⟨A, 2, none⟩ = some (.int .i64 z2) := pair_midCell HR4.out nGA.out a2
                        go_wp2_with fail
                        refine (swap_c _ z1 z2 tx l F _ HTS.out (pair_mid HBo.out HR4.out)).mono ?_
                        rintro e w5 hr5
                        have HR5 : Hid (Left _ _ _ _ _ _) := hr5
                        obtain ⟨rfl, _⟩ := hr5
                        have HST : Hid (Step _ _ _ _ _ _ _ _) := pair_step hBA.out HBo.out HR4.out HR5.out
                        clear k1 k2
                        go_wp2_with fail
                        go_meet
                        case rel => exact ⟨_, rfl, rfl, rfl, rfl, HST⟩
              case rest =>
                as_aux_lemma =>
                  obtain ⟨o, hv11, hv12, hv13, hv14, HST⟩ := hcut
                  obtain ⟨we, hren⟩ : ∃ x, x = wc := ⟨_, rfl⟩
                  subst hren
                  subst hv11
                  subst hv12
                  subst hv13
                  subst hv14
                  obtain ⟨F2, G2, hbo2⟩ := HST.out.both
                  have HB2 : Hid (Both w.heap.size we w.heap.size (w.heap.size + 1) o.done F2 G2) := hbo2
                  have b1 : we.cell? ⟨A, 1, none⟩ = some (.int .i64 z1) := HST.out.cell nFA.out nGA.out a1
                  have b3 : we.cell? ⟨A, 3, none⟩ = some (.int .i64 z3) := HST.out.cell nFA.out nGA.out a3
                  have HBe : Hid (Below w.heap.size w we) := HBc.out.trans HST.out.below
                  have lA : A < we.heap.size := World.block_lt_of_cell? we _ b1
                  obtain ⟨a6, cap6, c6, hl6⟩ := hbo2.2.1.slice
                  have lM := World.block_lt_of_cell? we _ c6
                  clear hbo2 HST HBo HBc nFA nGA hBA a0 a1 a2 a3 HTS HB HBw
                  generalize hL : o.done = L at HB2 c6 hl6
                  have hen : (o.num == o.num) = true := by simp
                  have hll : (((L.length : Nat) : Int) == ((L.length : Nat) : Int)) = true := by simp
                  clear hL
                  go_upto_region 28 with fail
                  go_cut [15] (fun v15 wf => v15 = .bool true ∧ Hid (Below we.heap.size we wf))
                  case first =>
                    as_aux_lemma =>
                      go_region_held3 (fun w' => w'.cell? ⟨w.heap.size + 1, 0, none⟩ = some (.slice a6 L.length cap6)) (first | go_keep | (rw [hb6.cell (p := ⟨w.heap.size + 1, 0, none⟩) lM]; assumption)) (first | (go_at_call 10; refine (error_same o.err _ (HasErr.drew (HG.out.below hlt HBe.out))).mono ?_; rintro e w6 ⟨rfl, hb6d⟩; have hb6 : Below we.heap.size we w6 := ⟨hb6d.os, hb6d.tape, hb6d.output, hb6d.size, hb6d.block⟩; clear hb6d) | (go_at_call 12; refine (seq_c _ L F2 _ (HB2.out.1.below hb6)).mono ?_; rintro e w7 ⟨rfl, rfl⟩))
                      all_goals go_wp2_with fail
                      all_goals go_meet
                      case rel => exact ⟨rfl, hb6⟩
                  case rest =>
                    as_aux_lemma =>
                      obtain ⟨hv15, HFe⟩ := hcut
                      subst hv15
                      obtain ⟨wf, hren⟩ : ∃ x, x = wc := ⟨_, rfl⟩
                      subst hren
                      have d1 : wf.cell? ⟨A, 1, none⟩ = some (.int .i64 z1) := old_cell HFe.out b1
                      have d3 : wf.cell? ⟨A, 3, none⟩ = some (.int .i64 z3) := old_cell HFe.out b3
                      have d6 := old_cell HFe.out c6
                      have HB3 : Hid (Both w.heap.size wf w.heap.size (w.heap.size + 1) L F2 G2) := HB2.out.below HFe.out
                      have HBf : Hid (Below w.heap.size w wf) := HBe.out.trans (HFe.out.mono HBe.out.size)
                      have lA' : A < wf.heap.size := World.block_lt_of_cell? wf _ d1
                      have lM' := World.block_lt_of_cell? wf _ d6
                      clear HFe HB2 HBe b1 b3 c6 lA lM hen hll
                      go_upto_region 32 with (go_at_call 17; refine (refKey_b _ (isK z1) _ rfl).mono ?_; rintro e w' ⟨rfl, rfl⟩)
                      go_cut [17, 158] (fun v17 v wg => v17 = .bool (isK z1) ∧ v = .bool (!(atY L z1 z3)) ∧ Hid (Below (wf.heap.size + 1) (wf.alloc (.cells #[.int .i64 0, .int .i64 0, .int .i64 0, .bool false, .string ⟨#[]⟩] 25)) wg))
                      case first =>
                        as_aux_lemma =>
                          obtain ⟨kb, hkb⟩ : ∃ kb, isK z1 = kb := ⟨_, rfl⟩
                          have HKB : Hid (isK z1 = kb) := hkb
                          rw [hkb]
                          cases kb
                          · have hk := hkb
                            have HAY : Hid (atY L z1 z3 = false) := by simp [Hid, atY, hk]
                            clear hk hkb
                            go_quiet (fail)
                            go_wp2_with fail
                            go_meet
                            case rel => exact ⟨by rw [HKB.out], by rw [HAY.out]; rfl, below_same _ _ _⟩
                          · have hk := hkb
                            clear hkb
                            by_cases h0 : z3 < 0
                            · have HAY : Hid (atY L z1 z3 = false) := by simp [Hid, atY, hk]; omega
                              have h0' : decide (z3 < 0) = true := by simpa using h0
                              clear hk
                              go_quiet (fail)
                              go_wp2_with fail
                              go_meet
                              case rel => exact ⟨by rw [HKB.out], by rw [HAY.out]; rfl, below_same _ _ _⟩
                            · have h0' : decide (z3 < 0) = false := by simpa using h0
                              by_cases h1 : (L.length : Int) < z3
                              · have HAY : Hid (atY L z1 z3 = false) := by simp [Hid, atY, hk]; omega
                                have h1' : decide ((L.length : Int) < z3) = true := by simpa using h1
                                clear hk
                                go_quiet (fail)
                                go_wp2_with fail
                                go_meet
                                case rel => exact ⟨by rw [HKB.out], by rw [HAY.out]; rfl, below_same _ _ _⟩
                              · have HAY : Hid (atY L z1 z3 = true) := by simp [Hid, atY, hk]; omega
                                have h1' : decide ((L.length : Int) < z3) = false := by simpa using h1
                                clear hk
                                go_quiet (fail)
                                go_wp2_with fail
                                go_meet
                                case rel => exact ⟨by rw [HKB.out], by rw [HAY.out]; rfl, below_same _ _ _⟩
                      case rest =>
                        as_aux_lemma =>
                          obtain ⟨hv17, hv158, HGg⟩ := hcut
                          subst hv17
                          subst hv158
                          obtain ⟨wg, hren⟩ : ∃ x, x = wc := ⟨_, rfl⟩
                          subst hren
                          obtain ⟨X, HX⟩ : ∃ X, Hid (X = wf.heap.size) := ⟨_, rfl⟩
                          have HFG : Hid (Below wf.heap.size wf wg) := ((Below.refl _ _).alloc (Nat.le_refl _) _).trans (HGg.out.mono (Nat.le_succ _))
                          have HE : Hid (EntAt wg X Ent.zero.val) := by
                            unfold Hid
                            rw [HX.out]
                            exact (entAt_new wf 0 0 0 false ⟨#[]⟩).below HGg.out (Nat.lt_succ_self _)
                          have g1 : wg.cell? ⟨A, 1, none⟩ = some (.int .i64 z1) := old_cell HFG.out d1
                          have g3 : wg.cell? ⟨A, 3, none⟩ = some (.int .i64 z3) := old_cell HFG.out d3
                          have HB4 : Hid (Both w.heap.size wg w.heap.size (w.heap.size + 1) L F2 G2) := HB3.out.below HFG.out
                          clear HGg d6 lM'
                          rw [← HX.out]
                          go_upto_if 158 with fail
                          go_cut [12] (fun v12 wh => v12 = .int .i64 (atO L z1 z3).2 ∧ Hid (EntAt wh X (atO L z1 z3).1.val) ∧ Hid (Below wf.heap.size wf wh))
                          case first =>
                            as_aux_lemma =>
                              obtain ⟨ay, hay⟩ : ∃ ay, atY L z1 z3 = ay := ⟨_, rfl⟩
                              have HAY : Hid (atY L z1 z3 = ay) := hay
                              rw [hay]
                              clear hay
                              cases ay
                              · go_wp2_with fail
                                go_meet
                                case rel => exact ⟨by rw [atO_no HAY.out], by rw [atO_no HAY.out]; exact HE, HFG⟩
                              · obtain ⟨hO, hk, hs0, hs1⟩ := atO_yes HAY.out
                                obtain ⟨n3, rfl⟩ := Int.eq_ofNat_of_zero_le hs0
                                have hs2 : n3 ≤ L.length := by omega
                                rw [Int.toNat_natCast] at hO
                                have HO : Hid (atO L z1 (n3 : Int) = (entAt L z1 n3, 0)) := hO
                                obtain ⟨x0, x1, x2, x3, x4, hx⟩ := ent_cells (entAt L z1 n3)
                                have HXV : Hid ((entAt L z1 n3).val = .agg #[.int .i64 x0, .int .i64 x1, .int .i64 x2, .bool x3, .string x4]) := hx
                                clear hO hx hk
                                go_wp2_with fail
                                refine (refAt_c _ z1 n3 L G2 _ hs2 HB4.out.2.1).mono ?_
                                rintro e w8 ⟨rfl, hb8⟩
                                rw [HXV.out]
                                have lX : X < wg.heap.size := by
                                  obtain ⟨⟨y0, y1, y2, y3, y4, _, q0, _⟩, _⟩ := HE.out
                                  exact World.block_lt_of_cell? wg _ q0
                                have HE8 : Hid (EntAt w8 X Ent.zero.val) := HE.out.below hb8 lX
                                have HF8 : Hid (Below wf.heap.size wf w8) := HFG.out.trans (hb8.mono HFG.out.size)
                                obtain ⟨⟨y0, y1, y2, y3, y4, _, q0, q1, q2, q3, q4⟩, qf⟩ := HE8.out
                                clear hb8
                                go_wp2_with fail
                                go_meet
                                case rel => exact ⟨by rw [HO.out], by rw [HO.out, HXV.out]; exact entAt_set HE8.out _ _ _ _ _, below_set5 HF8.out (Nat.le_of_eq HX.out.symm) _ _ _ _ _⟩
                          case rest =>
                            as_aux_lemma =>
                              obtain ⟨hv12, HEh, HFh⟩ := hcut
                              subst hv12
                              obtain ⟨wh, hren⟩ : ∃ x, x = wc := ⟨_, rfl⟩
                              subst hren
                              have h1 : wh.cell? ⟨A, 1, none⟩ = some (.int .i64 z1) := old_cell HFh.out d1
                              have h3 : wh.cell? ⟨A, 3, none⟩ = some (.int .i64 z3) := old_cell HFh.out d3
                              have HB5 : Hid (Both w.heap.size wh w.heap.size (w.heap.size + 1) L F2 G2) := HB3.out.below HFh.out
                              obtain ⟨x0, x1, x2, x3, x4, hx⟩ := ent_cells (atO L z1 z3).1
                              have HXV : Hid ((atO L z1 z3).1.val = .agg #[.int .i64 x0, .int .i64 x1, .int .i64 x2, .bool x3, .string x4]) := hx
                              have hEh := HEh.out
                              rw [hx] at hEh
                              have lXh : X < wh.heap.size := by
                                obtain ⟨⟨y0, y1, y2, y3, y4, _, q0, _⟩, _⟩ := hEh
                                exact World.block_lt_of_cell? wh _ q0
                              have HEh2 : Hid (EntAt wh X (.agg #[.int .i64 x0, .int .i64 x1, .int .i64 x2, .bool x3, .string x4])) := hEh
                              clear hx hEh HEh g1 g3 HB4 HE HFG
                              go_wp2_with fail
                              refine (at_c _ z1 z3 L F2 _ HB5.out.1).mono ?_
                              rintro e w9 ⟨rfl, hb9⟩
                              rw [HXV.out]
                              have HE9 : Hid (EntAt w9 X (.agg #[.int .i64 x0, .int .i64 x1, .int .i64 x2, .bool x3, .string x4])) := HEh2.out.below hb9 lXh
                              have HF9 : Hid (Below wf.heap.size wf w9) := HFh.out.trans (hb9.mono HFh.out.size)
                              have lX9 : X < w9.heap.size := Nat.lt_of_lt_of_le lXh hb9.size
                              generalize hee : (atO L z1 z3).2 = ee
                              clear hee hb9 h1 h3 HEh2 HFh HB5
                              have HN9 : Hid (EntAt (w9.alloc (.cells #[.int .i64 x0, .int .i64 x1, .int .i64 x2, .bool x3, .string x4] 25)) w9.heap.size (.agg #[.int .i64 x0, .int .i64 x1, .int .i64 x2, .bool x3, .string x4])) := entAt_new w9 _ _ _ _ _
                              have HX9 : Hid (EntAt (w9.alloc (.cells #[.int .i64 x0, .int .i64 x1, .int .i64 x2, .bool x3, .string x4] 25)) X (.agg #[.int .i64 x0, .int .i64 x1, .int .i64 x2, .bool x3, .string x4])) := HE9.out.below ((Below.refl _ _).alloc (Nat.le_refl _) _) lX9
                              have HF9a : Hid (Below wf.heap.size wf (w9.alloc (.cells #[.int .i64 x0, .int .i64 x1, .int .i64 x2, .bool x3, .string x4] 25))) := HF9.out.alloc HF9.out.size _
                              have qq := eql_self x0 x1 x2 x3 x4
                              go_wp2_with fail
                              refine (error_same ee _ (HG.out.below hlt (HBf.out.trans (HF9a.out.mono HBf.out.size)))).mono ?_
                              rintro e w10 ⟨rfl, hb10⟩
                              have HX10 : Hid (EntAt w10 X (.agg #[.int .i64 x0, .int .i64 x1, .int .i64 x2, .bool x3, .string x4])) := HX9.out.below hb10 (by simp; omega)
                              have HY10 : Hid (EntAt w10 w9.heap.size (.agg #[.int .i64 x0, .int .i64 x1, .int .i64 x2, .bool x3, .string x4])) := HN9.out.below hb10 (by simp)
                              have HF10 : Hid (Below wf.heap.size wf w10) := HF9a.out.trans (hb10.mono HF9a.out.size)
                              generalize hY : w9.heap.size = Y at *
                              have HYX : Hid (wf.heap.size ≤ Y ∧ X < Y ∧ Y < w10.heap.size) := by
                                refine ⟨by rw [← hY]; exact HF9.out.size, by omega, ?_⟩
                                obtain ⟨⟨y0, y1, y2, y3, y4, _, q0, _⟩, _⟩ := HY10.out
                                exact World.block_lt_of_cell? w10 _ q0
                              clear hb10 hY HN9 HX9 HF9a HE9 HF9 lX9
                              obtain ⟨p0, p1, p2, p3, p4⟩ : w10.cell? ⟨X, 0, none⟩ = some (.int .i64 x0) ∧ w10.cell? ⟨X, 1, none⟩ = some (.int .i64 x1) ∧ w10.cell? ⟨X, 2, none⟩ = some (.int .i64 x2) ∧ w10.cell? ⟨X, 3, none⟩ = some (.bool x3) ∧ w10.cell? ⟨X, 4, none⟩ = some (.string x4) := by
                                obtain ⟨⟨y0, y1, y2, y3, y4, he, q0, q1, q2, q3, q4⟩, _⟩ := HX10.out
                                simp at he
                                obtain ⟨rfl, rfl, rfl, rfl, rfl⟩ := he
                                exact ⟨q0, q1, q2, q3, q4⟩
                              obtain ⟨r0, r1, r2, r3, r4⟩ : w10.cell? ⟨Y, 0, none⟩ = some (.int .i64 x0) ∧ w10.cell? ⟨Y, 1, none⟩ = some (.int .i64 x1) ∧ w10.cell? ⟨Y, 2, none⟩ = some (.int .i64 x2) ∧ w10.cell? ⟨Y, 3, none⟩ = some (.bool x3) ∧ w10.cell? ⟨Y, 4, none⟩ = some (.string x4) := by
                                obtain ⟨⟨y0, y1, y2, y3, y4, he, q0, q1, q2, q3, q4⟩, _⟩ := HY10.out
                                simp at he
                                obtain ⟨rfl, rfl, rfl, rfl, rfl⟩ := he
                                exact ⟨q0, q1, q2, q3, q4⟩
                              have pf := HX10.out.frozen
                              go_upto_if 184 with fail
                              go_cut [12, 17] (fun v12 _ wk => v12 = .int .i64 (readO L z1).2 ∧ Hid (EntAt wk X (readO L z1).1.val) ∧ Hid (∃ vy, EntAt wk Y vy) ∧ Hid (Below wf.heap.size wf wk))
                              case first =>
                                as_aux_lemma =>
                                  have HX12 : Hid (EntAt _ X (.agg #[.int .i64 0, .int .i64 0, .int .i64 0, .bool false, .string ⟨#[]⟩])) := entAt_set HX10.out 0 0 0 false ⟨#[]⟩
                                  have HY12 : Hid (EntAt (((((w10.setCell ⟨X, 0, none⟩ (.int .i64 0)).setCell ⟨X, 1, none⟩ (.int .i64 0)).setCell ⟨X, 2, none⟩ (.int .i64 0)).setCell ⟨X, 3, none⟩ (.bool false)).setCell ⟨X, 4, none⟩ (.string ⟨#[]⟩)) Y _) := HY10.out.of_block (set5_block w10 X Y _ _ _ _ _ (by have := HYX.out; omega))
                                  have HF12 : Hid (Below wf.heap.size wf (((((w10.setCell ⟨X, 0, none⟩ (.int .i64 0)).setCell ⟨X, 1, none⟩ (.int .i64 0)).setCell ⟨X, 2, none⟩ (.int .i64 0)).setCell ⟨X, 3, none⟩ (.bool false)).setCell ⟨X, 4, none⟩ (.string ⟨#[]⟩))) := below_set5 HF10.out (Nat.le_of_eq HX.out.symm) _ _ _ _ _
                                  clear p0 p1 p2 p3 p4 pf r0 r1 r2 r3 r4 qq
                                  obtain ⟨kb, hkb⟩ : ∃ kb, isK z1 = kb := ⟨_, rfl⟩
                                  have HKB : Hid (isK z1 = kb) := hkb
                                  rw [hkb]
                                  clear hkb
                                  cases kb
                                  · go_wp2_with fail
                                    go_meet
                                    case rel => exact ⟨by rw [readO_no HKB.out], by rw [readO_no HKB.out]; exact HX12, ⟨_, HY12.out⟩, HF12⟩
                                  · obtain ⟨u0, u1, u2, u3, u4, hu⟩ := ent_cells (entAt L z1 L.length)
                                    have HUV : Hid ((entAt L z1 L.length).val = .agg #[.int .i64 u0, .int .i64 u1, .int .i64 u2, .bool u3, .string u4]) := hu
                                    clear hu
                                    have e1 := old_cell HF12.out d1
                                    go_wp2_with fail
                                    refine (refRead_c _ z1 L G2 _ (HB3.out.2.1.below HF12.out)).mono ?_
                                    rintro e w13 ⟨rfl, hb13⟩
                                    rw [HUV.out]
                                    have HX13 : Hid (EntAt w13 X (.agg #[.int .i64 0, .int .i64 0, .int .i64 0, .bool false, .string ⟨#[]⟩])) := HX12.out.below hb13 HX12.out.lt
                                    have HY13 : Hid (EntAt w13 Y _) := HY12.out.below hb13 HY12.out.lt
                                    have HF13 : Hid (Below wf.heap.size wf w13) := HF12.out.trans (hb13.mono HF12.out.size)
                                    obtain ⟨p0, p1, p2, p3, p4⟩ := HX13.out.all
                                    have pf := HX13.out.frozen
                                    clear hb13 HX12 HY12 HF12 e1
                                    go_wp2_with fail
                                    go_meet
                                    case rel => exact ⟨by rw [readO_yes HKB.out], by rw [readO_yes HKB.out, HUV.out]; exact entAt_set HX13.out _ _ _ _ _, ⟨_, HY13.out.of_block (set5_block w13 X Y _ _ _ _ _ (by have := HYX.out; omega))⟩, below_set5 HF13.out (Nat.le_of_eq HX.out.symm) _ _ _ _ _⟩
                              case rest =>
                                as_aux_lemma =>
                                  obtain ⟨hv12, HXk, HYk, HFk⟩ := hcut
                                  subst hv12
                                  obtain ⟨wk, hren⟩ : ∃ x, x = wc := ⟨_, rfl⟩
                                  subst hren
                                  obtain ⟨vy, hYk⟩ := HYk.out
                                  have HYk2 : Hid (EntAt wk Y vy) := hYk
                                  have h1 : wk.cell? ⟨A, 1, none⟩ = some (.int .i64 z1) := old_cell HFk.out d1
                                  have HB6 : Hid (Both w.heap.size wk w.heap.size (w.heap.size + 1) L F2 G2) := HB3.out.below HFk.out
                                  obtain ⟨u0, u1, u2, u3, u4, hu⟩ := ent_cells (readO L z1).1
                                  have HUV : Hid ((readO L z1).1.val = .agg #[.int .i64 u0, .int .i64 u1, .int .i64 u2, .bool u3, .string u4]) := hu
                                  clear hu hYk HYk p0 p1 p2 p3 p4 pf r0 r1 r2 r3 r4 qq HX10 HY10 HF10
                                  go_wp2_with fail
                                  refine (read_c _ z1 L F2 _ HB6.out.1).mono ?_
                                  rintro e w14 ⟨rfl, hb14⟩
                                  rw [HUV.out]
                                  have HX14 : Hid (EntAt w14 X (.agg #[.int .i64 u0, .int .i64 u1, .int .i64 u2, .bool u3, .string u4])) := by
                                    have := HXk.out
                                    rw [HUV.out] at this
                                    exact this.below hb14 this.lt
                                  have HY14 : Hid (EntAt w14 Y vy) := HYk2.out.below hb14 HYk2.out.lt
                                  have HF14 : Hid (Below wf.heap.size wf w14) := HFk.out.trans (hb14.mono HFk.out.size)
                                  generalize hee : (readO L z1).2 = ee
                                  obtain ⟨⟨y0, y1, y2, y3, y4, _, q0, q1, q2, q3, q4⟩, qf⟩ := HY14.out
                                  clear hee hb14 h1 HB6 HXk HYk2 HFk
                                  have HY16 : Hid (EntAt (((((w14.setCell ⟨Y, 0, none⟩ (.int .i64 u0)).setCell ⟨Y, 1, none⟩ (.int .i64 u1)).setCell ⟨Y, 2, none⟩ (.int .i64 u2)).setCell ⟨Y, 3, none⟩ (.bool u3)).setCell ⟨Y, 4, none⟩ (.string u4)) Y _) := entAt_set HY14.out u0 u1 u2 u3 u4
                                  have HX16 : Hid (EntAt (((((w14.setCell ⟨Y, 0, none⟩ (.int .i64 u0)).setCell ⟨Y, 1, none⟩ (.int .i64 u1)).setCell ⟨Y, 2, none⟩ (.int .i64 u2)).setCell ⟨Y, 3, none⟩ (.bool u3)).setCell ⟨Y, 4, none⟩ (.string u4)) X _) := HX14.out.of_block (set5_block w14 Y X _ _ _ _ _ (by have := HYX.out; omega))
                                  have HF16 : Hid (Below wf.heap.size wf (((((w14.setCell ⟨Y, 0, none⟩ (.int .i64 u0)).setCell ⟨Y, 1, none⟩ (.int .i64 u1)).setCell ⟨Y, 2, none⟩ (.int .i64 u2)).setCell ⟨Y, 3, none⟩ (.bool u3)).setCell ⟨Y, 4, none⟩ (.string u4))) := below_set5 HF14.out HYX.out.1 _ _ _ _ _
                                  have qq := eql_self u0 u1 u2 u3 u4
                                  go_wp2_with fail
                                  refine (error_same ee _ (HG.out.below hlt (HBf.out.trans (HF16.out.mono HBf.out.size)))).mono ?_
                                  rintro e w17 ⟨rfl, hb17⟩
                                  have hX17 := HX16.out.below hb17 HX16.out.lt
                                  have hY17 := HY16.out.below hb17 HY16.out.lt
                                  have HF17 : Hid (Below wf.heap.size wf w17) := HF16.out.trans (hb17.mono HF16.out.size)
                                  clear q0 q1 q2 q3 q4 qf hb17 HX16 HY16 HF16 HX14 HY14 HF14
                                  obtain ⟨p0, p1, p2, p3, p4⟩ := hX17.all
                                  obtain ⟨r0, r1, r2, r3, r4⟩ := hY17.all
                                  clear hX17 hY17
                                  go_wp2_with fail
                                  go_roundg (gk - 1)
                                  case measure => omega
                                  case rel => exact ⟨n + 1, by omega, by omega, by go_num, HBf.out.trans (HF17.out.mono HBf.out.size), L, F2, G2, HB3.out.below HF17.out⟩
    · by_cases hn1 : n < ns
      · have hd1 : decide ((n : Int) < (ns : Int)) = true := by simp; omega
        have hd2 : decide ((n : Int) < 80) = false := by simp; omega
        go_wp2_with fail
        go_ret
        exact ⟨rfl, HB.out⟩
      · have hd1 : decide ((n : Int) < (ns : Int)) = false := by simp; omega
        go_wp2_with fail
        go_ret
        exact ⟨rfl, HB.out⟩
end Go.Proofs.YtgncclahhejcdaaDoor.storePlays
