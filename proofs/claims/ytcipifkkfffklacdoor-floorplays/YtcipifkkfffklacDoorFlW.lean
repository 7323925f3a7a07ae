/-
  merelaw1.FloorPlays answers true, whatever the steps and the entries.
-/
import Derived.Test.YtcipifkkfffklacDoorFlS
import Derived.Deep.DeepCutAuto
import Derived.Deep.CutBlock
import Derived.Deep.LoopGhost
import Derived.BigQuiet
import Derived.WalkSmall
namespace Go.Proofs.YtcipifkkfffklacDoor
set_option linter.unusedVariables false
set_option linter.unusedSimpArgs false
open Go.RowKit

set_option maxRecDepth 100000 in
set_option maxHeartbeats 16000000 in
theorem plays_walk (vs vl : Value) (ns : Nat) (l : List En) (w : World) (hg : HasErr w) (hs : IsSteps w vs ns) (hrl : RowIs w vl l) :
    Calls Tryd.prog 3 #[vs, vl] w fun e w' => e = .returned (.bool true) ∧ Below w.heap.size w w' := by
  have HG : Hid (HasErr w) := hg
  have hlt := hg.lt
  clear hg
  obtain ⟨aS, cS, rfl, hns, hs1⟩ := hs
  have HS1 : Hid (∀ i, i < ns → ∃ b o u m, aS = some ⟨b, o, none⟩ ∧ w.cell? ⟨b, o + i, none⟩ = some u ∧ IsInts w u m) := hs1
  clear hs1
  unfold maxLen at hns
  obtain ⟨hlen, pL, capL, rfl, hrow⟩ := hrl
  have HRow : Hid (l ≠ [] → ∃ b o, pL = some ⟨b, o, none⟩ ∧ b < w.heap.size ∧ ∀ j (h : j < l.length), EnAt w b (o + j * 5) l[j]) := hrow
  clear hrow
  obtain ⟨nl, HNl⟩ : ∃ n, Hid (l.length = n) := ⟨_, rfl⟩
  rw [HNl.out] at hlen ⊢
  have hn63 : nl ≤ 9223372036854775807 := hlen
  have E5 : Hid (EightAt ((w.alloc (.cells #[.int .i64 0, .int .i64 0, .int .i64 0, .int .i64 0, .int .i64 0, .int .i64 0, .int .i64 0, .int .i64 0] 44)).alloc (.cells #[.int .i64 0, .int .i64 0, .int .i64 0, .int .i64 0, .int .i64 0, .int .i64 0, .int .i64 0, .int .i64 0] 26)) w.heap.size (fun _ => 0)) := (eight_new w _ _ rfl).alloc _
  have W5 : Hid (EightAt ((w.alloc (.cells #[.int .i64 0, .int .i64 0, .int .i64 0, .int .i64 0, .int .i64 0, .int .i64 0, .int .i64 0, .int .i64 0] 44)).alloc (.cells #[.int .i64 0, .int .i64 0, .int .i64 0, .int .i64 0, .int .i64 0, .int .i64 0, .int .i64 0, .int .i64 0] 26)) (w.heap.size + 1) (fun _ => 0)) := eight_new _ _ _ (by simp)
  have B5 : Hid (Below w.heap.size w ((w.alloc (.cells #[.int .i64 0, .int .i64 0, .int .i64 0, .int .i64 0, .int .i64 0, .int .i64 0, .int .i64 0, .int .i64 0] 44)).alloc (.cells #[.int .i64 0, .int .i64 0, .int .i64 0, .int .i64 0, .int .i64 0, .int .i64 0, .int .i64 0, .int .i64 0] 26))) := by show Below _ _ _; go_grown
  go_enter Tryd.func3, Tryd.ntmps3
  go_wp2_with (first | (go_at_call 4; refine (flNew_c _).mono ?_; rintro e w' ⟨rfl, rfl⟩))
  go_loopg [7] 60 (fun gk i wr => ∃ (n : Nat) (o : Nat → Int), gk + n = 60 ∧ n ≤ ns ∧ i = .int .i64 n ∧ Hid (EightAt wr w.heap.size o) ∧ Hid (EightAt wr (w.heap.size + 1) o) ∧ Hid (Below w.heap.size w wr))
  case atStart => exact ⟨0, fun _ => 0, by omega, by omega, rfl, E5, W5, B5⟩
  case round =>
    obtain ⟨n, o, hgk, hnn, rfl, HE, HW, HB⟩ := hrel
    clear E5 W5 B5
    by_cases hlt1 : n < ns ∧ n < 60
    · obtain ⟨hn1, hn2⟩ := hlt1
      have hd1 : decide ((n : Int) < (ns : Int)) = true := by simp; omega
      have hd2 : decide ((n : Int) < 60) = true := by simp; omega
      obtain ⟨bS, oS, u, m, rfl, cu, HI⟩ := HS1.out n hn1
      have cu' := old_cell HB.out cu
      have lS := World.block_lt_of_cell? wr _ cu'
      have HI' := HI.below HB.out
      obtain ⟨aI, cI, rfl, hm, hz⟩ := HI'
      have HZ : Hid (∀ j, j < m → ∃ b o z, aI = some ⟨b, o, none⟩ ∧ wr.cell? ⟨b, o + j, none⟩ = some (.int .i64 z)) := hz
      unfold maxLen at hm
      clear HI cu hz
      go_upto_block 2 with fail
      go_cut [9] (fun _ wc => ∃ z0 z1 z2 : Int, wc = wr.alloc (.cells #[.int .i64 z0, .int .i64 z1, .int .i64 z2] 27))
      case first =>
        as_aux_lemma =>
          go_wp2_with fail
          go_loopg [9] 3 (fun gq j wi => ∃ q : Nat, gq + q = 3 ∧ j = .int .i64 q ∧ ∃ z0 z1 z2 : Int, wi = wr.alloc (.cells #[.int .i64 z0, .int .i64 z1, .int .i64 z2] 27))
          case atStart => exact ⟨0, by omega, rfl, 0, 0, 0, rfl⟩
          case round =>
            obtain ⟨q, hq, rfl, z0, z1, z2, rfl⟩ := hrel
            by_cases hqm : q < m ∧ q < 3
            · obtain ⟨hq1, hq2⟩ := hqm
              have hq3 : (q : Int) < (m : Int) := by omega
              have hq4 : decide ((q : Int) < (m : Int)) = true := by simp; omega
              obtain ⟨bI, oI, z, rfl, cz⟩ := HZ.out q hq1
              have lI := World.block_lt_of_cell? wr _ cz
              have h4 : q = 0 ∨ q = 1 ∨ q = 2 := by omega
              rcases h4 with rfl | rfl | rfl
              · simp only [Nat.add_zero] at cz
                go_wp2
                go_roundg (2 : Nat)
                case measure => omega
                case rel => exact ⟨1, by omega, rfl, _, _, _, rfl⟩
              · go_wp2
                go_roundg (1 : Nat)
                case measure => omega
                case rel => exact ⟨2, by omega, rfl, _, _, _, rfl⟩
              · go_wp2
                go_roundg (0 : Nat)
                case measure => omega
                case rel => exact ⟨3, by omega, rfl, _, _, _, rfl⟩
            · by_cases h : q < m
              · have hq5 : decide ((q : Int) < (m : Int)) = true := by simp; omega
                have hq6 : decide ((q : Int) < 3) = false := by simp; omega
                go_wp2_with fail
                go_meet
                case rel => exact ⟨z0, z1, z2, rfl⟩
              · have hq5 : decide ((q : Int) < (m : Int)) = false := by simp; omega
                go_wp2_with fail
                go_meet
                case rel => exact ⟨z0, z1, z2, rfl⟩
      case rest =>
        obtain ⟨z0, z1, z2, hwc⟩ := hcut
        obtain ⟨wA, hren⟩ : ∃ x, x = wc := ⟨_, rfl⟩
        subst hren
        obtain ⟨A, HA⟩ : ∃ A, Hid (A = wr.heap.size) := ⟨_, rfl⟩
        have FA : Hid (Fl3 w.heap.size A z0 z1 z2 w wA o o) := by
          unfold Hid
          rw [hwc, HA.out]
          exact ⟨HE.out.alloc _, HW.out.alloc _, HB.out.alloc HB.out.size _, by simp, by simp, by simp, HW.out.lt⟩
        clear hwc HZ cu' lS hm
        rw [← HA.out]
        clear HA HE HW HB
        obtain ⟨kb, HKb⟩ : ∃ b, Hid (isK z1 = b) := ⟨_, rfl⟩
        have HKf : Hid (flK z1 = kb) := HKb.out
        obtain ⟨sb, HSb⟩ : ∃ b, Hid (flS z2 = b) := ⟨_, rfl⟩
        have a0 := FA.out.c0
        have a1 := FA.out.c1
        have a2 := FA.out.c2
        go_upto_region 12 with (first | (go_at_call 5; refine (refKey_b _ kb _ HKb.out).mono ?_; rintro e w' ⟨rfl, rfl⟩))
        go_cut [11] (fun c wd => wd = wA ∧ c = .bool sb)
        case first =>
          as_aux_lemma =>
            by_cases h0 : 0 ≤ z2
            · have hd0 : decide (0 ≤ z2) = true := by simpa using h0
              have HC : Hid (sb = decide (z2 ≤ 1000)) := by
                show sb = _
                rw [← HSb.out]
                simp [flS, h0]
              go_wp2_with fail
              go_meet
              case rel => exact ⟨rfl, by rw [HC.out]⟩
            · have hd0 : decide (0 ≤ z2) = false := by simpa using h0
              have HC : Hid (sb = false) := by
                show sb = _
                rw [← HSb.out]
                simp [flS, hd0]
              go_wp2_with fail
              go_meet
              case rel => exact ⟨rfl, by rw [HC.out]⟩
        case rest =>
          obtain ⟨hwd, rfl⟩ := hcut
          have hwd' := hwd.symm
          subst hwd'
          go_upto_if 74 with fail
          go_cut [12, 13, 14, 15, 16, 17, 18] (fun c12 _ _ _ _ _ _ wc => c12 = .bool true ∧ ∃ p, Hid (Fl3 w.heap.size A z0 z1 z2 w wc p p))
          case first =>
            as_aux_lemma =>
              by_cases e0 : z0 = 0
              · have e0b : (z0 == 0) = true := by simp [e0]
                clear e0
                go_upto_if 75 with fail
                go_cut [13, 14] (fun c13 _ wc => c13 = .int .i64 (flErr sb) ∧ Hid (Fl3 w.heap.size A z0 z1 z2 w wc o (flAll o z2)))
                case first =>
                  as_aux_lemma =>
                    cases sb
                    · have HC : Hid (flAll o z2 = o) := flAll_no HSb.out
                      go_wp2_with fail
                      go_meet
                      case rel => exact ⟨rfl, by rw [HC.out]; exact FA⟩
                    · go_wp2_with fail
                      go_loopg [14] 8 (fun gk i wi => ∃ q : Nat, gk + q = 8 ∧ i = .int .i64 q ∧ Hid (Fl3 w.heap.size A z0 z1 z2 w wi o (upTo o z2 q)))
                      case atStart => exact ⟨0, by omega, rfl, by rw [upTo_zero]; exact FA⟩
                      case round =>
                        obtain ⟨q, hq, rfl, Fq⟩ := hrel
                        clear a0 a1 a2
                        by_cases hq8 : q < 8
                        · have hl : (q : Int) < 8 := by omega
                          have h1 : (0 : Int) ≤ (q : Int) := by omega
                          have c2 := Fq.out.c2
                          have hc := Fq.out.wa.cell q hq8
                          rw [upTo_at] at hc
                          have hf := Fq.out.wa.fz q
                          have hlq := Fq.out.wa.lt
                          obtain ⟨x, HXx⟩ : ∃ x, Hid (o q = x) := ⟨_, rfl⟩
                          rw [HXx.out] at hc
                          by_cases hx : x < z2
                          · have HS : Hid (upd (upTo o z2 q) q z2 = upTo o z2 (q + 1)) := upTo_set (by rw [HXx.out]; exact hx)
                            go_wp2_with fail
                            go_quiet (fail)
                            go_wp2_with fail
                            go_roundg (7 - q)
                            case measure => omega
                            case rel => exact ⟨q + 1, by omega, by go_num, by rw [← HS.out]; exact (Fq.out.set q hq8 z2).drewN _⟩
                          · have HS : Hid (upTo o z2 (q + 1) = upTo o z2 q) := upTo_skip (by rw [HXx.out]; exact hx)
                            go_wp2_with fail
                            go_quiet (fail)
                            go_wp2_with fail
                            go_roundg (7 - q)
                            case measure => omega
                            case rel => exact ⟨q + 1, by omega, by go_num, by rw [HS.out]; exact Fq.out.drewN _⟩
                        · have hl : ¬ (q : Int) < 8 := by omega
                          go_wp2_with fail
                          go_meet
                          case rel => exact ⟨rfl, Fq.out.to (upTo_all HSb.out (by omega))⟩
                case rest =>
                  obtain ⟨rfl, F1⟩ := hcut
                  obtain ⟨w1, hren⟩ : ∃ x, x = wc := ⟨_, rfl⟩
                  subst hren
                  clear a0 a1 a2 FA
                  have c2 := F1.out.c2
                  go_wp2_with fail
                  refine (flAll_b w.heap.size o HSb.out _ F1.out.fl).mono ?_
                  rintro e w2 ⟨rfl, he, ho⟩
                  have F2 : Hid (Fl3 w.heap.size A z0 z1 z2 w w2 (flAll o z2) (flAll o z2)) := F1.out.only ho he
                  clear he ho c2 F1
                  go_wp2_with fail
                  refine (err_same (flErr sb) _ (HG.out.below hlt F2.out.bel)).mono ?_
                  rintro e w3 ⟨rfl, hb⟩
                  have F3 : Hid (Fl3 w.heap.size A z0 z1 z2 w w3 (flAll o z2) (flAll o z2)) := F2.out.grown hb
                  clear hb
                  go_wp2_with fail
                  go_meet
                  case rel => exact ⟨rfl, _, F3⟩
              · have e0b : (z0 == 0) = false := by simp [e0]
                clear e0
                cases kb
                · have HC : Hid ((flK z1 && flS z2) = false) := by show _ = _; rw [HKf.out]; rfl
                  have HR0 : Hid (flRose o z1 z2 = false) := flRose_no HC.out
                  have HE0 : Hid (flErr (flK z1 && flS z2) = 1) := by show _ = _; rw [HC.out]; rfl
                  go_wp2_with fail
                  refine (flRaise_n w.heap.size o HR0.out HE0.out _ FA.out.fl).mono ?_
                  rintro e w2 ⟨rfl, he, ho⟩
                  rw [flRaise_no HC.out] at he
                  have F2 : Hid (Fl3 w.heap.size A z0 z1 z2 w w2 o o) := FA.out.only ho he
                  clear he ho a0 a1 a2
                  go_wp2_with fail
                  refine (err_same 1 _ (HG.out.below hlt F2.out.bel)).mono ?_
                  rintro e w3 ⟨rfl, hb⟩
                  have F3 : Hid (Fl3 w.heap.size A z0 z1 z2 w w3 o o) := F2.out.grown hb
                  clear hb
                  go_wp2_with fail
                  go_meet
                  case rel => exact ⟨rfl, _, F3⟩
                · cases sb
                  · have HC : Hid ((flK z1 && flS z2) = false) := by show _ = _; rw [HKf.out, HSb.out]; rfl
                    have HR0 : Hid (flRose o z1 z2 = false) := flRose_no HC.out
                    have HE0 : Hid (flErr (flK z1 && flS z2) = 1) := by show _ = _; rw [HC.out]; rfl
                    go_wp2_with fail
                    refine (flRaise_n w.heap.size o HR0.out HE0.out _ FA.out.fl).mono ?_
                    rintro e w2 ⟨rfl, he, ho⟩
                    rw [flRaise_no HC.out] at he
                    have F2 : Hid (Fl3 w.heap.size A z0 z1 z2 w w2 o o) := FA.out.only ho he
                    clear he ho a0 a1 a2
                    go_wp2_with fail
                    refine (err_same 1 _ (HG.out.below hlt F2.out.bel)).mono ?_
                    rintro e w3 ⟨rfl, hb⟩
                    have F3 : Hid (Fl3 w.heap.size A z0 z1 z2 w w3 o o) := F2.out.grown hb
                    clear hb
                    go_wp2_with fail
                    go_meet
                    case rel => exact ⟨rfl, _, F3⟩
                  · obtain ⟨kn, rfl, hk⟩ := flK_nat HKf.out
                    have HC : Hid ((flK (kn : Int) && flS z2) = true) := by show _ = _; rw [HKf.out, HSb.out]; rfl
                    have HE0 : Hid (flErr (flK (kn : Int) && flS z2) = 0) := by show _ = _; rw [HC.out]; rfl
                    have h1 : (0 : Int) ≤ (kn : Int) := by omega
                    have h2 : (kn : Int) < 8 := by omega
                    have hc := FA.out.wa.cell kn hk
                    have hf := FA.out.wa.fz kn
                    have hlq := FA.out.wa.lt
                    obtain ⟨x, HXx⟩ : ∃ x, Hid (o kn = x) := ⟨_, rfl⟩
                    rw [HXx.out] at hc
                    by_cases hx : x < z2
                    · have HR : Hid (flRaise o kn z2 = upd o kn z2 ∧ flRose o kn z2 = true) := flRaise_up HC.out (by rw [HXx.out]; exact hx)
                      go_wp2_with fail
                      go_quiet (fail)
                      have FQ : Hid (Fl3 w.heap.size A z0 kn z2 w ((wA.drewN nq).setCell ⟨w.heap.size + 1, kn, none⟩ (.int .i64 z2)) o (upd o kn z2)) := (FA.out.drewN nq).set kn hk z2
                      have d1 := FQ.out.c1
                      have d2 := FQ.out.c2
                      go_wp2_with fail
                      refine (flRaise_n w.heap.size o HR.out.2 HE0.out _ FQ.out.fl).mono ?_
                      rintro e w2 ⟨rfl, he, ho⟩
                      rw [HR.out.1] at he
                      have F2 : Hid (Fl3 w.heap.size A z0 kn z2 w w2 (upd o kn z2) (upd o kn z2)) := FQ.out.only ho he
                      clear he ho a0 a1 a2 hc hf hlq d1 d2 FQ
                      go_wp2_with fail
                      refine (err_same 0 _ (HG.out.below hlt F2.out.bel)).mono ?_
                      rintro e w3 ⟨rfl, hb⟩
                      have F3 : Hid (Fl3 w.heap.size A z0 kn z2 w w3 (upd o kn z2) (upd o kn z2)) := F2.out.grown hb
                      clear hb
                      go_wp2_with fail
                      go_meet
                      case rel => exact ⟨rfl, _, F3⟩
                    · have HR : Hid (flRaise o kn z2 = o ∧ flRose o kn z2 = false) := flRaise_same HC.out (by rw [HXx.out]; exact hx)
                      go_wp2_with fail
                      go_quiet (fail)
                      go_wp2_with fail
                      refine (flRaise_n w.heap.size o HR.out.2 HE0.out _ (FA.out.drewN _).fl).mono ?_
                      rintro e w2 ⟨rfl, he, ho⟩
                      rw [HR.out.1] at he
                      have F2 : Hid (Fl3 w.heap.size A z0 kn z2 w w2 o o) := (FA.out.drewN _).only ho he
                      clear he ho a0 a1 a2 hc hf hlq
                      go_wp2_with fail
                      refine (err_same 0 _ (HG.out.below hlt F2.out.bel)).mono ?_
                      rintro e w3 ⟨rfl, hb⟩
                      have F3 : Hid (Fl3 w.heap.size A z0 kn z2 w w3 o o) := F2.out.grown hb
                      clear hb
                      go_wp2_with fail
                      go_meet
                      case rel => exact ⟨rfl, _, F3⟩
          case rest =>
            obtain ⟨rfl, p, F1⟩ := hcut
            obtain ⟨w1, hren⟩ : ∃ x, x = wc := ⟨_, rfl⟩
            subst hren
            clear FA a0 a1 a2
            have c1 := F1.out.c1
            obtain ⟨f, HFo⟩ : ∃ f, Hid (flOf p z1 = f) := ⟨_, rfl⟩
            go_upto_if 129 with fail
            go_cut [19, 20] (fun c19 c20 wd => wd = w1 ∧ c19 = .int .i64 (flErr kb) ∧ c20 = .int .i64 f)
            case first =>
              as_aux_lemma =>
                cases kb
                · have HC : Hid (f = 0) := by
                    show f = 0
                    rw [← HFo.out, flOf, HKf.out]
                    rfl
                  go_wp2_with fail
                  go_meet
                  case rel => exact ⟨rfl, rfl, by rw [HC.out]⟩
                · obtain ⟨kn, rfl, hk⟩ := flK_nat HKf.out
                  have hc := F1.out.wa.cell kn hk
                  have h1 : (0 : Int) ≤ (kn : Int) := by omega
                  have h2 : (kn : Int) < 8 := by omega
                  have HC : Hid (f = p kn) := by
                    show f = p kn
                    rw [← HFo.out, flOf, HKf.out, Int.toNat_natCast]
                    rfl
                  go_wp2_with fail
                  go_meet
                  case rel => exact ⟨rfl, rfl, by rw [HC.out]⟩
            case rest =>
              obtain ⟨hwd, rfl, rfl⟩ := hcut
              have hwd' := hwd.symm
              subst hwd'
              have hff : (f == f) = true := by simp
              go_wp2_with fail
              refine (flOf_b w.heap.size p HKf.out HFo.out _ F1.out.fl).mono ?_
              rintro e w2 ⟨rfl, hb⟩
              have F2 : Hid (Fl3 w.heap.size A z0 z1 z2 w w2 p p) := F1.out.grown hb
              clear hb F1 c1
              go_wp2_with fail
              refine (err_same (flErr kb) _ (HG.out.below hlt F2.out.bel)).mono ?_
              rintro e w3 ⟨rfl, hb⟩
              have F3 : Hid (Fl3 w.heap.size A z0 z1 z2 w w3 p p) := F2.out.grown hb
              clear hb F2
              by_cases hL : n < nl
              · have hjl : n < l.length := by rw [HNl.out]; exact hL
                have hlti : (n : Int) < (nl : Int) := by omega
                obtain ⟨b, ob, rfl, hbw, hat⟩ := HRow.out (fun h => by simp [h] at hjl)
                have HAt : Hid (EnAt w b (ob + n * 5) l[n]) := hat n hjl
                clear hat
                obtain ⟨y, HY⟩ : ∃ y, Hid (l[n] = y) := ⟨l[n], show l[n] = l[n] from rfl⟩
                rw [HY.out] at HAt
                obtain ⟨x0, x1, x2, x3, x4⟩ := y
                obtain ⟨nb, HNb⟩ : ∃ m, Hid (bad x0 x1 x2 x3 x4 = m) := ⟨_, rfl⟩
                obtain ⟨c0, c1, c2, c3, c4⟩ := HAt.out.of_block (F3.out.bel.block b hbw)
                dsimp only at c0 c1 c2 c3 c4
                have hb3 : b < w3.heap.size := by have := F3.out.size; omega
                go_wp2_with fail
                refine (rEntry_b HNb.out _).mono ?_
                rintro e w4 ⟨rfl, hb⟩
                have F4 : Hid (Fl3 w.heap.size A z0 z1 z2 w w4 p p) := F3.out.grown hb
                clear hb c0 c1 c2 c3 c4 F3 hb3
                obtain ⟨c0, c1, c2, c3, c4⟩ := HAt.out.of_block (F4.out.bel.block b hbw)
                dsimp only at c0 c1 c2 c3 c4
                have hb4 : b < w4.heap.size := by have := F4.out.size; omega
                obtain ⟨mb, HMb⟩ : ∃ m, Hid (flMay p x0 x2 nb = m) := ⟨_, rfl⟩
                go_upto_region 44 with fail
                go_cut [24] (fun c24 wd => c24 = .bool mb ∧ Hid (Fl3 w.heap.size A z0 z1 z2 w wd p p))
                case first =>
                  as_aux_lemma =>
                    by_cases hnb : nb = 0
                    · have hnb0 : (nb == 0) = true := by simp [hnb]
                      have HNb0 : Hid (bad x0 x1 x2 x3 x4 = 0) := HNb.out.trans hnb
                      clear hnb
                      obtain ⟨kn, rfl, hk⟩ := bad_keyN HNb0.out
                      have h1 : (0 : Int) ≤ (kn : Int) := by omega
                      have h2 : (kn : Int) < 8 := by omega
                      have hc := F4.out.wa.cell kn hk
                      obtain ⟨x, HXx⟩ : ∃ x, Hid (p kn = x) := ⟨_, rfl⟩
                      rw [HXx.out] at hc
                      have HC : Hid (mb = decide (x ≤ x2)) := by
                        show mb = _
                        rw [← HMb.out, flMay, hnb0, Int.toNat_natCast, HXx.out]
                        rfl
                      go_quiet (fail)
                      go_wp2_with fail
                      go_meet
                      case rel => exact ⟨by rw [HC.out], F4.out.drewN _⟩
                    · have hnb0 : (nb == 0) = false := by simp [hnb]
                      clear hnb
                      have HC : Hid (mb = false) := by
                        show mb = _
                        rw [← HMb.out, flMay, hnb0]
                        rfl
                      go_quiet (fail)
                      go_wp2_with fail
                      go_meet
                      case rel => exact ⟨by rw [HC.out], F4.out.drewN _⟩
                case rest =>
                  obtain ⟨rfl, F5⟩ := hcut
                  obtain ⟨w5, hren⟩ : ∃ x, x = wc := ⟨_, rfl⟩
                  subst hren
                  clear c0 c1 c2 c3 c4 hb4 F4
                  obtain ⟨c0, c1, c2, c3, c4⟩ := HAt.out.of_block (F5.out.bel.block b hbw)
                  dsimp only at c0 c1 c2 c3 c4
                  have hb5 : b < w5.heap.size := by have := F5.out.size; omega
                  have hmm : (mb == mb) = true := by simp
                  go_wp2_with fail
                  refine (flMay_c w.heap.size HNb.out p _ F5.out.fl).mono ?_
                  rintro e w6 ⟨rfl, hb⟩
                  rw [HMb.out]
                  have F6 : Hid (Fl3 w.heap.size A z0 z1 z2 w w6 p p) := F5.out.grown hb
                  clear hb c0 c1 c2 c3 c4 F5 hb5
                  go_wp2_with fail
                  refine (err_same nb _ (HG.out.below hlt F6.out.bel)).mono ?_
                  rintro e w7 ⟨rfl, hb⟩
                  have F7 : Hid (Fl3 w.heap.size A z0 z1 z2 w w7 p p) := F6.out.grown hb
                  clear hb F6
                  go_wp2_with fail
                  go_roundg (gk - 1)
                  case measure => omega
                  case rel => exact ⟨n + 1, p, by omega, by omega, by go_num, F7.out.fl, F7.out.wa, F7.out.bel⟩
              · have hlti : ¬ (n : Int) < (nl : Int) := by omega
                go_wp2_with fail
                go_roundg (gk - 1)
                case measure => omega
                case rel => exact ⟨n + 1, p, by omega, by omega, by go_num, F3.out.fl, F3.out.wa, F3.out.bel⟩
    · by_cases hn1 : n < ns
      · have hd1 : decide ((n : Int) < (ns : Int)) = true := by simp; omega
        have hd2 : decide ((n : Int) < 60) = false := by simp; omega
        go_wp2_with fail
        go_ret
        exact ⟨rfl, HB.out⟩
      · have hd1 : decide ((n : Int) < (ns : Int)) = false := by simp; omega
        go_wp2_with fail
        go_ret
        exact ⟨rfl, HB.out⟩
end Go.Proofs.YtcipifkkfffklacDoor
