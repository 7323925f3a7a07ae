/-
  merelaw2.MailKeeps answers true, whatever comes in.
-/
import Derived.Test.YtklaacnmgojddagMKe
import Derived.Test.YtklaacnmgojddagPl1
import Derived.Deep.DeepCutAuto
import Derived.Deep.CutBlock
import Derived.Deep.LoopGhost
import Derived.Deep.Draws
import Derived.BigQuiet
namespace Go.Proofs.Ytklaacnmgojddag
set_option linter.unusedVariables false
set_option linter.unusedSimpArgs false
open Go.RowKit

def factX : Lt := ⟨1, 2, ⟨3, 4, 5, false, ⟨#[120]⟩⟩⟩
theorem factX_send : sendE 0 factX = 0 := by decide +kernel
set_option maxRecDepth 100000 in
set_option maxHeartbeats 16000000 in
theorem keeps_w (vl vs : Value) (l : List Lt) (ns : Nat) (f d : Int) (w : World) (hl : LtsIs w vl l) (hs : IsSteps w vs ns) :
    Calls Try.prog 4 #[vl, vs, .int .i64 f, .int .i64 d] w fun e w' => e = .returned (.bool true) ∧ Below w.heap.size w w' := by
  obtain ⟨aS, cS, rfl, hns, hs1⟩ := hs
  have HS1 : Hid (∀ i, i < ns → ∃ b o u m, aS = some ⟨b, o, none⟩ ∧ w.cell? ⟨b, o + i, none⟩ = some u ∧ IsInts w u m) := hs1
  clear hs1
  unfold maxLen at hns
  obtain ⟨hlen, pL, capL, rfl, hrow⟩ := hl
  have HRow : Hid (l ≠ [] → ∃ b o, pL = some ⟨b, o, none⟩ ∧ b < w.heap.size ∧ ∀ j (h : j < l.length), LtAt w b (o + j * 7) l[j]) := hrow
  clear hrow
  obtain ⟨nl, HNl⟩ : ∃ n, Hid (l.length = n) := ⟨_, rfl⟩
  rw [HNl.out] at hlen ⊢
  have hn63 : nl ≤ 9223372036854775807 := hlen
  obtain ⟨q0, HQ0⟩ : ∃ q : Nat → Nat → Bool, Hid (q = fun _ _ => false) := ⟨_, rfl⟩
  go_enter Try.func4, Try.ntmps4
  go_wp2_with fail
  refine (mlNew_c _).mono ?_
  rintro e w1 ⟨b0, rfl, ⟨S0, hm0, hS0⟩, hb⟩
  rw [← HQ0.out] at hm0
  have M1 : Hid (Mk w.heap.size w w1 b0 [] q0 (.slice none 0 0) []) := Mk.new (Below.refl _ _) (Nat.le_refl _) hm0 hS0 hb
  clear hb hm0 hS0
  obtain ⟨S1, hS1, hC1⟩ := M1.out.call
  have HS : Hid _ := hS1
  have HC : Hid _ := hC1
  clear hS1 hC1 M1
  have HSE : Hid (sendE ([] : List Lt).length ⟨1, 2, ⟨3, 4, 5, false, ⟨#[120]⟩⟩⟩ = 0) := factX_send
  have HSL : Hid (sendL [] q0 ⟨1, 2, ⟨3, 4, 5, false, ⟨#[120]⟩⟩⟩ = [factX]) := send_yes HSE.out (by rw [HQ0.out])
  go_wp2_with fail
  refine (mlSend_n HS.out HSE.out HSL.out).mono ?_
  rintro e w2 ⟨rfl, ht⟩
  rw [eV_nil rfl]
  have M2 : Hid _ := HC.out _ _ _ ht
  clear ht HS HC
  obtain ⟨S1, hS1, hC1⟩ := M2.out.call
  have HS : Hid _ := hS1
  have HC : Hid _ := hC1
  clear hS1 hC1 M2
  go_wp2_with fail
  refine (mlGive_ok 0 (by simp) HS.out 1 2 3 4 5 false ⟨#[120]⟩ rfl).mono ?_
  rintro e w3 ⟨rfl, ht⟩
  have M3 : Hid _ := HC.out _ _ _ ht
  clear ht HS HC HSE HSL
  go_upto_region 4 with fail
  have M4 : Hid (Mk w.heap.size w (w3.alloc (.cells #[.int .i64 1, .int .i64 2, .int .i64 3, .int .i64 4, .int .i64 5, .bool false, .string ⟨#[120]⟩] 42)) b0 [] q0 (.slice none 0 0) []) := M3.out.grown (by go_grown)
  have Y4 : Hid (BoxL (w3.alloc (.cells #[.int .i64 1, .int .i64 2, .int .i64 3, .int .i64 4, .int .i64 5, .bool false, .string ⟨#[120]⟩] 42)) w3.heap.size 1 2 3 4 5 false ⟨#[120]⟩) := boxL_new w3 _ _ _ _ _ _ _ _ rfl
  generalize (w3.alloc (.cells #[.int .i64 1, .int .i64 2, .int .i64 3, .int .i64 4, .int .i64 5, .bool false, .string ⟨#[120]⟩] 42)) = w4 at M4 Y4 ⊢
  obtain ⟨y0, y1, y2, y3, y4, y5, y6, yf⟩ := Y4.out
  go_wp2_with fail
  obtain ⟨S1, hS1, _⟩ := M4.out.call
  refine (mlCount_c hS1 rfl).mono ?_
  rintro e w5 ⟨rfl, rfl⟩
  clear hS1 y0 y1 y2 y3 y4 y5 y6 yf Y4 M3
  have B5 : Hid (Below w.heap.size w w4) := M4.out.bel
  have N5 := M4.out.hN
  clear M4
  go_wp2_with fail
  refine (mlNew_c _).mono ?_
  rintro e w6 ⟨b, rfl, ⟨S0, hm0, hS0⟩, hb⟩
  rw [← HQ0.out] at hm0
  have M6 : Hid (Mk w.heap.size w w6 b [] q0 (.slice none 0 0) []) := Mk.new B5.out N5 hm0 hS0 hb
  clear hb hm0 hS0 B5 N5
  go_upto_block 0 with fail
  go_cut [14, 15] (fun c14 _ wc => ∃ v, c14 = v ∧ Hid (Mk w.heap.size w wc b (sentK l 20) q0 v (sentK l 20)))
  case first =>
    go_wp2_with fail
    go_loopw [14, 15] (fun c14 i wr => ∃ (j : Nat) (v : Value), j ≤ nl ∧ j ≤ 20 ∧ c14 = v ∧ i = .int .i64 j ∧ Hid (Mk w.heap.size w wr b (sentK l j) q0 v (sentK l j))) (fun _ i _ => nl - (intOf i).toNat)
    case atStart => exact ⟨0, _, by omega, by omega, rfl, rfl, M6⟩
    case round =>
      obtain ⟨j, v, hj, hj20, hv, rfl, MJ⟩ := hrel
      have hv' := hv.symm
      subst hv'
      clear M6
      by_cases hlt1 : j < nl ∧ j < 20
      · obtain ⟨hn1, hn2⟩ := hlt1
        have hd1 : decide ((j : Int) < (nl : Int)) = true := by simp; omega
        have hd2 : decide ((j : Int) < 20) = true := by simp; omega
        have hlti : (j : Int) < (nl : Int) := by omega
        have hjl : j < l.length := by rw [HNl.out]; exact hn1
        obtain ⟨bL, oL, rfl, hbw, hat⟩ := HRow.out (fun h => by simp [h] at hjl)
        have HAt : Hid (LtAt w bL (oL + j * 7) l[j]) := hat j hjl
        clear hat
        obtain ⟨y, HY⟩ : ∃ y, Hid (l[j] = y) := ⟨l[j], show l[j] = l[j] from rfl⟩
        rw [HY.out] at HAt
        obtain ⟨x0, x1, ⟨x2, x3, x4, x5, x6⟩⟩ := y
        obtain ⟨c0, c1, c2, c3, c4, c5, c6⟩ := HAt.out.of_block (MJ.out.bel.block bL hbw)
        dsimp only at c0 c1 c2 c3 c4 c5 c6
        have hb3 : bL < wr.heap.size := by have := MJ.out.hN; omega
        obtain ⟨S1, hS1, hC1⟩ := MJ.out.call
        have HS : Hid _ := hS1
        have HC : Hid _ := hC1
        clear hS1 hC1
        have hln : (sentK l j).length < 40 := by have := sentK_len l j; omega
        have HLn : Hid ((sentK l j).length ≤ 2000) := show _ ≤ _ by omega
        obtain ⟨m, HM⟩ : ∃ m, Hid (sendE (sentK l j).length ⟨x0, x1, ⟨x2, x3, x4, x5, x6⟩⟩ = m) := ⟨_, rfl⟩
        have HM0 : Hid (sendE 0 ⟨x0, x1, ⟨x2, x3, x4, x5, x6⟩⟩ = m) := (send_small _ hln).symm.trans HM.out
        clear hln
        by_cases hm : m = 0
        · subst hm
          have HOk : Hid (okX ⟨x0, x1, ⟨x2, x3, x4, x5, x6⟩⟩ = true) := by show okX _ = true; simp [okX, HM0.out]
          have HK : Hid (sentK l (j + 1) = sentK l j ++ [⟨x0, x1, ⟨x2, x3, x4, x5, x6⟩⟩]) := by
            have := sentK_yes hjl (by rw [HY.out]; exact HOk.out)
            rw [HY.out] at this
            exact this
          have HSL : Hid (sendL (sentK l j) q0 ⟨x0, x1, ⟨x2, x3, x4, x5, x6⟩⟩ = sentK l (j + 1)) := (send_yes HM.out (by rw [HQ0.out])).trans HK.out.symm
          go_wp2_with fail
          refine (mlSend_n HS.out HM.out HSL.out).mono ?_
          rintro e w7 ⟨rfl, ht⟩
          rw [eV_nil rfl]
          have M7 : Hid _ := HC.out _ _ _ ht
          clear ht HS HC c0 c1 c2 c3 c4 c5 c6 hb3
          obtain ⟨c0, c1, c2, c3, c4, c5, c6⟩ := HAt.out.of_block (M7.out.bel.block bL hbw)
          dsimp only at c0 c1 c2 c3 c4 c5 c6
          have hb7 : bL < w7.heap.size := by have := M7.out.hN; omega
          have M8 : Hid (Mk w.heap.size w (w7.alloc (.cells #[.int .i64 x0, .int .i64 x1, .int .i64 x2, .int .i64 x3, .int .i64 x4, .bool x5, .string x6] 42)) b (sentK l (j + 1)) q0 v (sentK l j)) := M7.out.grown (by go_grown)
          have HVa : Hid ((w7.alloc (.cells #[.int .i64 x0, .int .i64 x1, .int .i64 x2, .int .i64 x3, .int .i64 x4, .bool x5, .string x6] 42)).heap[w7.heap.size]? = some (.cells (Lt.cells ⟨x0, x1, ⟨x2, x3, x4, x5, x6⟩⟩).toArray 42 (0, 0))) := alloc_at _ _ _ rfl
          go_wp2_with (at_builtin; refine wp_appLat _ rfl _ _ rfl _ (sentK l j) ⟨x0, x1, ⟨x2, x3, x4, x5, x6⟩⟩ rfl M8.out.row _ rfl HVa.out HLn.out ?_)
          intro va wa hown hgrow hloc
          rw [← HK.out] at hown
          have M9 : Hid (Mk w.heap.size w wa b (sentK l (j + 1)) q0 va (sentK l (j + 1))) := M8.out.append hown hgrow.out (by simpa using hloc.out)
          clear hown hgrow hloc HVa c0 c1 c2 c3 c4 c5 c6 hb7
          go_wp2_with fail
          go_roundw
          case rel => exact ⟨j + 1, _, by omega, by omega, rfl, by go_num, M9⟩
          case measure => simp [intOf]; omega
        · have HOk : Hid (okX ⟨x0, x1, ⟨x2, x3, x4, x5, x6⟩⟩ = false) := by show okX _ = false; simp [okX, HM0.out, hm]
          have HK : Hid (sentK l (j + 1) = sentK l j) := sentK_no hjl (by rw [HY.out]; exact HOk.out)
          have HSL : Hid (sendL (sentK l j) q0 ⟨x0, x1, ⟨x2, x3, x4, x5, x6⟩⟩ = sentK l (j + 1)) := (send_no HM.out hm).trans HK.out.symm
          go_wp2_with fail
          refine (mlSend_n HS.out HM.out HSL.out).mono ?_
          rintro e w7 ⟨rfl, ht⟩
          rw [eV_not hm]
          have M7 : Hid _ := HC.out _ _ _ ht
          clear ht HS HC c0 c1 c2 c3 c4 c5 c6 hb3
          go_wp2_with fail
          go_roundw
          case rel => exact ⟨j + 1, _, by omega, by omega, rfl, by go_num, by rw [HK.out] at M7 ⊢; exact M7⟩
          case measure => simp [intOf]; omega
      · by_cases hn1 : j < nl
        · have hd1 : decide ((j : Int) < (nl : Int)) = true := by simp; omega
          have hd2 : decide ((j : Int) < 20) = false := by simp; omega
          obtain rfl : j = 20 := by omega
          go_wp2_with fail
          go_meet
          case rel => exact ⟨_, rfl, MJ⟩
        · have hd1 : decide ((j : Int) < (nl : Int)) = false := by simp; omega
          have HK : Hid (sentK l j = sentK l 20) := sentK_end (by rw [HNl.out]; omega) hj20
          rw [HK.out] at MJ
          go_wp2_with fail
          go_meet
          case rel => exact ⟨_, rfl, MJ⟩
  case rest =>
    obtain ⟨v, hv, M7⟩ := hcut
    have hv' := hv.symm
    subst hv'
    obtain ⟨w7, hren⟩ : ∃ x, x = wc := ⟨_, rfl⟩
    subst hren
    clear M6
    have hs20 := sentK_len l 20
    obtain ⟨ps, caps, rfl⟩ := M7.out.row.slice
    obtain ⟨sl, HSl⟩ : ∃ n, Hid ((sentK l 20).length = n) := ⟨_, rfl⟩
    rw [HSl.out] at hs20 M7 ⊢
    obtain ⟨sl2, HSl2⟩ : ∃ n, Hid ((sentK l 20).length = n) := ⟨_, rfl⟩
    have hss : ((sl2 : Int) != (sl : Int)) = false := by have := HSl.out; have := HSl2.out; simp; omega
    obtain ⟨S1, hS1, hC1⟩ := M7.out.call
    have HS : Hid _ := hS1
    have HC : Hid _ := hC1
    clear hS1 hC1
    go_wp2_with fail
    refine (mlCount_c HS.out HSl2.out).mono ?_
    rintro e w8 ⟨rfl, rfl⟩
    obtain ⟨m, HMe⟩ : ∃ m, Hid (endsE f d = m) := ⟨_, rfl⟩
    go_wp2_with fail
    refine (mlCut_c HS.out f d m true HMe.out).mono ?_
    rintro e w9 ⟨rfl, ht⟩
    have M9 : Hid _ := HC.out _ _ _ ht
    clear ht HS HC M7
    obtain ⟨q1, HQ1⟩ : ∃ q : Nat → Nat → Bool, Hid (cutQ q0 f d true = q) := ⟨_, rfl⟩
    rw [HQ1.out] at M9
    obtain ⟨EV, HEV⟩ : ∃ v, Hid (eV m = v) := ⟨_, rfl⟩
    rw [HEV.out]
    go_upto_block 2 with fail
    clear hss
    go_cut [17] (fun _ wc => ∃ L, Hid (AllOf L (sentK l 20)) ∧ Hid (L.length ≤ 40) ∧ Hid (Mk w.heap.size w wc b L q1 (.slice ps sl caps) (sentK l 20)))
    case first =>
      go_wp2_with fail
      go_loopw [17] (fun i wr => ∃ (j : Nat) (L : List Lt), j ≤ nl ∧ j ≤ 20 ∧ i = .int .i64 j ∧ Hid (AllOf L (sentK l 20)) ∧ Hid (L.length ≤ 20 + j) ∧ Hid (Mk w.heap.size w wr b L q1 (.slice ps sl caps) (sentK l 20))) (fun i _ => nl - (intOf i).toNat)
      case atStart => exact ⟨0, _, by omega, by omega, rfl, fun x hx => hx, (by show _ ≤ _; rw [HSl.out]; omega), M9⟩
      case round =>
        obtain ⟨j, L, hj, hj20, rfl, HA, HLn, MJ⟩ := hrel
        clear M9
        by_cases hlt1 : j < nl ∧ j < 20
        · obtain ⟨hn1, hn2⟩ := hlt1
          have hd1 : decide ((j : Int) < (nl : Int)) = true := by simp; omega
          have hd2 : decide ((j : Int) < 20) = true := by simp; omega
          have hlti : (j : Int) < (nl : Int) := by omega
          have hjl : j < l.length := by rw [HNl.out]; exact hn1
          obtain ⟨bL, oL, rfl, hbw, hat⟩ := HRow.out (fun h => by simp [h] at hjl)
          have HAt : Hid (LtAt w bL (oL + j * 7) l[j]) := hat j hjl
          clear hat
          obtain ⟨y, HY⟩ : ∃ y, Hid (l[j] = y) := ⟨l[j], show l[j] = l[j] from rfl⟩
          rw [HY.out] at HAt
          obtain ⟨x0, x1, ⟨x2, x3, x4, x5, x6⟩⟩ := y
          obtain ⟨S1, hS1, hC1⟩ := MJ.out.call
          have HS : Hid _ := hS1
          have HC : Hid _ := hC1
          clear hS1 hC1
          obtain ⟨n, HN⟩ : ∃ n, Hid (L.length = n) := ⟨_, rfl⟩
          have hn40 : n < 40 := by have := HN.out; have := HLn.out; omega
          obtain ⟨s, HSe⟩ : ∃ m, Hid (sendE L.length ⟨x0, x1, ⟨x2, x3, x4, x5, x6⟩⟩ = m) := ⟨_, rfl⟩
          obtain ⟨L', HL'⟩ : ∃ L', Hid (sendL L q1 ⟨x0, x1, ⟨x2, x3, x4, x5, x6⟩⟩ = L') := ⟨_, rfl⟩
          go_wp2_with fail
          refine (mlCount_c HS.out HN.out).mono ?_
          rintro e w10 ⟨rfl, rfl⟩
          obtain ⟨c0, c1, c2, c3, c4, c5, c6⟩ := HAt.out.of_block (MJ.out.bel.block bL hbw)
          dsimp only at c0 c1 c2 c3 c4 c5 c6
          have hb3 : bL < wr.heap.size := by have := MJ.out.hN; omega
          go_wp2_with fail
          refine (mlSend_n HS.out HSe.out HL'.out).mono ?_
          rintro e w10 ⟨rfl, ht⟩
          have M10 : Hid _ := HC.out _ _ _ ht
          clear ht HS HC c0 c1 c2 c3 c4 c5 c6 hb3 MJ
          obtain ⟨c0, c1, c2, c3, c4, c5, c6⟩ := HAt.out.of_block (M10.out.bel.block bL hbw)
          dsimp only at c0 c1 c2 c3 c4 c5 c6
          have hb10 : bL < w10.heap.size := by have := M10.out.hN; omega
          obtain ⟨cb, HCb⟩ : ∃ c, Hid (((m == 0) && ((x0 == f) && (x1 == d))) = c) := ⟨_, rfl⟩
          obtain ⟨EW, HEW⟩ : ∃ v, Hid (eV s = v) := ⟨_, rfl⟩
          rw [HEW.out]
          go_upto_region 21 with fail
          go_cut [20] (fun c20 wc => wc = w10 ∧ c20 = .bool cb)
          case first =>
            by_cases hm : m = 0
            · obtain rfl : EV = .nilIface := by rw [← HEV.out, eV_nil hm]
              cases he1 : (x0 == f)
              · have HF : Hid (cb = false) := by show cb = false; rw [← HCb.out, he1]; simp
                go_wp2_with fail
                go_meet
                case rel => exact ⟨rfl, by rw [HF.out]⟩
              · have HF : Hid (cb = (x1 == d)) := by show cb = _; rw [← HCb.out, he1, hm]; simp
                go_wp2_with fail
                go_meet
                case rel => exact ⟨rfl, by rw [HF.out]⟩
            · obtain rfl : EV = .iface 51 (.int .i64 m) := by rw [← HEV.out, eV_not hm]
              have HF : Hid (cb = false) := by show cb = false; rw [← HCb.out, show (m == 0) = false by simpa using hm]; rfl
              go_wp2_with fail
              go_meet
              case rel => exact ⟨rfl, by rw [HF.out]⟩
          case rest =>
            obtain ⟨hwd, rfl⟩ := hcut
            have hwd' := hwd.symm
            subst hwd'
            clear c0 c1 c2 c3 c4 c5 c6 hb10
            obtain ⟨n2, HN2⟩ : ∃ n, Hid (L'.length = n) := ⟨_, rfl⟩
            have HLn' : Hid (L'.length ≤ 20 + (j + 1)) := by
              show _ ≤ _
              have h1 := send_len L q1 ⟨x0, x1, ⟨x2, x3, x4, x5, x6⟩⟩
              rw [HL'.out] at h1
              have := HLn.out
              omega
            obtain ⟨S1, hS1, _⟩ := M10.out.call
            have HS : Hid _ := hS1
            clear hS1
            by_cases hs : s = 0
            · obtain rfl : EW = .nilIface := by rw [← HEW.out, eV_nil hs]
              have HSe0 : Hid (sendE L.length ⟨x0, x1, ⟨x2, x3, x4, x5, x6⟩⟩ = 0) := by show _ = _; rw [HSe.out, hs]
              have HOk : Hid (okX ⟨x0, x1, ⟨x2, x3, x4, x5, x6⟩⟩ = true) := sendE_okX HSe0.out
              have HQc : Hid (q1 x0.toNat x1.toNat = cb) := by
                show _ = _
                rw [← HQ1.out, HQ0.out, ← HCb.out, ← HMe.out]
                exact cut_is (okX_ends HOk.out)
              clear hs
              cases cb
              · have HL2 : Hid (L' = L ++ [⟨x0, x1, ⟨x2, x3, x4, x5, x6⟩⟩]) := HL'.out.symm.trans (send_yes HSe0.out HQc.out)
                have HA' : Hid (AllOf L' (sentK l 20)) := by
                  show AllOf _ _
                  rw [HL2.out]
                  refine HA.out.add ?_
                  have := sentK_mem hjl hn2 (by rw [HY.out]; exact HOk.out)
                  rw [HY.out] at this
                  exact this
                have hne : ((n2 : Int) != (n : Int) + 1) = false := by
                  have h1 := HN2.out
                  rw [HL2.out] at h1
                  have h2 := HN.out
                  simp at h1 ⊢
                  omega
                go_wp2_with fail
                refine (mlCount_c HS.out HN2.out).mono ?_
                rintro e w11 ⟨rfl, rfl⟩
                go_wp2_with fail
                go_roundw
                case rel => exact ⟨j + 1, _, by omega, by omega, by go_num, HA', HLn', M10⟩
                case measure => simp [intOf]; omega
              · have HL2 : Hid (L' = L) := HL'.out.symm.trans (send_cut HQc.out)
                have HA' : Hid (AllOf L' (sentK l 20)) := by show AllOf _ _; rw [HL2.out]; exact HA.out
                have hne : ((n2 : Int) != (n : Int)) = false := by
                  have h1 := HN2.out
                  rw [HL2.out] at h1
                  have h2 := HN.out
                  simp
                  omega
                go_wp2_with fail
                refine (mlCount_c HS.out HN2.out).mono ?_
                rintro e w11 ⟨rfl, rfl⟩
                go_wp2_with fail
                go_roundw
                case rel => exact ⟨j + 1, _, by omega, by omega, by go_num, HA', HLn', M10⟩
                case measure => simp [intOf]; omega
            · obtain rfl : EW = .iface 51 (.int .i64 s) := by rw [← HEW.out, eV_not hs]
              have HL2 : Hid (L' = L) := HL'.out.symm.trans (send_no HSe.out hs)
              have HA' : Hid (AllOf L' (sentK l 20)) := by show AllOf _ _; rw [HL2.out]; exact HA.out
              go_wp2_with fail
              go_roundw
              case rel => exact ⟨j + 1, _, by omega, by omega, by go_num, HA', HLn', M10⟩
              case measure => simp [intOf]; omega
        · have HL40 : Hid (L.length ≤ 40) := by show _ ≤ _; have := HLn.out; omega
          by_cases hn1 : j < nl
          · have hd1 : decide ((j : Int) < (nl : Int)) = true := by simp; omega
            have hd2 : decide ((j : Int) < 20) = false := by simp; omega
            go_wp2_with fail
            go_meet
            case rel => exact ⟨L, HA, HL40, MJ⟩
          · have hd1 : decide ((j : Int) < (nl : Int)) = false := by simp; omega
            go_wp2_with fail
            go_meet
            case rel => exact ⟨L, HA, HL40, MJ⟩
    case rest =>
      obtain ⟨L2, HA, HL40, M10⟩ := hcut
      obtain ⟨w10, hren⟩ : ∃ x, x = wc := ⟨_, rfl⟩
      subst hren
      clear M9 HQ1 HMe HEV
      go_upto_block 4 with fail
      go_cut [21] (fun _ wc => ∃ L, Hid (AllOf L (sentK l 20)) ∧ Hid (L.length ≤ 40) ∧ Hid (Mk w.heap.size w wc b L q1 (.slice ps sl caps) (sentK l 20)))
      case first =>
        go_wp2_with fail
        go_loopw [21] (fun i wr => ∃ (j : Nat) (L : List Lt), j ≤ ns ∧ j ≤ 40 ∧ i = .int .i64 j ∧ Hid (AllOf L (sentK l 20)) ∧ Hid (L.length ≤ 40) ∧ Hid (Mk w.heap.size w wr b L q1 (.slice ps sl caps) (sentK l 20))) (fun i _ => ns - (intOf i).toNat)
        case atStart => exact ⟨0, _, by omega, by omega, rfl, HA, HL40, M10⟩
        case round =>
          obtain ⟨j, L, hj, hj40, rfl, HAJ, HLJ, MJ⟩ := hrel
          clear M10 HA HL40
          by_cases hlt1 : j < ns ∧ j < 40
          · obtain ⟨hn1, hn2⟩ := hlt1
            have hd1 : decide ((j : Int) < (ns : Int)) = true := by simp; omega
            have hd2 : decide ((j : Int) < 40) = true := by simp; omega
            have hlti : (j : Int) < (ns : Int) := by omega
            obtain ⟨bS, oS, u, m2, rfl, cu, HI⟩ := HS1.out j hn1
            have cu' := old_cell MJ.out.bel cu
            have lS := World.block_lt_of_cell? wr _ cu'
            have HI' := HI.below MJ.out.bel
            obtain ⟨aI, cI, rfl, hm, hz⟩ := HI'
            unfold maxLen at hm
            clear HI cu
            by_cases h2 : m2 = 2
            · subst h2
              obtain ⟨bI, oI, z0, rfl, cz0⟩ := hz 0 (by omega)
              obtain ⟨bI', oI', z1, e1, cz1⟩ := hz 1 (by omega)
              have e2 : bI' = bI ∧ oI' = oI := by simpa [eq_comm] using e1
              obtain ⟨rfl, rfl⟩ := e2
              clear hz e1
              simp only [Nat.add_zero] at cz0
              have lI := World.block_lt_of_cell? wr _ cz0
              obtain ⟨S1, hS1, hC1⟩ := MJ.out.call
              have HS : Hid _ := hS1
              have HC : Hid _ := hC1
              clear hS1 hC1
              cases hr : (z0.tmod 2 == 0)
              · go_wp2_with fail
                refine (mlTwice_n HS.out rfl rfl).mono ?_
                rintro e w12 ⟨rfl, ht⟩
                have M12 : Hid _ := HC.out _ _ _ ht
                clear ht HS HC cu' lS cz0 cz1 lI
                go_wp2_with fail
                go_roundw
                case rel => exact ⟨j + 1, _, by omega, by omega, by go_num, HAJ.out.twice z1, twice_len L z1 HLJ.out, M12⟩
                case measure => simp [intOf]; omega
              · go_wp2_with fail
                refine (mlLose_n HS.out rfl rfl).mono ?_
                rintro e w12 ⟨rfl, ht⟩
                have M12 : Hid _ := HC.out _ _ _ ht
                clear ht HS HC cu' lS cz0 cz1 lI
                go_wp2_with fail
                go_roundw
                case rel => exact ⟨j + 1, _, by omega, by omega, by go_num, HAJ.out.lose z1, Nat.le_trans (lose_len L z1) HLJ.out, M12⟩
                case measure => simp [intOf]; omega
            · have hm2 : ((m2 : Int) != 2) = true := by simp; omega
              go_wp2_with fail
              go_roundw
              case rel => exact ⟨j + 1, L, by omega, by omega, by go_num, HAJ, HLJ, MJ⟩
              case measure => simp [intOf]; omega
          · by_cases hn1 : j < ns
            · have hd1 : decide ((j : Int) < (ns : Int)) = true := by simp; omega
              have hd2 : decide ((j : Int) < 40) = false := by simp; omega
              go_wp2_with fail
              go_meet
              case rel => exact ⟨L, HAJ, HLJ, MJ⟩
            · have hd1 : decide ((j : Int) < (ns : Int)) = false := by simp; omega
              go_wp2_with fail
              go_meet
              case rel => exact ⟨L, HAJ, HLJ, MJ⟩
      case rest =>
        obtain ⟨L3, HA3, HL3, M11⟩ := hcut
        obtain ⟨w11, hren⟩ : ∃ x, x = wc := ⟨_, rfl⟩
        subst hren
        clear M10 HA HL40
        go_wp2_with fail
        go_loopw [22] (fun i wr => ∃ (j : Nat) (L : List Lt), j ≤ 40 ∧ i = .int .i64 j ∧ Hid (AllOf L (sentK l 20)) ∧ Hid (L.length + j ≤ 40) ∧ Hid (Mk w.heap.size w wr b L q1 (.slice ps sl caps) (sentK l 20))) (fun i _ => 40 - (intOf i).toNat)
        case atStart => exact ⟨0, _, by omega, rfl, HA3, HL3, M11⟩
        case round =>
          obtain ⟨j, L, hj, rfl, HAJ, HLJ, MJ⟩ := hrel
          clear M11 HA3 HL3
          obtain ⟨S1, hS1, hC1⟩ := MJ.out.call
          have HS : Hid _ := hS1
          have HC : Hid _ := hC1
          clear hS1 hC1
          obtain ⟨n, HN⟩ : ∃ n, Hid (L.length = n) := ⟨_, rfl⟩
          have hnj : n + j ≤ 40 := by rw [← HN.out]; exact HLJ.out
          by_cases hj40 : j < 40
          · have hd1 : decide ((j : Int) < 40) = true := by simp; omega
            go_wp2_with fail
            refine (mlCount_c HS.out HN.out).mono ?_
            rintro e w12 ⟨rfl, rfl⟩
            by_cases hn0 : 0 < n
            · have hi0 : (0 : Int) < (n : Int) := by omega
              have hL0 : 0 < L.length := by rw [HN.out]; exact hn0
              obtain ⟨y, HY⟩ : ∃ y, Hid (L[0] = y) := ⟨L[0], show L[0] = L[0] from rfl⟩
              obtain ⟨x0, x1, ⟨x2, x3, x4, x5, x6⟩⟩ := y
              have HMem : Hid ((⟨x0, x1, ⟨x2, x3, x4, x5, x6⟩⟩ : Lt) ∈ sentK l 20) := HAJ.out _ (by rw [← HY.out]; exact List.getElem_mem hL0)
              go_wp2_with fail
              refine (mlGive_ok 0 hL0 HS.out x0 x1 x2 x3 x4 x5 x6 HY.out).mono ?_
              rintro e w12 ⟨rfl, ht⟩
              have M12 : Hid _ := HC.out _ _ _ ht
              have HA' : Hid (AllOf (L.eraseIdx 0) (sentK l 20)) := fun x hx => HAJ.out x (List.mem_of_mem_eraseIdx hx)
              have HL' : Hid ((L.eraseIdx 0).length + (j + 1) ≤ 40) := by
                show _ ≤ _
                have := HLJ.out
                rw [List.length_eraseIdx, if_pos hL0]
                omega
              clear ht HS HC MJ HAJ HLJ
              have M13 : Hid (Mk w.heap.size w (w12.alloc (.cells #[.int .i64 x0, .int .i64 x1, .int .i64 x2, .int .i64 x3, .int .i64 x4, .bool x5, .string x6] 42)) b (L.eraseIdx 0) q1 (.slice ps sl caps) (sentK l 20)) := M12.out.grown (by go_grown)
              have Y13 : Hid (BoxL (w12.alloc (.cells #[.int .i64 x0, .int .i64 x1, .int .i64 x2, .int .i64 x3, .int .i64 x4, .bool x5, .string x6] 42)) w12.heap.size x0 x1 x2 x3 x4 x5 x6) := boxL_new w12 _ _ _ _ _ _ _ _ rfl
              go_upto_block 8 with fail
              generalize (w12.alloc (.cells #[.int .i64 x0, .int .i64 x1, .int .i64 x2, .int .i64 x3, .int .i64 x4, .bool x5, .string x6] 42)) = w13 at M13 Y13 ⊢
              obtain ⟨Y, HYb⟩ : ∃ Y, Hid (w12.heap.size = Y) := ⟨_, rfl⟩
              rw [HYb.out] at Y13 ⊢
              clear HYb M12
              go_cut [25] (fun c25 wc => c25 = .bool true ∧ Hid (Mk w.heap.size w wc b (L.eraseIdx 0) q1 (.slice ps sl caps) (sentK l 20)))
              case first =>
                go_wp2_with fail
                go_loopw [25, 26] (fun c25 i wr => ∃ (k : Nat), k ≤ sl ∧ c25 = .bool (wasK (sentK l 20) ⟨x0, x1, ⟨x2, x3, x4, x5, x6⟩⟩ k) ∧ i = .int .i64 k ∧ Hid (Mk w.heap.size w wr b (L.eraseIdx 0) q1 (.slice ps sl caps) (sentK l 20)) ∧ Hid (BoxL wr Y x0 x1 x2 x3 x4 x5 x6)) (fun _ i _ => sl - (intOf i).toNat)
                case atStart => exact ⟨0, by omega, by rw [wasK_zero], rfl, M13, Y13⟩
                case round =>
                  obtain ⟨k, hk, rfl, rfl, MK, YK⟩ := hrel
                  clear M13 Y13
                  obtain ⟨was, HWas⟩ : ∃ c, Hid (wasK (sentK l 20) ⟨x0, x1, ⟨x2, x3, x4, x5, x6⟩⟩ k = c) := ⟨_, rfl⟩
                  rw [HWas.out]
                  by_cases hks : k < sl
                  · have hkl : k < (sentK l 20).length := by rw [HSl.out]; exact hks
                    have hki : (k : Int) < (sl : Int) := by omega
                    have hsl63 : sl ≤ 9223372036854775807 := by omega
                    obtain ⟨_, p2, cap2, e2, hr2⟩ := MK.out.row.lts
                    obtain ⟨bR, oR, rfl, hbR, hat⟩ := hr2 (fun h => by simp [h] at hkl)
                    have e3 : ps = some ⟨bR, oR, none⟩ := by injection e2
                    subst e3
                    have HAt : Hid _ := hat k hkl
                    clear hat e2 hr2
                    obtain ⟨z, HZ⟩ : ∃ z, Hid ((sentK l 20)[k] = z) := ⟨(sentK l 20)[k], show (sentK l 20)[k] = (sentK l 20)[k] from rfl⟩
                    rw [HZ.out] at HAt
                    obtain ⟨z0, z1, ⟨z2, z3, z4, z5, z6⟩⟩ := z
                    obtain ⟨sb, HSb⟩ : ∃ c, Hid (Lt.same ⟨z0, z1, ⟨z2, z3, z4, z5, z6⟩⟩ ⟨x0, x1, ⟨x2, x3, x4, x5, x6⟩⟩ = c) := ⟨_, rfl⟩
                    have HNext : Hid (wasK (sentK l 20) ⟨x0, x1, ⟨x2, x3, x4, x5, x6⟩⟩ (k + 1) = (was || sb)) := by
                      show _ = _
                      rw [wasK_step hkl, HWas.out, HZ.out, HSb.out]
                    have heq := eql_lt ⟨z0, z1, ⟨z2, z3, z4, z5, z6⟩⟩ ⟨x0, x1, ⟨x2, x3, x4, x5, x6⟩⟩ sb HSb.out
                    dsimp only at heq
                    have hgd := eqGuard_lt
                    obtain ⟨c0, c1, c2, c3, c4, c5, c6⟩ := HAt.out
                    obtain ⟨d0, d1, d2, d3, d4, d5, d6, df⟩ := YK.out
                    dsimp only at c0 c1 c2 c3 c4 c5 c6
                    cases was
                    · go_upto_region 39 with fail
                      go_quiet (fail)
                      go_wp2_with fail
                      go_roundw
                      case rel => exact ⟨k + 1, by omega, by rw [HNext.out]; rfl, by go_num, MK.out.grown ⟨rfl, rfl, rfl, Nat.le_refl _, fun _ _ => rfl⟩, YK.out.of_block rfl⟩
                      case measure => simp [intOf]; omega
                    · go_upto_region 39 with fail
                      go_quiet (fail)
                      go_wp2_with fail
                      go_roundw
                      case rel => exact ⟨k + 1, by omega, by rw [HNext.out]; rfl, by go_num, MK.out.grown ⟨rfl, rfl, rfl, Nat.le_refl _, fun _ _ => rfl⟩, YK.out.of_block rfl⟩
                      case measure => simp [intOf]; omega
                  · have hki : ¬ (k : Int) < (sl : Int) := by omega
                    have HT : Hid (was = true) := by show was = true; rw [← HWas.out]; exact wasK_all HMem.out (by rw [HSl.out]; omega)
                    rw [HT.out]
                    go_wp2_with fail
                    go_meet
                    case rel => exact ⟨rfl, MK⟩
              case rest =>
                obtain ⟨rfl, M14⟩ := hcut
                obtain ⟨w14, hren⟩ : ∃ x, x = wc := ⟨_, rfl⟩
                subst hren
                clear M13 Y13
                go_wp2_with fail
                go_roundw
                case rel => exact ⟨j + 1, _, by omega, by go_num, HA', HL', M14⟩
                case measure => simp [intOf]; omega
            · have hi0 : ¬ (0 : Int) < (n : Int) := by omega
              have hn00 : ((n : Int) == 0) = true := by simp; omega
              go_wp2_with fail
              refine (mlCount_c HS.out HN.out).mono ?_
              rintro e w12 ⟨rfl, rfl⟩
              go_wp2_with fail
              go_ret
              refine ⟨?_, MJ.out.bel⟩
              simp
          · have hd1 : decide ((j : Int) < 40) = false := by simp; omega
            have hn00 : ((n : Int) == 0) = true := by simp; omega
            go_wp2_with fail
            refine (mlCount_c HS.out HN.out).mono ?_
            rintro e w12 ⟨rfl, rfl⟩
            go_wp2_with fail
            go_ret
            refine ⟨?_, MJ.out.bel⟩
            simp
end Go.Proofs.Ytklaacnmgojddag
