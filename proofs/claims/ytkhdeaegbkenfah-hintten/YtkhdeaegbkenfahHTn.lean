/-
  merelaw4.HintTen answers true, whatever the numbers.
-/
import Derived.Test.YtkhdeaegbkenfahHiF
import Derived.Test.YtkhdeaegbkenfahHnT
import Derived.BigRegion
import Derived.Deep.DeepCutAuto
import Derived.Deep.CutBlock
import Derived.Deep.LoopGhost
import Derived.Deep.Draws
import Derived.BigQuiet
import Derived.WalkSmall
namespace Go.Proofs.Ytkhdeaegbkenfah
set_option linter.unusedVariables false
set_option linter.unusedSimpArgs false
open Go.RowKit

set_option maxRecDepth 100000 in
set_option maxHeartbeats 32000000 in
theorem ten_w (I : HiFace) (node many : Int) (w : World) :
    Calls Try.prog 6 #[.int .i64 node, .int .i64 many] w fun e w' => e = .returned (.bool true) ∧ Below w.heap.size w w' := by
  go_enter Try.func6, Try.ntmps6
  go_wp2_with fail
  refine (I.new _).mono ?_
  rintro e w1 ⟨b, rfl, hb0, hat, hbel⟩
  have HB : Hid (Hb (fun _ => False) w.heap.size w w1 b [] 0) := ⟨⟨_, hat, fun c hc => ⟨by rw [hc]; exact hb0, id⟩⟩, hbel, hbel.size, fun c hc => hc.elim⟩
  clear hb0 hat hbel
  obtain ⟨bad, HBad⟩ : ∃ c, Hid ((decide (node < 0) || (decide (4 < node) || (decide (many < 0) || decide (16 < many)))) = c) := ⟨_, rfl⟩
  go_upto_region 2 with fail
  go_cut [23] (fun c wc => wc = w1 ∧ c = .bool bad)
  case first =>
    cases h0 : decide (node < 0)
    · cases h1 : decide (4 < node)
      · cases h2 : decide (many < 0)
        · have HC : Hid (bad = decide (16 < many)) := HBad.out.symm.trans (by rw [h0, h1, h2]; rfl)
          go_wp2_with fail
          go_meet
          case rel => exact ⟨rfl, by rw [HC.out]⟩
        · have HC : Hid (bad = true) := HBad.out.symm.trans (by rw [h0, h1, h2]; rfl)
          go_wp2_with fail
          go_meet
          case rel => exact ⟨rfl, by rw [HC.out]⟩
      · have HC : Hid (bad = true) := HBad.out.symm.trans (by rw [h0, h1]; rfl)
        go_wp2_with fail
        go_meet
        case rel => exact ⟨rfl, by rw [HC.out]⟩
    · have HC : Hid (bad = true) := HBad.out.symm.trans (by rw [h0]; rfl)
      go_wp2_with fail
      go_meet
      case rel => exact ⟨rfl, by rw [HC.out]⟩
  case rest =>
  obtain ⟨hwc, rfl⟩ := hcut
  have hwc' := hwc.symm
  subst hwc'
  cases bad
  · have hr : (0 ≤ node ∧ node ≤ 4) ∧ (0 ≤ many ∧ many ≤ 16) := by
      have := HBad.out
      simp at this
      omega
    obtain ⟨k, rfl⟩ : ∃ k : Nat, node = k := ⟨node.toNat, by omega⟩
    obtain ⟨m, rfl⟩ : ∃ m : Nat, many = m := ⟨many.toNat, by omega⟩
    have hk : k ≤ 4 := by omega
    have hm : m ≤ 16 := by omega
    clear hr HBad
    go_wp2_with fail
    go_loopw [6] (fun c6 wr => ∃ i : Nat, i ≤ m ∧ c6 = .int .i64 i ∧ Hid (Hb (fun _ => False) w.heap.size w wr b (tenS k i) (i - 10)) ∧ Hid (GoodH (tenS k i))) (fun c6 _ => m - (intOf c6).toNat)
    case atStart => exact ⟨0, Nat.zero_le _, rfl, HB, GoodH.nil⟩
    case round =>
      obtain ⟨i, hi, rfl, HB2, HGd⟩ := hrel
      by_cases him : i < m
      · have himi : (i : Int) < (m : Int) := by omega
        obtain ⟨e1, e2⟩ := tenS_add (node := k) (i := i) hk (by omega)
        have HA : Hid (addH (tenF k i) (tenS k i) = tenS k (i + 1)) := e1
        have HN : Hid ((i - 10) + addN (tenF k i) (tenS k i) = i + 1 - 10) := by
          show _ = _
          rw [e2]
          omega
        have HE : Hid (addE (tenF k i) = 0) := by show _ = _; rw [addE, if_pos (tenF_ok hk (by omega))]
        have HG2 : Hid (GoodH (tenS k (i + 1))) := by rw [← e1]; exact HGd.out.add _
        clear e1 e2
        have hF : tenF k i = ⟨(k : Int) + (i : Int) / 8, (i : Int) % 8, 1⟩ := hn_ext (by show ((k + i / 8 : Nat) : Int) = (k : Int) + (i : Int) / 8; omega) (by show ((i % 8 : Nat) : Int) = (i : Int) % 8; omega) rfl
        rw [hF] at HA HN HE
        clear hF
        have hi2 : i < 16 := by omega
        obtain ⟨S, h1, h2⟩ := HB2.out.call
        have HS : Hid _ := h1
        have HC : Hid _ := h2
        clear h1 h2
        go_wp2_with fail
        refine (I.add HS.out HGd.out (by omega) HE.out HA.out HN.out).mono ?_
        rintro e w2 ⟨rfl, ht⟩
        have HB3 : Hid _ := (HC.out _ _ _ ht).1
        clear ht HC HS
        rw [eV_zero]
        go_wp2_with fail
        go_roundw
        case rel => exact ⟨i + 1, by omega, by go_num, HB3, HG2⟩
        case measure => simp [intOf]; omega
      · obtain rfl : i = m := by omega
        obtain ⟨nS, HnS⟩ : ∃ n, Hid ((tenS k i).length = n) := ⟨_, rfl⟩
        have HnS2 : Hid (nS = i - (i - 10)) := HnS.out.symm.trans (tenS_length k i)
        obtain ⟨S, h1, _⟩ := HB2.out.call
        have HS : Hid _ := h1
        clear h1
        go_wp2_with fail
        refine (I.all HS.out HGd.out).mono ?_
        rintro e w2 ⟨u, rfl, hu, _, hb⟩
        obtain ⟨p, cap, rfl, _⟩ := hu.slice
        rw [HnS.out] at hu ⊢
        have HU : Hid (HnsIs w2 (.slice p nS cap) (tenS k i)) := hu
        have HB3 : Hid _ := HB2.out.grown hb
        clear hu hb HB2 HS
        obtain ⟨lo, HLo⟩ : ∃ lo : Int, Hid (lo = ((i - 10 : Nat) : Int)) := ⟨_, rfl⟩
        have hlo0 : 0 ≤ lo := by have := HLo.out; omega
        have hlo6 : lo ≤ 6 := by have := HLo.out; omega
        go_upto_if 58 with fail
        go_cut [8] (fun c wc => wc = w2 ∧ c = .int .i64 lo)
        case first =>
          by_cases h10 : i < 10
          · have h10i : (i : Int) - 10 < 0 := by omega
            have HL : Hid (lo = 0) := by have := HLo.out; show _ = _; omega
            go_wp2_with fail
            go_meet
            case rel => exact ⟨rfl, by rw [HL.out]⟩
          · have h10i : ¬ (i : Int) - 10 < 0 := by omega
            have HL : Hid ((i : Int) - 10 = lo) := by have := HLo.out; show _ = _; omega
            go_wp2_with fail
            go_meet
            case rel => exact ⟨rfl, by rw [← HL.out]⟩
        case rest =>
        obtain ⟨hwc, rfl⟩ := hcut
        have hwc' := hwc.symm
        subst hwc'
        obtain ⟨S, h1, _⟩ := HB3.out.call
        have HS : Hid _ := h1
        clear h1
        go_wp2_with fail
        refine (I.lost HS.out).mono ?_
        rintro e w3 ⟨rfl, hb⟩
        have HB4 : Hid _ := HB3.out.grown hb
        have HU4 : Hid (HnsIs w3 (.slice p nS cap) (tenS k i)) := HU.out.below hb
        clear hb HB3 HU HS
        rw [← HLo.out]
        have hsub : (i : Int) - lo = (nS : Int) := by have := HnS2.out; have := HLo.out; omega
        have hnS : nS ≤ 16 := by have := HnS2.out; omega
        have hpos : i ≠ 0 → 0 < nS := fun h => by have := HnS2.out; omega
        by_cases h0 : i = 0
        · subst h0
          go_wp2_with fail
          go_ret
          exact ⟨rfl, HB4.out.bel⟩
        · have h0i : ((i : Int) == 0) = false := by simp; omega
          obtain ⟨hl, hkey⟩ := tenS_last (node := k) (i := i) (by omega)
          obtain ⟨g, o, rfl, hlt, hat⟩ := HU4.out.at _ hl
          obtain ⟨_, x1, _⟩ := hat
          rw [hkey, HnS.out] at x1
          have hpos := hpos h0
          have htn : ((nS : Int) - 1).toNat = nS - 1 := by omega
          have hb1 : (0 : Int) ≤ (nS : Int) - 1 := by omega
          have hb2 : (nS : Int) - 1 < (nS : Int) := by omega
          have hr9 : ((i : Int) - 1) % 8 = (((i - 1) % 8 : Nat) : Int) := by omega
          have hi1 : (0 : Int) ≤ (i : Int) - 1 := by omega
          clear hkey
          go_wp2_with fail
          go_ret
          exact ⟨rfl, HB4.out.bel⟩
  · obtain ⟨S, h1, _⟩ := HB.out.call
    have HS : Hid _ := h1
    clear h1
    go_wp2_with fail
    refine (I.all HS.out GoodH.nil).mono ?_
    rintro e w2 ⟨u, rfl, hu, _, hb⟩
    obtain ⟨p, cap, rfl, _⟩ := hu.slice
    have HB3 : Hid _ := HB.out.grown hb
    clear hu hb HB HS
    obtain ⟨S, h1, _⟩ := HB3.out.call
    have HS : Hid _ := h1
    clear h1
    go_wp2_with fail
    refine (I.lost HS.out).mono ?_
    rintro e w3 ⟨rfl, hb⟩
    have HB4 : Hid _ := HB3.out.grown hb
    clear hb
    go_wp2_with fail
    go_ret
    exact ⟨rfl, HB4.out.bel⟩
end Go.Proofs.Ytkhdeaegbkenfah
