/-
  The document's Ring and Owners, by their contracts.
-/
import Derived.Test.YtlpfdmmilbdcbaeDoorRgV
import Derived.Test.YtlpfdmmilbdcbaeDoorRgE
namespace Go.Proofs.YtlpfdmmilbdcbaeDoor
set_option linter.unusedVariables false
set_option linter.unusedSimpArgs false
open Go.RowKit

set_option maxRecDepth 100000 in
set_option maxHeartbeats 16000000 in
theorem rRing_c (v : Value) (l : List Pt) (w : World) (hr : PtsIs w v l) :
    Calls Tryd.prog 17 #[v] w fun e w' => e = .returned (.bool (rightP l)) ∧ Below w.heap.size w w' := by
  obtain ⟨hlen, pp, cap, rfl, hrow⟩ := hr
  have HRow : Hid (l ≠ [] → ∃ b o, pp = some ⟨b, o, none⟩ ∧ b < w.heap.size ∧ ∀ j (h : j < l.length), PtAt w b (o + j * 2) l[j]) := hrow
  clear hrow
  by_cases hl1 : l.length < 1
  · rw [rightP_len (by simp [inR]; omega)]
    have hi : (l.length : Int) < 1 := by omega
    clear HRow
    generalize l.length = n at *
    go_enter Tryd.func17, Tryd.ntmps17
    go_wp2_with fail
    go_ret
    exact ⟨rfl, Below.refl _ _⟩
  by_cases hl48 : 48 < l.length
  · rw [rightP_len (by simp [inR]; omega)]
    have hi : ¬ (l.length : Int) < 1 := by omega
    have hi' : (48 : Int) < (l.length : Int) := by omega
    clear HRow
    generalize l.length = n at *
    go_enter Tryd.func17, Tryd.ntmps17
    go_wp2_with fail
    go_ret
    exact ⟨rfl, Below.refl _ _⟩
  rw [rightP_else (by simp [inR]; omega)]
  have hi : ¬ (l.length : Int) < 1 := by omega
  have hi' : ¬ (48 : Int) < (l.length : Int) := by omega
  obtain ⟨n, HN⟩ : ∃ n, Hid (l.length = n) := ⟨_, rfl⟩
  rw [HN.out] at hlen hi hi' hl1 hl48 ⊢
  have hn63 : n ≤ 9223372036854775807 := hlen
  obtain ⟨R, HR⟩ : ∃ R, Hid (rightFrom (aheadP l 0) (l.drop 0) = R) := ⟨_, rfl⟩
  rw [HR.out]
  go_enter Tryd.func17, Tryd.ntmps17
  go_wp2_with fail
  go_loopw [3] (fun i wr => ∃ j : Nat, j ≤ n ∧ i = .int .i64 j ∧ Hid (R = rightFrom (aheadP l j) (l.drop j)) ∧ Hid (Below w.heap.size w wr)) (fun i _ => n - (intOf i).toNat)
  case atStart => exact ⟨0, Nat.zero_le _, rfl, HR.out.symm, Below.refl _ _⟩
  case round =>
    obtain ⟨j, hj, rfl, HJ, HB⟩ := hrel
    by_cases hlt : j < n
    · have hlti : (j : Int) < (n : Int) := by omega
      have hjl : j < l.length := by rw [HN.out]; exact hlt
      obtain ⟨b, o, rfl, hbw, hat⟩ := HRow.out (fun h => by simp [h] at hjl)
      have HAt : Hid (PtAt wr b (o + j * 2) l[j]) := (hat j hjl).of_block (HB.out.block b hbw)
      have HStep : Hid (R = (inP l[j] && behindB (aheadP l j) l[j] && rightFrom (aheadP l (j + 1)) (l.drop (j + 1)))) := HJ.out.trans (right_step hjl)
      have HPrev : Hid (∀ i, j = i + 1 → ∃ y, aheadP l j = some y ∧ PtAt wr b (o + i * 2) y) := fun i hi => by
        subst hi
        exact ⟨_, ahead_succ (by omega), (hat i (by omega)).of_block (HB.out.block b hbw)⟩
      have HZ : Hid (j = 0 → aheadP l j = none) := fun h => by rw [h]; rfl
      clear hat
      obtain ⟨x, HX⟩ : ∃ x, Hid (l[j] = x) := ⟨l[j], show l[j] = l[j] from rfl⟩
      rw [HX.out] at HAt HStep
      obtain ⟨x0, x1⟩ := x
      obtain ⟨c0, c1⟩ := HAt.out
      dsimp only at c0 c1
      obtain ⟨R', HR1⟩ : ∃ R', Hid (R' = rightFrom (aheadP l (j + 1)) (l.drop (j + 1))) := ⟨_, rfl⟩
      rw [← HR1.out] at HStep
      have HOut : Hid ((x0 < 0 ∨ 255 < x0 ∨ x1 < 0 ∨ 5 < x1) → R = false) := fun h => by
        have : inP ⟨x0, x1⟩ = false := by simp [inP]; omega
        rw [HStep.out, this]
        rfl
      by_cases h0 : x0 < 0
      · have HRf : Hid (R = false) := HOut.out (by omega)
        go_wp2_with fail
        go_ret
        exact ⟨by rw [HRf.out]; rfl, HB.out⟩
      by_cases h1 : 255 < x0
      · have HRf : Hid (R = false) := HOut.out (by omega)
        go_wp2_with fail
        go_ret
        exact ⟨by rw [HRf.out]; rfl, HB.out⟩
      by_cases h2 : x1 < 0
      · have HRf : Hid (R = false) := HOut.out (by omega)
        go_wp2_with fail
        go_ret
        exact ⟨by rw [HRf.out]; rfl, HB.out⟩
      by_cases h3 : 5 < x1
      · have HRf : Hid (R = false) := HOut.out (by omega)
        go_wp2_with fail
        go_ret
        exact ⟨by rw [HRf.out]; rfl, HB.out⟩
      have HRs : Hid (R = (behindB (aheadP l j) ⟨x0, x1⟩ && R')) := by
        show R = _
        have : inP ⟨x0, x1⟩ = true := by simp [inP]; omega
        rw [HStep.out, this]
        rfl
      clear HOut HStep
      go_upto_region 8 with fail
      by_cases hz : j = 0
      · have HRs' : Hid (R = R') := by show R = R'; rw [HRs.out, HZ.out hz]; rfl
        have hg : decide ((0 : Int) < (j : Int)) = false := by simp [hz]
        have hg' : ¬ ((0 : Int) < (j : Int)) := by omega
        clear c0 c1
        go_quiet (fail)
        go_wp2_with fail
        go_roundw
        case rel => exact ⟨j + 1, by omega, by go_num, HRs'.out.trans HR1.out, HB.out.trans (below_drewN _ _ _)⟩
        case measure => simp [intOf]; omega
      · obtain ⟨i, hi0⟩ : ∃ i, j = i + 1 := ⟨j - 1, by omega⟩
        obtain ⟨y, HY, HYat⟩ := HPrev.out i hi0
        rw [HY] at HRs
        clear HPrev HZ HY hz
        subst hi0
        obtain ⟨y0, y1⟩ := y
        obtain ⟨d0, d1⟩ := HYat
        dsimp only at d0 d1
        have HLt : Hid (ltP ⟨y0, y1⟩ ⟨x0, x1⟩ → R = R') := fun h => by rw [HRs.out]; simp [behindB, h]
        have HNl : Hid (¬ ltP ⟨y0, y1⟩ ⟨x0, x1⟩ → R = false) := fun h => by rw [HRs.out]; simp [behindB, h]
        have hg1 : decide ((0 : Int) < ((i + 1 : Nat) : Int)) = true := decide_eq_true (by omega)
        have hg2 : (0 : Int) < ((i + 1 : Nat) : Int) := by omega
        have hwp : IntKind.i64.wrap (i : Int) = (i : Int) := by rw [IntKind.wrap_i64]; omega
        have hin : (i : Int) < (n : Int) := by omega
        have hin' : (i : Int) + 1 < (n : Int) := by omega
        by_cases k1 : x0 < y0
        · have HRf : Hid (R = false) := HNl.out (by unfold ltP; simp; omega)
          have k1b : decide (x0 < y0) = true := decide_eq_true k1
          clear HLt HNl
          go_quiet (fail)
          go_wp2_with fail
          go_ret
          exact ⟨by rw [HRf.out]; rfl, HB.out.trans (below_drewN _ _ _)⟩
        have k1b : decide (x0 < y0) = false := decide_eq_false k1
        by_cases k2 : x0 = y0
        · have k2b : (x0 == y0) = true := by simp [k2]
          by_cases k3 : x1 ≤ y1
          · have HRf : Hid (R = false) := HNl.out (by unfold ltP; simp; omega)
            have k3b : decide (x1 ≤ y1) = true := decide_eq_true k3
            clear HLt HNl k2
            go_quiet (fail)
            go_wp2_with fail
            go_ret
            exact ⟨by rw [HRf.out]; rfl, HB.out.trans (below_drewN _ _ _)⟩
          · have HRs' : Hid (R = R') := HLt.out (by unfold ltP; simp; omega)
            have k3b : decide (x1 ≤ y1) = false := decide_eq_false k3
            clear HLt HNl k2
            go_quiet (fail)
            clear k1 k1b k2b k3 k3b c0 c1 d0 d1 hwp hin hg1 hg2
            go_wp2_with fail
            go_roundw
            case rel => exact ⟨i + 1 + 1, by omega, by go_num, HRs'.out.trans HR1.out, HB.out.trans (below_drewN _ _ _)⟩
            case measure => simp [intOf]; omega
        · have HRs' : Hid (R = R') := HLt.out (by unfold ltP; simp; omega)
          have k2b : (x0 == y0) = false := by simpa using k2
          clear HLt HNl
          go_quiet (fail)
          clear k1 k1b k2b k2 c0 c1 d0 d1 hwp hin hg1 hg2
          go_wp2_with fail
          go_roundw
          case rel => exact ⟨i + 1 + 1, by omega, by go_num, HRs'.out.trans HR1.out, HB.out.trans (below_drewN _ _ _)⟩
          case measure => simp [intOf]; omega
    · obtain rfl : j = n := by omega
      have HR0 : Hid (R = true) := by
        show R = true
        rw [HJ.out, List.drop_eq_nil_of_le (by rw [HN.out]; exact Nat.le_refl _)]
        rfl
      go_wp2_with fail
      go_ret
      exact ⟨by rw [HR0.out]; rfl, HB.out⟩
end Go.Proofs.YtlpfdmmilbdcbaeDoor
