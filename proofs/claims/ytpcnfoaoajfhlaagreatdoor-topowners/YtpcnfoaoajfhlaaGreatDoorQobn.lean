/-
  Package ring by its contracts: areRight.
-/
import Derived.Test.YtpcnfoaoajfhlaaGreatDoorQoaw
import Derived.Test.YtpcnfoaoajfhlaaGreatDoorQobd
import Derived.Shelf.SlSortCmp.QuietGrown
namespace Go.Proofs.YtpcnfoaoajfhlaaGreatDoor
set_option linter.unusedVariables false
set_option linter.unusedSimpArgs false
set_option linter.unusedVariables false
set_option linter.unusedSimpArgs false
open Go.RowKit Go.Sort

theorem below_growD (B : Nat) (w : World) (n : Nat) (os : Array Obj) (hB : B ≤ w.heap.size) : Below B w (grow (w.drewN n) os) := by
  refine ⟨rfl, rfl, rfl, ?_, fun c hc => ?_⟩
  · show w.heap.size ≤ (w.heap ++ os).size
    simp
  · show (w.heap ++ os)[c]? = w.heap[c]?
    rw [Array.getElem?_append_left (Nat.lt_of_lt_of_le hc hB)]
theorem inP_in (p n : Int) : inP ⟨p, n⟩ = (inR p 0 255 && inR n 0 5) := rfl
theorem rightP_len {l : List Pt} (h : inR (l.length : Int) 1 48 = false) : rightP l = false := by
  unfold rightP
  simp [inR] at h
  by_cases h1 : 1 ≤ l.length
  · have : ¬ l.length ≤ 48 := by have := h (by omega); omega
    simp [this]
  · simp [h1]
theorem rightP_else {l : List Pt} (h : inR (l.length : Int) 1 48 = true) : rightP l = rightFrom (aheadP l 0) (l.drop 0) := by
  unfold rightP
  simp [inR] at h
  have h1 : 1 ≤ l.length := by omega
  have h2 : l.length ≤ 48 := by omega
  rw [decide_eq_true h1, decide_eq_true h2]
  rfl
theorem ahead_zero (l : List Pt) : aheadP l 0 = none := rfl
theorem ahead_succ {l : List Pt} {j : Nat} (h : j < l.length) : aheadP l (j + 1) = some l[j] := by simp [aheadP, h]
set_option maxHeartbeats 8000000 in
theorem areRight_c (v : Value) (l : List Pt) (w : World) (hr : PtsIs w v l) :
    Calls Tryz.prog 109 #[v] w fun e w' => e = .returned (.bool (rightP l)) ∧ Below w.heap.size w w' := by
  obtain ⟨hlen, pp, cap, rfl, hrow⟩ := hr
  have HRow : Hid (l ≠ [] → ∃ b o, pp = some ⟨b, o, none⟩ ∧ b < w.heap.size ∧ ∀ j (h : j < l.length), PtAt w b (o + j * 2) l[j]) := hrow
  clear hrow
  cases hin : inR (l.length : Int) 1 48
  · rw [rightP_len hin]
    have HIn : Hid (inR (l.length : Int) 1 48 = false) := hin
    clear hin HRow
    generalize l.length = n at *
    go_enter Tryz.func109, Tryz.ntmps109
    go_wp2_with (go_at_call 58; refine (withinR_b _ _ _ false _ HIn.out).mono ?_; rintro e w' ⟨rfl, rfl⟩)
    go_ret
    exact ⟨rfl, Below.refl _ _⟩
  · rw [rightP_else hin]
    have HIn : Hid (inR (l.length : Int) 1 48 = true) := hin
    clear hin
    obtain ⟨n, HN⟩ : ∃ n, Hid (l.length = n) := ⟨_, rfl⟩
    rw [HN.out] at hlen HIn ⊢
    have hn63 : n ≤ 9223372036854775807 := hlen
    obtain ⟨R, HR⟩ : ∃ R, Hid (rightFrom (aheadP l 0) (l.drop 0) = R) := ⟨_, rfl⟩
    rw [HR.out]
    go_enter Tryz.func109, Tryz.ntmps109
    go_wp2_with (go_at_call 58; refine (withinR_b _ _ _ true _ HIn.out).mono ?_; rintro e w' ⟨rfl, hw⟩; have hw' := hw.symm; clear hw; subst hw')
    go_loopw [11] (fun i wr => ∃ j : Nat, j ≤ n ∧ i = .int .i64 j ∧ Hid (R = rightFrom (aheadP l j) (l.drop j)) ∧ Hid (Below w.heap.size w wr)) (fun i _ => n - (intOf i).toNat)
    case atStart => exact ⟨0, Nat.zero_le _, rfl, HR.out.symm, Below.refl _ _⟩
    case round =>
      obtain ⟨j, hj, rfl, HJ, HB⟩ := hrel
      by_cases hlt : j < n
      · have hlti : (j : Int) < (n : Int) := by omega
        have hjl : j < l.length := by rw [HN.out]; exact hlt
        obtain ⟨b, o, rfl, hbw, hat⟩ := HRow.out (fun h => by simp [h] at hjl)
        have HAt : Hid (PtAt wr b (o + j * 2) l[j]) := (hat j hjl).of_block (HB.out.block b hbw)
        have HStep : Hid (R = (inP l[j] && behindB (aheadP l j) l[j] && rightFrom (aheadP l (j + 1)) (l.drop (j + 1)))) := HJ.out.trans (right_step hjl)
        have HPrev : Hid (∀ i, j = i + 1 → ∃ y, aheadP l j = some y ∧ PtAt wr b (o + i * 2) y) := fun i hi => by
          subst hi
          exact ⟨_, ahead_succ (by omega), (hat i (by omega)).of_block (HB.out.block b hbw)⟩
        have HZ : Hid (j = 0 → aheadP l j = none) := fun h => by rw [h]; rfl
        clear hat
        obtain ⟨x, HX⟩ : ∃ x, Hid (l[j] = x) := ⟨l[j], show l[j] = l[j] from rfl⟩
        rw [HX.out] at HAt HStep
        obtain ⟨x0, x1⟩ := x
        obtain ⟨c0, c1⟩ := HAt.out
        dsimp only at c0 c1
        rw [inP_in] at HStep
        obtain ⟨R', HR1⟩ : ∃ R', Hid (R' = rightFrom (aheadP l (j + 1)) (l.drop (j + 1))) := ⟨_, rfl⟩
        rw [← HR1.out] at HStep
        cases h0 : inR x0 0 255
        · have HI0 : Hid (inR x0 0 255 = false) := h0
          have HRf : Hid (R = false) := by show R = false; rw [HStep.out, h0]; rfl
          clear h0
          go_wp2_with (go_at_call 58; refine (withinR_b _ _ _ false _ HI0.out).mono ?_; rintro e w' ⟨rfl, rfl⟩)
          go_ret
          exact ⟨by rw [HRf.out]; rfl, HB.out.alloc HB.out.size _⟩
        · have HI0 : Hid (inR x0 0 255 = true) := h0
          cases h1 : inR x1 0 5
          · have HI1 : Hid (inR x1 0 5 = false) := h1
            have HRf : Hid (R = false) := by show R = false; rw [HStep.out, h0, h1]; rfl
            clear h0 h1
            go_wp2_with (first
              | (go_at_call 58; refine (withinR_b _ _ _ true _ HI0.out).mono ?_; rintro e w' ⟨rfl, rfl⟩)
              | (go_at_call 103; refine (isNodeR_b _ false _ HI1.out).mono ?_; rintro e w' ⟨rfl, rfl⟩))
            go_ret
            exact ⟨by rw [HRf.out]; rfl, HB.out.alloc HB.out.size _⟩
          · have HI1 : Hid (inR x1 0 5 = true) := h1
            have HRs : Hid (R = (behindB (aheadP l j) ⟨x0, x1⟩ && R')) := by show R = _; rw [HStep.out, h0, h1]; rfl
            clear h0 h1 HStep
            go_upto_region 8 with (first
              | (go_at_call 58; refine (withinR_b _ _ _ true _ HI0.out).mono ?_; rintro e w' ⟨rfl, hw⟩; have hw' := hw.symm; clear hw; subst hw')
              | (go_at_call 103; refine (isNodeR_b _ true _ HI1.out).mono ?_; rintro e w' ⟨rfl, hw⟩; have hw' := hw.symm; clear hw; subst hw'))
            obtain ⟨w1, HW⟩ : ∃ w1, w1 = wr.alloc (.cells #[.int .i64 x0, .int .i64 x1] 110) := ⟨_, rfl⟩
            rw [← HW]
            have HB1 : Hid (Below w.heap.size w w1) := by rw [HW]; exact HB.out.alloc HB.out.size _
            have HW1 : Hid (Below wr.heap.size wr w1) := by rw [HW]; exact (Below.refl _ _).alloc (Nat.le_refl _) _
            have HBox : Hid (BoxP w1 wr.heap.size x0 x1) := by rw [HW]; exact boxP_new wr x0 x1 _ rfl
            clear HW c0 c1
            by_cases hz : j = 0
            · have HRs' : Hid (R = R') := by show R = R'; rw [HRs.out, HZ.out hz]; rfl
              have hg : decide ((0 : Int) < (j : Int)) = false := by simp [hz]
              have hg' : ¬ ((0 : Int) < (j : Int)) := by omega
              go_quiet (fail)
              go_wp2_with fail
              go_roundw
              case rel => exact ⟨j + 1, by omega, by go_num, HRs'.out.trans HR1.out, HB1.out.trans (below_drewN _ _ _)⟩
              case measure => simp [intOf]; omega
            · obtain ⟨i, hi⟩ : ∃ i, j = i + 1 := ⟨j - 1, by omega⟩
              obtain ⟨y, HY, HYat⟩ := HPrev.out i hi
              have HY1 : Hid (PtAt w1 b (o + i * 2) y) := HYat.of_block (HW1.out.block b (World.block_lt_of_cell? wr _ HYat.c0))
              rw [HY] at HRs
              clear HPrev HZ HY HYat hz
              subst hi
              obtain ⟨y0, y1⟩ := y
              obtain ⟨c, HC⟩ : ∃ c, Hid (cfP ⟨y0, y1⟩ ⟨x0, x1⟩ = c) := ⟨_, rfl⟩
              have HCall : Hid (∀ n os, Calls Tryz.prog 61 #[.agg #[.int .i64 y0, .int .i64 y1], .agg #[.int .i64 x0, .int .i64 x1]] (grow (w1.drewN n) os) fun e w' => e = .returned (.int .i64 c) ∧ ∃ q os', w' = grow ((grow (w1.drewN n) os).drewN q) os') := fun n os => by
                rw [← HC.out]
                exact cmpP_c y0 y1 x0 x1 _
              have hbl : b < w1.heap.size := Nat.lt_of_lt_of_le hbw HB1.out.size
              have d0 := fun n os => cell_grown (a := ⟨b, o + i * 2, none⟩) hbl HY1.out.c0 n os
              have d1 := fun n os => cell_grown (a := ⟨b, o + i * 2 + 1, none⟩) hbl HY1.out.c1 n os
              have e0 := fun n os => cell_grown (a := ⟨wr.heap.size, 0, none⟩) HBox.out.lt HBox.out.c0 n os
              have e1 := fun n os => cell_grown (a := ⟨wr.heap.size, 1, none⟩) HBox.out.lt HBox.out.c1 n os
              dsimp only at d0 d1
              have mixed : Tryz.prog.follows .mixedOrders = true := by kernel_rfl
              have hg1 : decide ((0 : Int) < ((i + 1 : Nat) : Int)) = true := decide_eq_true (by omega)
              have hg2 : (0 : Int) < ((i + 1 : Nat) : Int) := by omega
              have hwp : IntKind.i64.wrap (i : Int) = (i : Int) := by rw [IntKind.wrap_i64]; omega
              have hin : (i : Int) < (n : Int) := by omega
              have hin' : (i : Int) + 1 < (n : Int) := by omega
              by_cases hc : c < 0
              · have HRs' : Hid (R = R') := by
                  show R = R'
                  rw [HRs.out]
                  have : ltP ⟨y0, y1⟩ ⟨x0, x1⟩ := (cfP_neg _ _).1 (by rw [HC.out]; exact hc)
                  simp [behindB, this]
                have hcb : decide (0 ≤ c) = false := decide_eq_false (by omega)
                go_quiet_grown (first | (go_at_call 61; refine Calls.grown_of (HCall.out _ _)))
                go_wp2_with fail
                go_roundw
                case rel => exact ⟨i + 1 + 1, by omega, by go_num, HRs'.out.trans HR1.out, HB1.out.trans (below_growD _ _ _ _ HB1.out.size)⟩
                case measure => simp [intOf]; omega
              · have HRf : Hid (R = false) := by
                  show R = false
                  rw [HRs.out]
                  have : ¬ ltP ⟨y0, y1⟩ ⟨x0, x1⟩ := fun h => hc (by rw [← HC.out]; exact (cfP_neg _ _).2 h)
                  simp [behindB, this]
                have hcb : decide (0 ≤ c) = true := decide_eq_true (by omega)
                go_quiet_grown (first | (go_at_call 61; refine Calls.grown_of (HCall.out _ _)))
                go_wp2_with fail
                go_ret
                exact ⟨by rw [HRf.out]; rfl, HB1.out.trans (below_growD _ _ _ _ HB1.out.size)⟩
      · obtain rfl : j = n := by omega
        have HR0 : Hid (R = true) := by
          show R = true
          rw [HJ.out, List.drop_eq_nil_of_le (by rw [HN.out]; exact Nat.le_refl _)]
          rfl
        go_wp2_with fail
        go_ret
        exact ⟨by rw [HR0.out]; rfl, HB.out⟩
end Go.Proofs.YtpcnfoaoajfhlaaGreatDoor
