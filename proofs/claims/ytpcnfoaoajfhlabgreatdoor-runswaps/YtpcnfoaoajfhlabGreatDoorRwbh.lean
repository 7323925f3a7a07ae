/-
  Package ring by its contracts: areRight.
  Package ring by its contracts: find, Owner.
-/
import Derived.Test.YtpcnfoaoajfhlabGreatDoorRwbe
import Derived.Test.YtpcnfoaoajfhlabGreatDoorRwbf
import Derived.Shelf.SlSortCmp.QuietGrown
import Derived.Shelf.Abstract
namespace Go.Proofs.YtpcnfoaoajfhlabGreatDoor
set_option linter.unusedVariables false
set_option linter.unusedSimpArgs false
set_option linter.unusedVariables false
set_option linter.unusedSimpArgs false
open Go.RowKit Go.Sort

theorem below_growD (B : Nat) (w : World) (n : Nat) (os : Array Obj) (hB : B ≤ w.heap.size) : Below B w (grow (w.drewN n) os) := by
  refine ⟨rfl, rfl, rfl, ?_, fun c hc => ?_⟩
  · show w.heap.size ≤ (w.heap ++ os).size
    simp
  · show (w.heap ++ os)[c]? = w.heap[c]?
    rw [Array.getElem?_append_left (Nat.lt_of_lt_of_le hc hB)]
theorem inP_in (p n : Int) : inP ⟨p, n⟩ = (inR p 0 255 && inR n 0 5) := rfl
theorem rightP_len {l : List Pt} (h : inR (l.length : Int) 1 48 = false) : rightP l = false := by
  unfold rightP
  simp [inR] at h
  by_cases h1 : 1 ≤ l.length
  · have : ¬ l.length ≤ 48 := by have := h (by omega); omega
    simp [this]
  · simp [h1]
theorem rightP_else {l : List Pt} (h : inR (l.length : Int) 1 48 = true) : rightP l = rightFrom (aheadP l 0) (l.drop 0) := by
  unfold rightP
  simp [inR] at h
  have h1 : 1 ≤ l.length := by omega
  have h2 : l.length ≤ 48 := by omega
  rw [decide_eq_true h1, decide_eq_true h2]
  rfl
theorem ahead_zero (l : List Pt) : aheadP l 0 = none := rfl
theorem ahead_succ {l : List Pt} {j : Nat} (h : j < l.length) : aheadP l (j + 1) = some l[j] := by simp [aheadP, h]
set_option maxHeartbeats 8000000 in
theorem areRight_c (v : Value) (l : List Pt) (w : World) (hr : PtsIs w v l) :
    Calls Tryz.prog 97 #[v] w fun e w' => e = .returned (.bool (rightP l)) ∧ Below w.heap.size w w' := by
  obtain ⟨hlen, pp, cap, rfl, hrow⟩ := hr
  have HRow : Hid (l ≠ [] → ∃ b o, pp = some ⟨b, o, none⟩ ∧ b < w.heap.size ∧ ∀ j (h : j < l.length), PtAt w b (o + j * 2) l[j]) := hrow
  clear hrow
  cases hin : inR (l.length : Int) 1 48
  · rw [rightP_len hin]
    have HIn : Hid (inR (l.length : Int) 1 48 = false) := hin
    clear hin HRow
    generalize l.length = n at *
    go_enter Tryz.func97, Tryz.ntmps97
    go_wp2_with (go_at_call 68; refine (withinR_b _ _ _ false _ HIn.out).mono ?_; rintro e w' ⟨rfl, rfl⟩)
    go_ret
    exact ⟨rfl, Below.refl _ _⟩
  · rw [rightP_else hin]
    have HIn : Hid (inR (l.length : Int) 1 48 = true) := hin
    clear hin
    obtain ⟨n, HN⟩ : ∃ n, Hid (l.length = n) := ⟨_, rfl⟩
    rw [HN.out] at hlen HIn ⊢
    have hn63 : n ≤ 9223372036854775807 := hlen
    obtain ⟨R, HR⟩ : ∃ R, Hid (rightFrom (aheadP l 0) (l.drop 0) = R) := ⟨_, rfl⟩
    rw [HR.out]
    go_enter Tryz.func97, Tryz.ntmps97
    go_wp2_with (go_at_call 68; refine (withinR_b _ _ _ true _ HIn.out).mono ?_; rintro e w' ⟨rfl, hw⟩; have hw' := hw.symm; clear hw; subst hw')
    go_loopw [11] (fun i wr => ∃ j : Nat, j ≤ n ∧ i = .int .i64 j ∧ Hid (R = rightFrom (aheadP l j) (l.drop j)) ∧ Hid (Below w.heap.size w wr)) (fun i _ => n - (intOf i).toNat)
    case atStart => exact ⟨0, Nat.zero_le _, rfl, HR.out.symm, Below.refl _ _⟩
    case round =>
      obtain ⟨j, hj, rfl, HJ, HB⟩ := hrel
      by_cases hlt : j < n
      · have hlti : (j : Int) < (n : Int) := by omega
        have hjl : j < l.length := by rw [HN.out]; exact hlt
        obtain ⟨b, o, rfl, hbw, hat⟩ := HRow.out (fun h => by simp [h] at hjl)
        have HAt : Hid (PtAt wr b (o + j * 2) l[j]) := (hat j hjl).of_block (HB.out.block b hbw)
        have HStep : Hid (R = (inP l[j] && behindB (aheadP l j) l[j] && rightFrom (aheadP l (j + 1)) (l.drop (j + 1)))) := HJ.out.trans (right_step hjl)
        have HPrev : Hid (∀ i, j = i + 1 → ∃ y, aheadP l j = some y ∧ PtAt wr b (o + i * 2) y) := fun i hi => by
          subst hi
          exact ⟨_, ahead_succ (by omega), (hat i (by omega)).of_block (HB.out.block b hbw)⟩
        have HZ : Hid (j = 0 → aheadP l j = none) := fun h => by rw [h]; rfl
        clear hat
        obtain ⟨x, HX⟩ : ∃ x, Hid (l[j] = x) := ⟨l[j], show l[j] = l[j] from rfl⟩
        rw [HX.out] at HAt HStep
        obtain ⟨x0, x1⟩ := x
        obtain ⟨c0, c1⟩ := HAt.out
        dsimp only at c0 c1
        rw [inP_in] at HStep
        obtain ⟨R', HR1⟩ : ∃ R', Hid (R' = rightFrom (aheadP l (j + 1)) (l.drop (j + 1))) := ⟨_, rfl⟩
        rw [← HR1.out] at HStep
        cases h0 : inR x0 0 255
        · have HI0 : Hid (inR x0 0 255 = false) := h0
          have HRf : Hid (R = false) := by show R = false; rw [HStep.out, h0]; rfl
          clear h0
          go_wp2_with (go_at_call 68; refine (withinR_b _ _ _ false _ HI0.out).mono ?_; rintro e w' ⟨rfl, rfl⟩)
          go_ret
          exact ⟨by rw [HRf.out]; rfl, HB.out.alloc HB.out.size _⟩
        · have HI0 : Hid (inR x0 0 255 = true) := h0
          cases h1 : inR x1 0 5
          · have HI1 : Hid (inR x1 0 5 = false) := h1
            have HRf : Hid (R = false) := by show R = false; rw [HStep.out, h0, h1]; rfl
            clear h0 h1
            go_wp2_with (first
              | (go_at_call 68; refine (withinR_b _ _ _ true _ HI0.out).mono ?_; rintro e w' ⟨rfl, rfl⟩)
              | (go_at_call 90; refine (isNodeR_b _ false _ HI1.out).mono ?_; rintro e w' ⟨rfl, rfl⟩))
            go_ret
            exact ⟨by rw [HRf.out]; rfl, HB.out.alloc HB.out.size _⟩
          · have HI1 : Hid (inR x1 0 5 = true) := h1
            have HRs : Hid (R = (behindB (aheadP l j) ⟨x0, x1⟩ && R')) := by show R = _; rw [HStep.out, h0, h1]; rfl
            clear h0 h1 HStep
            go_upto_region 8 with (first
              | (go_at_call 68; refine (withinR_b _ _ _ true _ HI0.out).mono ?_; rintro e w' ⟨rfl, hw⟩; have hw' := hw.symm; clear hw; subst hw')
              | (go_at_call 90; refine (isNodeR_b _ true _ HI1.out).mono ?_; rintro e w' ⟨rfl, hw⟩; have hw' := hw.symm; clear hw; subst hw'))
            obtain ⟨w1, HW⟩ : ∃ w1, w1 = wr.alloc (.cells #[.int .i64 x0, .int .i64 x1] 140) := ⟨_, rfl⟩
            rw [← HW]
            have HB1 : Hid (Below w.heap.size w w1) := by rw [HW]; exact HB.out.alloc HB.out.size _
            have HW1 : Hid (Below wr.heap.size wr w1) := by rw [HW]; exact (Below.refl _ _).alloc (Nat.le_refl _) _
            have HBox : Hid (BoxP w1 wr.heap.size x0 x1) := by rw [HW]; exact boxP_new wr x0 x1 _ rfl
            clear HW c0 c1
            by_cases hz : j = 0
            · have HRs' : Hid (R = R') := by show R = R'; rw [HRs.out, HZ.out hz]; rfl
              have hg : decide ((0 : Int) < (j : Int)) = false := by simp [hz]
              have hg' : ¬ ((0 : Int) < (j : Int)) := by omega
              go_quiet (fail)
              go_wp2_with fail
              go_roundw
              case rel => exact ⟨j + 1, by omega, by go_num, HRs'.out.trans HR1.out, HB1.out.trans (below_drewN _ _ _)⟩
              case measure => simp [intOf]; omega
            · obtain ⟨i, hi⟩ : ∃ i, j = i + 1 := ⟨j - 1, by omega⟩
              obtain ⟨y, HY, HYat⟩ := HPrev.out i hi
              have HY1 : Hid (PtAt w1 b (o + i * 2) y) := HYat.of_block (HW1.out.block b (World.block_lt_of_cell? wr _ HYat.c0))
              rw [HY] at HRs
              clear HPrev HZ HY HYat hz
              subst hi
              obtain ⟨y0, y1⟩ := y
              obtain ⟨c, HC⟩ : ∃ c, Hid (cfP ⟨y0, y1⟩ ⟨x0, x1⟩ = c) := ⟨_, rfl⟩
              have HCall : Hid (∀ n os, Calls Tryz.prog 71 #[.agg #[.int .i64 y0, .int .i64 y1], .agg #[.int .i64 x0, .int .i64 x1]] (grow (w1.drewN n) os) fun e w' => e = .returned (.int .i64 c) ∧ ∃ q os', w' = grow ((grow (w1.drewN n) os).drewN q) os') := fun n os => by
                rw [← HC.out]
                exact cmpP_c y0 y1 x0 x1 _
              have hbl : b < w1.heap.size := Nat.lt_of_lt_of_le hbw HB1.out.size
              have d0 := fun n os => cell_grown (a := ⟨b, o + i * 2, none⟩) hbl HY1.out.c0 n os
              have d1 := fun n os => cell_grown (a := ⟨b, o + i * 2 + 1, none⟩) hbl HY1.out.c1 n os
              have e0 := fun n os => cell_grown (a := ⟨wr.heap.size, 0, none⟩) HBox.out.lt HBox.out.c0 n os
              have e1 := fun n os => cell_grown (a := ⟨wr.heap.size, 1, none⟩) HBox.out.lt HBox.out.c1 n os
              dsimp only at d0 d1
              have mixed : Tryz.prog.follows .mixedOrders = true := by kernel_rfl
              have hg1 : decide ((0 : Int) < ((i + 1 : Nat) : Int)) = true := decide_eq_true (by omega)
              have hg2 : (0 : Int) < ((i + 1 : Nat) : Int) := by omega
              have hwp : IntKind.i64.wrap (i : Int) = (i : Int) := by rw [IntKind.wrap_i64]; omega
              have hin : (i : Int) < (n : Int) := by omega
              have hin' : (i : Int) + 1 < (n : Int) := by omega
              by_cases hc : c < 0
              · have HRs' : Hid (R = R') := by
                  show R = R'
                  rw [HRs.out]
                  have : ltP ⟨y0, y1⟩ ⟨x0, x1⟩ := (cfP_neg _ _).1 (by rw [HC.out]; exact hc)
                  simp [behindB, this]
                have hcb : decide (0 ≤ c) = false := decide_eq_false (by omega)
                go_quiet_grown (first | (go_at_call 71; refine Calls.grown_of (HCall.out _ _)))
                go_wp2_with fail
                go_roundw
                case rel => exact ⟨i + 1 + 1, by omega, by go_num, HRs'.out.trans HR1.out, HB1.out.trans (below_growD _ _ _ _ HB1.out.size)⟩
                case measure => simp [intOf]; omega
              · have HRf : Hid (R = false) := by
                  show R = false
                  rw [HRs.out]
                  have : ¬ ltP ⟨y0, y1⟩ ⟨x0, x1⟩ := fun h => hc (by rw [← HC.out]; exact (cfP_neg _ _).2 h)
                  simp [behindB, this]
                have hcb : decide (0 ≤ c) = true := decide_eq_true (by omega)
                go_quiet_grown (first | (go_at_call 71; refine Calls.grown_of (HCall.out _ _)))
                go_wp2_with fail
                go_ret
                exact ⟨by rw [HRf.out]; rfl, HB1.out.trans (below_growD _ _ _ _ HB1.out.size)⟩
      · obtain rfl : j = n := by omega
        have HR0 : Hid (R = true) := by
          show R = true
          rw [HJ.out, List.drop_eq_nil_of_le (by rw [HN.out]; exact Nat.le_refl _)]
          rfl
        go_wp2_with fail
        go_ret
        exact ⟨by rw [HR0.out]; rfl, HB.out⟩
end Go.Proofs.YtpcnfoaoajfhlabGreatDoor

namespace Go.Proofs.YtpcnfoaoajfhlabGreatDoor
set_option linter.unusedVariables false
set_option linter.unusedSimpArgs false
open Go.RowKit Go.Shelf

/-- where the first is that is so, -1: none -/
def idxP (n : Nat) (p : Nat → Bool) : Nat → Int
  | 0 => -1
  | f + 1 => if p (n - (f + 1)) = true then ((n - (f + 1) : Nat) : Int) else idxP n p f
theorem idxP_hit {n : Nat} {p : Nat → Bool} {j : Nat} (h : j < n) (hp : p j = true) : idxP n p (n - j) = j := by
  obtain ⟨f, hf⟩ : ∃ f, n - j = f + 1 := ⟨n - j - 1, by omega⟩
  rw [hf, idxP, show n - (f + 1) = j by omega, if_pos hp]
theorem idxP_miss {n : Nat} {p : Nat → Bool} {j : Nat} (h : j < n) (hp : p j = false) : idxP n p (n - j) = idxP n p (n - (j + 1)) := by
  obtain ⟨f, hf⟩ : ∃ f, n - j = f + 1 := ⟨n - j - 1, by omega⟩
  rw [hf, idxP, show n - (f + 1) = j by omega, if_neg (by rw [hp]; simp), show n - (j + 1) = f by omega]
theorem idxP_end (n : Nat) (p : Nat → Bool) : idxP n p (n - n) = -1 := by rw [Nat.sub_self]; rfl
set_option maxHeartbeats 4000000 in
theorem indexP_c (f : FuncId) (caps : Array Value) (v : Value) (l : List Pt) (p : Nat → Bool) (w : World) (hr : PtsIs w v l)
    (eg : ∀ args w, (callFunc f args).run Tryz.prog w = .ok (.enter f args) w) (hf : ∀ j (h : j < l.length) w', Below w.heap.size w w' → Calls Tryz.prog f (#[l[j].val] ++ caps) w' fun e w'' => e = .returned (.bool (p j)) ∧ Below w'.heap.size w' w'') :
    Calls Tryz.prog 98 #[v, .func (.func f) #[] caps] w fun e w' => e = .returned (.int .i64 (idxP l.length p l.length)) ∧ Below w.heap.size w w' := by
  obtain ⟨hlen, pp, cap, rfl, hrow⟩ := hr
  have HRow : Hid (l ≠ [] → ∃ b o, pp = some ⟨b, o, none⟩ ∧ b < w.heap.size ∧ ∀ j (h : j < l.length), PtAt w b (o + j * 2) l[j]) := hrow
  have HF : Hid (∀ j (h : j < l.length) w', Below w.heap.size w w' → Calls Tryz.prog f (#[l[j].val] ++ caps) w' fun e w'' => e = .returned (.bool (p j)) ∧ Below w'.heap.size w' w'') := hf
  clear hrow hf
  obtain ⟨n, HN⟩ : ∃ n, Hid (l.length = n) := ⟨_, rfl⟩
  rw [HN.out] at hlen ⊢
  have hn63 : n ≤ 9223372036854775807 := hlen
  obtain ⟨R, HR⟩ : ∃ R, Hid (idxP n p n = R) := ⟨_, rfl⟩
  rw [HR.out]
  go_enter Tryz.func98, Tryz.ntmps98
  go_wp2_with fail
  go_loopw [8] (fun i wr => ∃ j : Nat, j ≤ n ∧ i = .int .i64 j ∧ Hid (R = idxP n p (n - j)) ∧ Hid (Below w.heap.size w wr)) (fun i _ => n - (intOf i).toNat)
  case atStart => exact ⟨0, Nat.zero_le _, rfl, HR.out.symm, Below.refl _ _⟩
  case round =>
    obtain ⟨j, hj, rfl, HJ, HB⟩ := hrel
    by_cases hlt : j < n
    · have hlti : (j : Int) < (n : Int) := by omega
      have hjl : j < l.length := by rw [HN.out]; exact hlt
      obtain ⟨b, o, rfl, hbw, hat⟩ := HRow.out (fun h => by simp [h] at hjl)
      have HAt : Hid (PtAt wr b (o + j * 2) l[j]) := (hat j hjl).of_block (HB.out.block b hbw)
      have HC : Hid _ := HF.out j hjl wr HB.out
      clear hat
      obtain ⟨x, HX⟩ : ∃ x, Hid (l[j] = x) := ⟨l[j], show l[j] = l[j] from rfl⟩
      rw [HX.out] at HAt HC
      obtain ⟨x0, x1⟩ := x
      obtain ⟨c0, c1⟩ := HAt.out
      dsimp only at c0 c1
      cases hp : p j
      · rw [idxP_miss hlt hp] at HJ
        rw [hp] at HC
        go_wp2_with fail
        refine Calls.mono HC.out ?_
        rintro e w1 ⟨rfl, hb⟩
        have B1 : Hid (Below w.heap.size w w1) := HB.out.trans (hb.mono HB.out.size)
        clear hb c0 c1
        go_wp2_with fail
        go_roundw
        case rel => exact ⟨j + 1, by omega, by go_num, HJ, B1⟩
        case measure => simp [intOf]; omega
      · rw [idxP_hit hlt hp] at HJ
        rw [hp] at HC
        go_wp2_with fail
        refine Calls.mono HC.out ?_
        rintro e w1 ⟨rfl, hb⟩
        have B1 : Hid (Below w.heap.size w w1) := HB.out.trans (hb.mono HB.out.size)
        clear hb c0 c1
        go_wp2_with fail
        go_ret
        exact ⟨by rw [HJ.out]; rfl, B1.out⟩
    · obtain rfl : j = n := by omega
      rw [idxP_end] at HJ
      go_wp2_with fail
      go_ret
      exact ⟨by rw [HJ.out]; rfl, HB.out⟩
/-- how far from a place on the first point is that is not below t -/
theorem idx_first (t : Int) (l : List Pt) : ∀ d j, l.length - j = d → j ≤ l.length → idxP l.length (fun j => decide (t ≤ (l.getD j ⟨0, 0⟩).p)) (l.length - j) = if firstP t (l.drop j) < l.length - j then ((j + firstP t (l.drop j) : Nat) : Int) else -1 := by
  intro d
  induction d with
  | zero =>
    intro j hd hj
    obtain rfl : j = l.length := by omega
    rw [idxP_end, List.drop_length, if_neg (by omega)]
  | succ d ih =>
    intro j hd hj
    have hjl : j < l.length := by omega
    have hg : l.getD j ⟨0, 0⟩ = l[j] := by simp [List.getD_eq_getElem?_getD, hjl]
    rw [List.drop_eq_getElem_cons hjl, firstP]
    by_cases hp : l[j].p < t
    · rw [idxP_miss hjl (by rw [hg]; simp; omega), ih (j + 1) (by omega) (by omega), if_pos hp]
      by_cases h : firstP t (l.drop (j + 1)) < l.length - (j + 1)
      · rw [if_pos h, if_pos (by omega)]
        congr 1
        omega
      · rw [if_neg h, if_neg (by omega)]
    · rw [idxP_hit hjl (by rw [hg]; simp; omega), if_neg hp, if_pos (by omega)]
      rfl
theorem idx_all (t : Int) (l : List Pt) : idxP l.length (fun j => decide (t ≤ (l.getD j ⟨0, 0⟩).p)) l.length = if firstP t l < l.length then (firstP t l : Int) else -1 := by
  have h := idx_first t l l.length 0 (by omega) (by omega)
  rw [Nat.sub_zero, List.drop_zero, Nat.zero_add] at h
  exact h
set_option maxHeartbeats 1000000 in
theorem find1_c (t x0 x1 : Int) (tb : Nat) (w : World) (ct : w.cell? ⟨tb, 0, none⟩ = some (.int .i64 t)) :
    Calls Tryz.prog 99 #[.agg #[.int .i64 x0, .int .i64 x1], .pointer (some ⟨tb, 0, none⟩)] w fun e w' => e = .returned (.bool (decide (t ≤ x0))) ∧ Below w.heap.size w w' := by
  have htl := World.block_lt_of_cell? w _ ct
  dsimp only at htl
  go_enter Tryz.func99, Tryz.ntmps99
  go_wp2_with fail
  go_ret
  exact ⟨rfl, by go_grown⟩
/-- what is wrong with points and a key -/
def badFind (l : List Pt) (key : Int) : Int := if rightP l = false then 3 else if inR key 0 7 = false then 1 else 0
theorem badFind_zero {l : List Pt} {key : Int} (h : badFind l key = 0) : rightP l = true ∧ inR key 0 7 = true := by
  unfold badFind at h
  split at h
  · cases h
  · rename_i h1
    split at h
    · cases h
    · rename_i h2
      exact ⟨by simpa using h1, by simpa using h2⟩
theorem keyP_nat {key : Int} (h : inR key 0 7 = true) : ∃ k : Nat, key = (k : Int) ∧ k ≤ 7 := by
  simp [inR] at h
  exact ⟨key.toNat, by omega, by omega⟩
set_option maxHeartbeats 4000000 in
theorem find_bad (v : Value) (l : List Pt) (key : Int) (w : World) (e0 : Int) (hr : PtsIs w v l) (he : badFind l key = e0) (h0 : e0 ≠ 0) :
    Calls Tryz.prog 73 #[v, .int .i64 key] w fun e w' => e = .returned (.tuple #[.int .i64 0, .iface 49 (.int .i64 e0)]) ∧ Below w.heap.size w w' := by
  have HA : Hid _ := areRight_c v l w hr
  clear hr
  unfold badFind at he
  cases hR : rightP l
  · rw [if_pos hR] at he
    subst he
    rw [hR] at HA
    clear hR
    go_enter Tryz.func73, Tryz.ntmps73
    go_wp2_with fail
    refine Calls.mono HA.out ?_
    rintro e w1 ⟨rfl, hb⟩
    have B1 : Hid (Below w.heap.size w w1) := hb
    clear hb
    go_wp2_with fail
    go_ret2
    exact ⟨rfl, B1.out⟩
  · rw [if_neg (by rw [hR]; simp)] at he
    rw [hR] at HA
    clear hR
    cases hK : inR key 0 7
    · rw [if_pos hK] at he
      subst he
      have HK : Hid (inR key 0 7 = false) := hK
      clear hK
      go_enter Tryz.func73, Tryz.ntmps73
      go_wp2_with fail
      refine Calls.mono HA.out ?_
      rintro e w1 ⟨rfl, hb⟩
      have B1 : Hid (Below w.heap.size w w1) := hb
      clear hb
      go_wp2_with (go_at_call 68; refine (withinR_b _ _ _ false _ HK.out).mono ?_; rintro e w' ⟨rfl, rfl⟩)
      go_ret2
      exact ⟨rfl, B1.out⟩
    · rw [if_neg (by rw [hK]; simp)] at he
      exact absurd he.symm h0
set_option maxHeartbeats 4000000 in
theorem find_ok (v : Value) (l : List Pt) (k : Nat) (w : World) (hr : PtsIs w v l) (hR : rightP l = true) (hk : k ≤ 7) (hT : Lib.TabIs Tryz.prog w powName .u64 Lib.pow10Tab) :
    Calls Tryz.prog 73 #[v, .int .i64 (k : Nat)] w fun e w' => e = .returned (.tuple #[.int .i64 (firstQ (keyT k) l : Nat), .nilIface]) ∧ Below w.heap.size w w' := by
  have HA : Hid _ := areRight_c v l w hr
  rw [hR] at HA
  have HV : Hid (PtsIs w v l) := hr
  have HTb : Hid (Lib.TabBelow Tryz.prog w.heap.size w powName .u64 Lib.pow10Tab) := Lib.tabBelow_of_tabIs hT
  have HK : Hid (inR (k : Int) 0 7 = true) := by
    show inR (k : Int) 0 7 = true
    simp [inR]
    omega
  clear hr hR hT
  have HPl : Hid (∀ W, Lib.TabIs Tryz.prog W powName .u64 Lib.pow10Tab → Calls Tryz.prog 69 #[.int .i64 (k : Nat), .int .i64 (k : Nat)] W fun e w' => e = .returned (.tuple #[.int .i64 (plP k k : Nat), .nilIface]) ∧ Below W.heap.size W w') := fun W hW => placeR_c k k W (by omega) (by omega) hW
  have hkt : keyT k = (plP k k : Int) := rfl
  rw [hkt]
  clear hkt
  generalize plP k k = t at HPl ⊢
  have HFst : Hid ((firstP (t : Int) l < l.length ∧ firstQ (t : Int) l = firstP (t : Int) l) ∨ (¬ firstP (t : Int) l < l.length ∧ firstQ (t : Int) l = 0)) := by
    show _ ∨ _
    unfold firstQ
    by_cases h : firstP (t : Int) l < l.length
    · exact .inl ⟨h, if_pos h⟩
    · exact .inr ⟨h, if_neg h⟩
  generalize firstQ (t : Int) l = Q at HFst ⊢
  go_enter Tryz.func73, Tryz.ntmps73
  go_wp2_with fail
  refine Calls.mono HA.out ?_
  rintro e w1 ⟨rfl, hb⟩
  have B1 : Hid (Below w.heap.size w w1) := hb
  clear hb
  go_wp2_with fail
  refine (withinR_b _ _ _ true _ HK.out).mono ?_
  rintro e w2 ⟨rfl, hw⟩
  have hw' := hw.symm
  clear hw
  subst hw'
  go_wp2_with fail
  refine (HPl.out _ (HTb.out _ B1.out)).mono ?_
  rintro e w2 ⟨rfl, hb⟩
  have B2 : Hid (Below w.heap.size w w2) := B1.out.trans (hb.mono B1.out.size)
  clear hb B1
  go_upto_region 8 with fail
  obtain ⟨w3, HW⟩ : ∃ w3, w3 = w2.alloc (.cells #[.int .i64 (t : Int)] 3) := ⟨_, rfl⟩
  rw [← HW]
  have B3 : Hid (Below w.heap.size w w3) := by rw [HW]; exact B2.out.alloc B2.out.size _
  have CT : Hid (w3.cell? ⟨w2.heap.size, 0, none⟩ = some (.int .i64 (t : Int)) ∧ w2.heap.size < w3.heap.size) := by
    rw [HW]
    exact ⟨by simp, by simp⟩
  clear HW
  have HI : Hid (Calls Tryz.prog 98 #[v, .func (.func 99) #[] #[.pointer (some ⟨w2.heap.size, 0, none⟩)]] w3 fun e w' => e = .returned (.int .i64 (if firstP (t : Int) l < l.length then (firstP (t : Int) l : Int) else -1)) ∧ Below w3.heap.size w3 w') := by
    rw [← idx_all]
    refine indexP_c 99 #[.pointer (some ⟨w2.heap.size, 0, none⟩)] v l (fun j => decide ((t : Int) ≤ (l.getD j ⟨0, 0⟩).p)) w3 (HV.out.below B3.out) (enters_of Tryz.func99 (by kernel_rfl) rfl) ?_
    intro j hj W hW
    have hg : l.getD j ⟨0, 0⟩ = l[j] := by simp [List.getD_eq_getElem?_getD, hj]
    simp only [hg]
    generalize l[j] = x
    obtain ⟨x0, x1⟩ := x
    exact find1_c (t : Int) x0 x1 _ W ((World.cell?_of_block (a := ⟨w2.heap.size, 0, none⟩) (hW.block _ CT.out.2)).trans CT.out.1)
  have hmx := HV.out.1
  rcases HFst.out with ⟨hlt, hq⟩ | ⟨hlt, hq⟩
  · rw [if_pos hlt, ← hq] at HI
    have hQ : Q ≤ 9223372036854775807 := by unfold maxLen at hmx; omega
    clear hlt hmx hq
    go_wp2_with fail
    refine Calls.mono HI.out ?_
    rintro e w4 ⟨rfl, hb⟩
    have B4 : Hid (Below w.heap.size w w4) := B3.out.trans (hb.mono B3.out.size)
    clear hb
    go_wp2_with fail
    go_ret2
    exact ⟨rfl, B4.out⟩
  · rw [if_neg hlt] at HI
    subst hq
    clear hlt hmx
    go_wp2_with fail
    refine Calls.mono HI.out ?_
    rintro e w4 ⟨rfl, hb⟩
    have B4 : Hid (Below w.heap.size w w4) := B3.out.trans (hb.mono B3.out.size)
    clear hb
    go_wp2_with fail
    go_ret2
    exact ⟨rfl, B4.out⟩
end Go.Proofs.YtpcnfoaoajfhlabGreatDoor
