/-
  The document's Member, Newer, View and Add (mereref2) by their contracts.
-/
import Derived.Test.YtpelbmhhppcmeaeDoorVwT
namespace Go.Proofs.YtpelbmhhppcmeaeDoor
set_option linter.unusedVariables false
set_option linter.unusedSimpArgs false
open Go.RowKit

set_option maxHeartbeats 4000000 in
theorem rMember_b (n f s : Int) (b : Bool) (w : World) (hb : Mm.ok ⟨n, f, s⟩ = b) : Calls Tryd.prog 25 #[.agg #[.int .i64 n, .int .i64 f, .int .i64 s]] w fun e w' => e = .returned (.bool b) ∧ Below w.heap.size w w' := by
  rw [← hb, ok_in]
  clear hb
  unfold inR
  by_cases h0 : 0 ≤ n
  · by_cases h1 : n ≤ 5
    · by_cases h2 : 0 ≤ f
      · by_cases h3 : f ≤ 100
        · by_cases h4 : 0 ≤ s
          · go_enter Tryd.func25, Tryd.ntmps25
            go_wp2_with fail
            go_ret
            exact ⟨by simp [h0, h1, h2, h3, h4], by go_grown⟩
          · go_enter Tryd.func25, Tryd.ntmps25
            go_wp2_with fail
            go_ret
            exact ⟨by simp [h0, h1, h2, h3]; intros; omega, by go_grown⟩
        · go_enter Tryd.func25, Tryd.ntmps25
          go_wp2_with fail
          go_ret
          exact ⟨by simp [h0, h1, h2]; intros; omega, by go_grown⟩
      · go_enter Tryd.func25, Tryd.ntmps25
        go_wp2_with fail
        go_ret
        exact ⟨by simp [h0, h1]; intros; omega, by go_grown⟩
    · go_enter Tryd.func25, Tryd.ntmps25
      go_wp2_with fail
      go_ret
      exact ⟨by simp [h0]; intros; omega, by go_grown⟩
  · go_enter Tryd.func25, Tryd.ntmps25
    go_wp2_with fail
    go_ret
    exact ⟨by simp; intros; omega, by go_grown⟩
set_option maxHeartbeats 4000000 in
theorem rNewer_b (n f s m g t : Int) (b : Bool) (w : World) (hb : nwB ⟨n, f, s⟩ ⟨m, g, t⟩ = b) : Calls Tryd.prog 26 #[.agg #[.int .i64 n, .int .i64 f, .int .i64 s], .agg #[.int .i64 m, .int .i64 g, .int .i64 t]] w fun e w' => e = .returned (.bool b) ∧ Below w.heap.size w w' := by
  have HB : Hid (nwB ⟨n, f, s⟩ ⟨m, g, t⟩ = b) := hb
  clear hb
  by_cases h1 : g < f
  · have HBt : Hid (b = true) := HB.out.symm.trans ((nwB_iff _ _).2 (.inl h1))
    go_enter Tryd.func26, Tryd.ntmps26
    go_wp2_with fail
    go_ret
    exact ⟨by rw [HBt.out]; rfl, by go_grown⟩
  · by_cases h2 : f = g
    · have hfb : (f == g) = true := by simp [h2]
      have HBt : Hid (b = decide (t < s)) := by
        show b = _
        rw [← HB.out]
        show (decide (g < f) || (decide (f = g) && decide (t < s))) = _
        rw [decide_eq_false h1, decide_eq_true h2]
        simp
      clear h2
      go_enter Tryd.func26, Tryd.ntmps26
      go_wp2_with fail
      go_ret
      exact ⟨by rw [HBt.out]; rfl, by go_grown⟩
    · have hfb : (f == g) = false := by simpa using h2
      have HBt : Hid (b = false) := by
        show b = _
        rw [← HB.out]
        show (decide (g < f) || (decide (f = g) && decide (t < s))) = _
        rw [decide_eq_false h1, decide_eq_false h2]
        simp
      go_enter Tryd.func26, Tryd.ntmps26
      go_wp2_with fail
      go_ret
      exact ⟨by rw [HBt.out]; rfl, by go_grown⟩
set_option maxHeartbeats 4000000 in
theorem rView_c (v : Value) (l : List Mm) (R : Int) (w : World) (hr : MmsIs w v l) (hR : badV l = R) :
    Calls Tryd.prog 28 #[v] w fun e w' => e = .returned (.int .i64 R) ∧ Below w.heap.size w w' := by
  obtain ⟨hlen, p, cap, rfl, hrow⟩ := hr
  by_cases h8 : 6 < l.length
  · have e : R = 4 := by rw [← hR, badV, if_pos h8]
    rw [e]
    have h8i : (6 : Int) < (l.length : Int) := by omega
    go_enter Tryd.func28, Tryd.ntmps28
    go_wp2_with fail
    go_ret
    exact ⟨rfl, by go_grown⟩
  · have HE : Hid (R = badVF (nodeAhead l 0) (l.drop 0)) := by
      show R = _
      rw [← hR, badV, if_neg h8, nodeAhead_zero, List.drop_zero]
    clear hR
    have HRow : Hid (l ≠ [] → ∃ b o, p = some ⟨b, o, none⟩ ∧ b < w.heap.size ∧ ∀ j (h : j < l.length), MmAt w b (o + j * 3) l[j]) := hrow
    clear hrow
    have h8i : ¬ (6 : Int) < (l.length : Int) := by omega
    generalize hn : l.length = n at hlen h8 h8i ⊢
    have HN : Hid (l.length = n) := hn
    clear hn
    go_enter Tryd.func28, Tryd.ntmps28
    go_wp2_with fail
    go_loopw [3, 4] (fun i x4 wr => ∃ (j : Nat) (y4 : Value), j ≤ n ∧ i = .int .i64 j ∧ x4 = y4 ∧ Hid (R = badVF (nodeAhead l j) (l.drop j)) ∧ Hid (Below w.heap.size w wr)) (fun i _ _ => n - (intOf i).toNat)
    case atStart => exact ⟨0, _, Nat.zero_le _, rfl, rfl, HE, Below.refl _ _⟩
    case round =>
      obtain ⟨j, y4, hj, rfl, hy4, HJ, HB⟩ := hrel
      have hy4' := hy4.symm
      clear hy4
      subst hy4'
      by_cases hlt : j < n
      · have hl : l ≠ [] := by intro h; have := HN.out; rw [h] at this; simp at this; omega
        obtain ⟨b, o, rfl, hbw, hat⟩ := HRow.out hl
        have hjl : j < l.length := by rw [HN.out]; exact hlt
        have HA : Hid (∀ j (h : j < l.length), MmAt wr b (o + j * 3) l[j]) := fun j h => (hat j h).of_block (HB.out.block b hbw)
        clear hat
        have hws := HB.out.size
        have hbr : b < wr.heap.size := by omega
        obtain ⟨x, HX⟩ : ∃ x, Hid (l[j] = x) := ⟨l[j], show l[j] = l[j] from rfl⟩
        obtain ⟨c0, c1, c2⟩ := HA.out j hjl
        rw [HX.out] at c0 c1 c2
        obtain ⟨k, f, s⟩ := x
        dsimp only at c0 c1 c2
        obtain ⟨m, HM⟩ : ∃ m, Hid (Mm.ok ⟨k, f, s⟩ = m) := ⟨_, rfl⟩
        have HLb : Hid (l[j].ok = m) := by
          show l[j].ok = m
          rw [HX.out]
          exact HM.out
        have HLk : Hid (l[j].n = k) := by
          show l[j].n = k
          rw [HX.out]
        clear HX
        have hlti : (j : Int) < (n : Int) := by omega
        go_wp2_with fail
        refine (rMember_b k f s m _ HM.out).mono ?_
        rintro e w1 ⟨rfl, hb⟩
        have B1 : Hid (Below w.heap.size w w1) := HB.out.trans (hb.mono hws)
        cases m
        · clear hb
          rw [badVF_bad hjl HLb.out] at HJ
          go_wp2_with fail
          go_ret
          exact ⟨by rw [HJ.out]; rfl, B1.out⟩
        · have HA1 : Hid (∀ j (h : j < l.length), MmAt w1 b (o + j * 3) l[j]) := fun j h => (HA.out j h).of_block (hb.block b hbr)
          clear hb c0 c1 c2 HA HM
          by_cases h0 : j = 0
          · subst h0
            rw [nodeAhead_zero, badVF_first hjl HLb.out, HLk.out] at HJ
            go_upto_region 9 with fail
            go_region
            all_goals go_wp2_with fail
            all_goals go_roundw
            case rel => exact ⟨1, _, by omega, by go_num, rfl, by rw [show (1 : Nat) = 0 + 1 from rfl, nodeAhead_succ l 0 hjl, HLk.out]; exact HJ, B1.out.drew⟩
            case measure => simp [intOf]; omega
          · obtain ⟨i, rfl⟩ : ∃ i, j = i + 1 := ⟨j - 1, by omega⟩
            have hil : i < l.length := by omega
            obtain ⟨q, HQ⟩ : ∃ q, Hid (l[i].n = q) := ⟨l[i].n, show l[i].n = l[i].n from rfl⟩
            rw [nodeAhead_succ l i hil, HQ.out] at HJ
            have y0 := (HA1.out i hil).c0
            rw [HQ.out] at y0
            have d0 := (HA1.out (i + 1) hjl).c0
            rw [HLk.out] at d0
            have g0 : (0 : Int) < ((i : Int) + 1) := by omega
            have g1 : ((i : Int) + 1 - 1) = i := by omega
            have g2 : (i : Int) < (n : Int) := by omega
            have g3 : (i : Int) + 1 < (n : Int) := by omega
            by_cases hk : k ≤ q
            · rw [badVF_low hjl HLb.out (by rw [HLk.out]; exact hk)] at HJ
              go_upto_region 9 with fail
              go_region
              all_goals go_wp2_with fail
              all_goals go_ret
              all_goals exact ⟨by rw [HJ.out]; rfl, B1.out.drew⟩
            · rw [badVF_next hjl HLb.out (by rw [HLk.out]; exact hk), HLk.out] at HJ
              go_upto_region 9 with fail
              go_region
              all_goals go_wp2_with fail
              all_goals go_roundw
              case rel => exact ⟨i + 1 + 1, _, by omega, by go_num, rfl, by rw [nodeAhead_succ l (i + 1) hjl, HLk.out]; exact HJ, B1.out.drew⟩
              case measure => simp [intOf]; omega
      · obtain rfl : j = n := by omega
        have HR0 : Hid (R = 0) := by
          show R = 0
          rw [HJ.out, List.drop_eq_nil_of_le (by rw [HN.out]; exact Nat.le_refl _)]
          cases nodeAhead l j <;> rfl
        go_wp2_with fail
        go_ret
        exact ⟨by rw [HR0.out]; rfl, HB.out⟩
end Go.Proofs.YtpelbmhhppcmeaeDoor
