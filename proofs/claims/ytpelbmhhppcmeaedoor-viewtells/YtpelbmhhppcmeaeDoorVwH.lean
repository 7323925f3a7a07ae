/-
  Package view's check, by its contract.
-/
import Derived.Test.YtpelbmhhppcmeaeDoorVwK
namespace Go.Proofs.YtpelbmhhppcmeaeDoor
set_option linter.unusedVariables false
set_option linter.unusedSimpArgs false
open Go.RowKit

set_option maxHeartbeats 4000000 in
theorem vcheck_c (v : Value) (l : List Mm) (w : World) (hr : MmsIs w v l) :
    Calls Tryd.prog 53 #[v] w fun e w' => e = .returned (eV (badV l)) ∧ Below w.heap.size w w' := by
  obtain ⟨hlen, p, cap, rfl, hrow⟩ := hr
  by_cases h8 : 6 < l.length
  · have e : badV l = 4 := by rw [badV, if_pos h8]
    rw [e]
    have h8i : (6 : Int) < (l.length : Int) := by omega
    go_enter Tryd.func53, Tryd.ntmps53
    go_wp2_with fail
    go_ret
    exact ⟨rfl, by go_grown⟩
  · have E : Hid (badV l = badVF (nodeAhead l 0) (l.drop 0)) := by
      show badV l = _
      rw [badV, if_neg h8, nodeAhead_zero, List.drop_zero]
    obtain ⟨R, HR⟩ : ∃ R, Hid (badV l = R) := ⟨_, rfl⟩
    rw [HR.out]
    have HRow : Hid (l ≠ [] → ∃ b o, p = some ⟨b, o, none⟩ ∧ b < w.heap.size ∧ ∀ j (h : j < l.length), MmAt w b (o + j * 3) l[j]) := hrow
    clear hrow
    have h8i : ¬ (6 : Int) < (l.length : Int) := by omega
    generalize hn : l.length = n at hlen h8 h8i ⊢
    have HN : Hid (l.length = n) := hn
    clear hn
    go_enter Tryd.func53, Tryd.ntmps53
    go_wp2_with fail
    go_loopw [11] (fun i wr => ∃ j : Nat, j ≤ n ∧ i = .int .i64 j ∧ Hid (R = badVF (nodeAhead l j) (l.drop j)) ∧ Hid (Below w.heap.size w wr)) (fun i _ => n - (intOf i).toNat)
    case atStart => exact ⟨0, Nat.zero_le _, rfl, HR.out.symm.trans E.out, Below.refl _ _⟩
    case round =>
      obtain ⟨j, hj, rfl, HJ, HB⟩ := hrel
      by_cases hlt : j < n
      · have hl : l ≠ [] := by intro h; have := HN.out; rw [h] at this; simp at this; omega
        obtain ⟨b, o, rfl, hbw, hat⟩ := HRow.out hl
        have hjl : j < l.length := by rw [HN.out]; exact hlt
        have HA : Hid (∀ j (h : j < l.length), MmAt wr b (o + j * 3) l[j]) := fun j h => (hat j h).of_block (HB.out.block b hbw)
        clear hat
        have hws := HB.out.size
        have hbr : b < wr.heap.size := by omega
        obtain ⟨x, HX⟩ : ∃ x, Hid (l[j] = x) := ⟨l[j], show l[j] = l[j] from rfl⟩
        obtain ⟨c0, c1, c2⟩ := HA.out j hjl
        rw [HX.out] at c0 c1 c2
        obtain ⟨k, f, s⟩ := x
        dsimp only at c0 c1 c2
        obtain ⟨m, HM⟩ : ∃ m, Hid (Mm.ok ⟨k, f, s⟩ = m) := ⟨_, rfl⟩
        have HLb : Hid (l[j].ok = m) := by
          show l[j].ok = m
          rw [HX.out]
          exact HM.out
        have HLk : Hid (l[j].n = k) := by
          show l[j].n = k
          rw [HX.out]
        clear HX
        go_wp2_with fail
        refine (isRight_b k f s m _ HM.out).mono ?_
        rintro e w1 ⟨rfl, hb⟩
        have B1 : Hid (Below w.heap.size w w1) := (HB.out.alloc hws _).trans (hb.mono (by simp; omega))
        cases m
        · clear hb
          rw [badVF_bad hjl HLb.out] at HJ
          go_wp2_with fail
          go_ret
          exact ⟨by rw [HJ.out]; rfl, B1.out⟩
        · obtain ⟨d0, d1, d2, df⟩ := (boxM_new wr k f s wr.heap.size rfl).below hb (by simp)
          have HA1 : Hid (∀ j (h : j < l.length), MmAt w1 b (o + j * 3) l[j]) := fun j h => ((HA.out j h).of_block (Below.heap_alloc _ _ _ hbr)).of_block (hb.block b (by simp; omega))
          clear hb c0 c1 c2 HA HM
          by_cases h0 : j = 0
          · subst h0
            rw [nodeAhead_zero, badVF_first hjl HLb.out, HLk.out] at HJ
            go_upto_region 8 with fail
            go_region
            all_goals go_wp2_with fail
            all_goals go_roundw
            case rel => exact ⟨1, by omega, by go_num, by rw [show (1 : Nat) = 0 + 1 from rfl, nodeAhead_succ l 0 hjl, HLk.out]; exact HJ, B1.out.drew⟩
            case measure => simp [intOf]; omega
          · obtain ⟨i, rfl⟩ : ∃ i, j = i + 1 := ⟨j - 1, by omega⟩
            have hil : i < l.length := by omega
            obtain ⟨q, HQ⟩ : ∃ q, Hid (l[i].n = q) := ⟨l[i].n, show l[i].n = l[i].n from rfl⟩
            rw [nodeAhead_succ l i hil, HQ.out] at HJ
            have y0 := (HA1.out i hil).c0
            rw [HQ.out] at y0
            have g0 : (0 : Int) < ((i : Int) + 1) := by omega
            have g1 : ((i : Int) + 1 - 1) = i := by omega
            have g2 : (i : Int) < (n : Int) := by omega
            by_cases hk : k ≤ q
            · rw [badVF_low hjl HLb.out (by rw [HLk.out]; exact hk)] at HJ
              go_upto_region 8 with fail
              go_region
              all_goals go_wp2_with fail
              all_goals go_ret
              all_goals exact ⟨by rw [HJ.out]; rfl, B1.out.drew⟩
            · rw [badVF_next hjl HLb.out (by rw [HLk.out]; exact hk), HLk.out] at HJ
              go_upto_region 8 with fail
              go_region
              all_goals go_wp2_with fail
              all_goals go_roundw
              case rel => exact ⟨i + 1 + 1, by omega, by go_num, by rw [nodeAhead_succ l (i + 1) hjl, HLk.out]; exact HJ, B1.out.drew⟩
              case measure => simp [intOf]; omega
      · obtain rfl : j = n := by omega
        have HR0 : Hid (R = 0) := by
          show R = 0
          rw [HJ.out, List.drop_eq_nil_of_le (by rw [HN.out]; exact Nat.le_refl _)]
          cases nodeAhead l j <;> rfl
        go_wp2_with fail
        go_ret
        exact ⟨by rw [HR0.out]; rfl, HB.out⟩
theorem vcheck_o {v : Value} {l : List Mm} {w : World} {n : Int} (hr : MmsIs w v l) (h : badV l = n) :
    Calls Tryd.prog 53 #[v] w fun e w' => e = .returned (eV n) ∧ Below w.heap.size w w' := by
  subst h
  exact vcheck_c v l w hr
theorem vcheck_ok {v : Value} {l : List Mm} {w : World} (hr : MmsIs w v l) (h : badV l = 0) :
    Calls Tryd.prog 53 #[v] w fun e w' => e = .returned .nilIface ∧ Below w.heap.size w w' := by
  have c := vcheck_o hr h
  rw [eV_zero] at c
  exact c
theorem vcheck_err {v : Value} {l : List Mm} {w : World} {n : Int} (hr : MmsIs w v l) (h : badV l = n) (hn : n ≠ 0) :
    Calls Tryd.prog 53 #[v] w fun e w' => e = .returned (.iface 73 (.int .i64 n)) ∧ Below w.heap.size w w' := by
  have c := vcheck_o hr h
  rw [eV_err hn] at c
  exact c
end Go.Proofs.YtpelbmhhppcmeaeDoor
