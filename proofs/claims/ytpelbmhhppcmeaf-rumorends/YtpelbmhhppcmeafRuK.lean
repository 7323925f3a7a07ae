/-
  Package rumor's within and check, by its contract.
-/
import Derived.Test.YtpelbmhhppcmeafVwK
import Derived.Test.YtpelbmhhppcmeafRuM
namespace Go.Proofs.Ytpelbmhhppcmeaf
set_option linter.unusedVariables false
set_option linter.unusedSimpArgs false
open Go.RowKit

theorem withinR_c (n lo hi : Int) (w : World) : Calls Try.prog 7 #[.int .i64 n, .int .i64 lo, .int .i64 hi] w fun e w' => e = .returned (.bool (inR n lo hi)) ∧ w' = w := by
  go_enter Try.func7, Try.ntmps7
  go_wp2_with fail
  · go_ret
    refine ⟨?_, rfl⟩
    rename_i h
    simp [inR, h]
  · go_ret
    refine ⟨?_, rfl⟩
    rename_i h
    have h2 : ¬ lo ≤ n := by omega
    simp [inR, h2]
theorem withinR_b (n lo hi : Int) (b : Bool) (w : World) (hb : inR n lo hi = b) : Calls Try.prog 7 #[.int .i64 n, .int .i64 lo, .int .i64 hi] w fun e w' => e = .returned (.bool b) ∧ w' = w := by
  subst hb
  exact withinR_c n lo hi w
set_option maxHeartbeats 4000000 in
theorem rcheck_c (v : Value) (l : List Ru) (w : World) (hr : RusIs w v l) :
    Calls Try.prog 8 #[v] w fun e w' => e = .returned (eV (badR l)) ∧ Below w.heap.size w w' := by
  obtain ⟨hlen, p, cap, rfl, hrow⟩ := hr
  by_cases h8 : 6 < l.length
  · have e : badR l = 4 := by rw [badR, if_pos h8]
    rw [e]
    have h8i : (6 : Int) < (l.length : Int) := by omega
    go_enter Try.func8, Try.ntmps8
    go_wp2_with fail
    go_ret
    exact ⟨rfl, by go_grown⟩
  · have E : Hid (badR l = badRF (ruAhead l 0) (l.drop 0)) := by
      show badR l = _
      rw [badR, if_neg h8, ruAhead_zero, List.drop_zero]
    obtain ⟨R, HR⟩ : ∃ R, Hid (badR l = R) := ⟨_, rfl⟩
    rw [HR.out]
    have HRow : Hid (l ≠ [] → ∃ b o, p = some ⟨b, o, none⟩ ∧ b < w.heap.size ∧ ∀ j (h : j < l.length), RuAt w b (o + j * 4) l[j]) := hrow
    clear hrow
    have h8i : ¬ (6 : Int) < (l.length : Int) := by omega
    generalize hn : l.length = n at hlen h8 h8i ⊢
    have HN : Hid (l.length = n) := hn
    clear hn
    go_enter Try.func8, Try.ntmps8
    go_wp2_with fail
    go_loopw [11] (fun i wr => ∃ j : Nat, j ≤ n ∧ i = .int .i64 j ∧ Hid (R = badRF (ruAhead l j) (l.drop j)) ∧ Hid (Below w.heap.size w wr)) (fun i _ => n - (intOf i).toNat)
    case atStart => exact ⟨0, Nat.zero_le _, rfl, HR.out.symm.trans E.out, Below.refl _ _⟩
    case round =>
      obtain ⟨j, hj, rfl, HJ, HB⟩ := hrel
      by_cases hlt : j < n
      · have hl : l ≠ [] := by intro h; have := HN.out; rw [h] at this; simp at this; omega
        obtain ⟨b, o, rfl, hbw, hat⟩ := HRow.out hl
        have hjl : j < l.length := by rw [HN.out]; exact hlt
        have HA : Hid (∀ j (h : j < l.length), RuAt wr b (o + j * 4) l[j]) := fun j h => (hat j h).of_block (HB.out.block b hbw)
        clear hat
        have hws := HB.out.size
        have hbr : b < wr.heap.size := by omega
        obtain ⟨x, HX⟩ : ∃ x, Hid (l[j] = x) := ⟨l[j], show l[j] = l[j] from rfl⟩
        obtain ⟨c0, c1, c2, c3⟩ := HA.out j hjl
        rw [HX.out] at c0 c1 c2 c3
        obtain ⟨⟨k, f, s⟩, t⟩ := x
        dsimp only at c0 c1 c2 c3
        obtain ⟨m, HM⟩ : ∃ m, Hid (Mm.ok ⟨k, f, s⟩ = m) := ⟨_, rfl⟩
        obtain ⟨m2, HM2⟩ : ∃ m2, Hid (inR t 0 60 = m2) := ⟨_, rfl⟩
        have HLb : Hid (l[j].ok = (m && m2)) := by
          show l[j].ok = _
          rw [HX.out, ← HM.out, ← HM2.out]
          rfl
        have HLk : Hid (l[j].m.n = k) := by
          show l[j].m.n = k
          rw [HX.out]
        clear HX
        go_wp2_with fail
        refine (isRight_b k f s m _ HM.out).mono ?_
        rintro e w1 ⟨rfl, hb⟩
        have B1 : Hid (Below w.heap.size w w1) := (HB.out.alloc hws _).trans (hb.mono (by simp; omega))
        obtain ⟨d0, d1, d2, d3, df⟩ := (boxR_new wr k f s t wr.heap.size rfl).below hb (by simp)
        have HA1 : Hid (∀ j (h : j < l.length), RuAt w1 b (o + j * 4) l[j]) := fun j h => ((HA.out j h).of_block (Below.heap_alloc _ _ _ hbr)).of_block (hb.block b (by simp; omega))
        clear hb c0 c1 c2 c3 HA HM
        cases m
        · rw [badRF_bad hjl (by rw [HLb.out]; rfl)] at HJ
          go_wp2_with fail
          go_ret
          exact ⟨by rw [HJ.out]; rfl, B1.out⟩
        · go_wp2_with fail
          refine (withinR_b t 0 60 m2 _ HM2.out).mono ?_
          rintro e w1' ⟨rfl, hw⟩
          have hw' := hw.symm
          clear hw
          subst hw'
          cases m2
          · rw [badRF_bad hjl (by rw [HLb.out]; rfl)] at HJ
            go_wp2_with fail
            go_ret
            exact ⟨by rw [HJ.out]; rfl, B1.out⟩
          have HLb : Hid (l[j].ok = true) := HLb.out
          by_cases h0 : j = 0
          · subst h0
            rw [ruAhead_zero, badRF_first hjl HLb.out, HLk.out] at HJ
            go_upto_region 8 with fail
            go_region
            all_goals go_wp2_with fail
            all_goals go_roundw
            case rel => exact ⟨1, by omega, by go_num, by rw [show (1 : Nat) = 0 + 1 from rfl, ruAhead_succ l 0 hjl, HLk.out]; exact HJ, B1.out.drew⟩
            case measure => simp [intOf]; omega
          · obtain ⟨i, rfl⟩ : ∃ i, j = i + 1 := ⟨j - 1, by omega⟩
            have hil : i < l.length := by omega
            obtain ⟨q, HQ⟩ : ∃ q, Hid (l[i].m.n = q) := ⟨l[i].m.n, show l[i].m.n = l[i].m.n from rfl⟩
            rw [ruAhead_succ l i hil, HQ.out] at HJ
            have y0 := (HA1.out i hil).c0
            rw [HQ.out] at y0
            have g0 : (0 : Int) < ((i : Int) + 1) := by omega
            have g1 : ((i : Int) + 1 - 1) = i := by omega
            have g2 : (i : Int) < (n : Int) := by omega
            by_cases hk : k ≤ q
            · rw [badRF_low hjl HLb.out (by rw [HLk.out]; exact hk)] at HJ
              go_upto_region 8 with fail
              go_region
              all_goals go_wp2_with fail
              all_goals go_ret
              all_goals exact ⟨by rw [HJ.out]; rfl, B1.out.drew⟩
            · rw [badRF_next hjl HLb.out (by rw [HLk.out]; exact hk), HLk.out] at HJ
              go_upto_region 8 with fail
              go_region
              all_goals go_wp2_with fail
              all_goals go_roundw
              case rel => exact ⟨i + 1 + 1, by omega, by go_num, by rw [ruAhead_succ l (i + 1) hjl, HLk.out]; exact HJ, B1.out.drew⟩
              case measure => simp [intOf]; omega
      · obtain rfl : j = n := by omega
        have HR0 : Hid (R = 0) := by
          show R = 0
          rw [HJ.out, List.drop_eq_nil_of_le (by rw [HN.out]; exact Nat.le_refl _)]
          cases ruAhead l j <;> rfl
        go_wp2_with fail
        go_ret
        exact ⟨by rw [HR0.out]; rfl, HB.out⟩
theorem rcheck_o {v : Value} {l : List Ru} {w : World} {n : Int} (hr : RusIs w v l) (h : badR l = n) :
    Calls Try.prog 8 #[v] w fun e w' => e = .returned (eV n) ∧ Below w.heap.size w w' := by
  subst h
  exact rcheck_c v l w hr
theorem rcheck_ok {v : Value} {l : List Ru} {w : World} (hr : RusIs w v l) (h : badR l = 0) :
    Calls Try.prog 8 #[v] w fun e w' => e = .returned .nilIface ∧ Below w.heap.size w w' := by
  have c := rcheck_o hr h
  rw [eV_zero] at c
  exact c
theorem rcheck_err {v : Value} {l : List Ru} {w : World} {n : Int} (hr : RusIs w v l) (h : badR l = n) (hn : n ≠ 0) :
    Calls Try.prog 8 #[v] w fun e w' => e = .returned (.iface 40 (.int .i64 n)) ∧ Below w.heap.size w w' := by
  have c := rcheck_o hr h
  rw [eV_err hn] at c
  exact c
end Go.Proofs.Ytpelbmhhppcmeaf
