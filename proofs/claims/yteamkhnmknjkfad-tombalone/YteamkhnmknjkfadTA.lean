/-
  The walk of merelaw4.TombAlone.
-/
import Derived.Test.YteamkhnmknjkfadTbL
namespace Go.Proofs.Yteamkhnmknjkfad
set_option linter.unusedVariables false
set_option linter.unusedSimpArgs false
open Go.RowKit

set_option maxHeartbeats 4000000 in
theorem alone_walk (v : Value) (l : List En) (w : World) (hr : RowIs w v l) :
    Calls Try.prog 3 #[v] w fun e w' => e = .returned (.bool true) ∧ Below w.heap.size w w' := by
  have HR : Hid (RowIs w v l) := hr
  have HB0 : Hid (Below w.heap.size w (w.alloc (.cells #[v] 22))) := (Below.refl _ w).alloc (Nat.le_refl _) _
  have HRs : Hid (RowsIs (w.alloc (.cells #[v] 22)) (.slice (some ⟨w.heap.size, 0, none⟩) 1 1) [l]) := rows_one (by simp) (hr.below HB0.out)
  by_cases hn : badL l = 0
  · have HN0 : Hid (badL l = 0) := hn
    have HS : Hid (tombSafe [l] = (sweptL 1000 l, 0)) := alone_fine hn
    have HW : Hid (tombSweep l 1000 = (keptL 1000 l, sweptL 1000 l, 0)) := alone_sweep hn
    have HK : Hid ((keptL 1000 l).length + (sweptL 1000 l).length = l.length) := kept_sum _ _
    have HGn : Hid (∀ e ∈ keptL 1000 l, e.g = false) := kept_gone hn
    generalize sweptL 1000 l = K at HS HW HK
    generalize keptL 1000 l = L at HW HK HGn
    clear hn
    obtain ⟨hlen, p, cap, rfl, hrow⟩ := hr
    clear hrow
    obtain ⟨n, HN⟩ : ∃ n, Hid (l.length = n) := ⟨_, rfl⟩
    rw [HN.out] at hlen HR HB0 HRs HK ⊢
    have hn63 : n ≤ 9223372036854775807 := hlen
    go_enter Try.func3, Try.ntmps3
    go_wp2_with fail
    refine (tsafe_ok HS.out _ _ HRs.out).mono ?_
    rintro e w1 ⟨v1, rfl, hi, hb⟩
    have B1 : Hid (Below w.heap.size w w1) := HB0.out.trans (hb.mono HB0.out.size)
    have I1 : Hid (IntsIs w1 v1 K) := hi
    clear hb hi HRs HB0
    go_wp2_with fail
    refine (tsweep_ok HW.out _ _ (HR.out.below B1.out)).mono ?_
    rintro e w2 ⟨v2, v3, rfl, hl, hk, hb⟩
    have B2 : Hid (Below w.heap.size w w2) := B1.out.trans (hb.mono B1.out.size)
    have I2 : Hid (IntsIs w2 v1 K) := I1.out.below hb
    have L2 : Hid (RowIs w2 v2 L) := hl
    have K2 : Hid (IntsIs w2 v3 K) := hk
    clear hb hl hk I1 B1
    obtain ⟨hll, p2, cap2, rfl, hrow2⟩ := L2.out
    obtain ⟨hlk, p3, cap3, rfl, hrow3⟩ := K2.out
    clear hrow2 hrow3
    obtain ⟨m, HM⟩ : ∃ m, Hid (L.length = m) := ⟨_, rfl⟩
    obtain ⟨k, HKl⟩ : ∃ k, Hid (K.length = k) := ⟨_, rfl⟩
    rw [HM.out] at hll L2 HK ⊢
    rw [HKl.out] at hlk K2 HK ⊢
    have hsum : (m : Int) + (k : Int) = (n : Int) := by have := HK.out; omega
    have hsumN : m + k = n := HK.out
    have hneq : ((n : Int) != (n : Int)) = false := by simp
    have hm63 : m ≤ 9223372036854775807 := hll
    have hk63 : k ≤ 9223372036854775807 := hlk
    go_wp2_with fail
    refine (ints_t K _ _ _ I2.out K2.out).mono ?_
    rintro e w3 ⟨rfl, hb⟩
    have B3 : Hid (Below w.heap.size w w3) := B2.out.trans (hb.mono B2.out.size)
    have L3 : Hid (RowIs w3 (.slice p2 m cap2) L) := L2.out.below hb
    clear hb I2 K2 L2 B2
    go_wp2_with fail
    go_loopw [8] (fun i wr => ∃ j : Nat, j ≤ m ∧ i = .int .i64 j ∧ Hid (RowIs wr (.slice p2 m cap2) L) ∧ Hid (Below w.heap.size w wr)) (fun i _ => m - (intOf i).toNat)
    case atStart => exact ⟨0, Nat.zero_le _, rfl, L3, B3⟩
    case round =>
      obtain ⟨j, hj, rfl, HLr, HB⟩ := hrel
      by_cases hlt : j < m
      · have hjl : j < L.length := by rw [HM.out]; exact hlt
        obtain ⟨hl', q, cap', hq, hrow'⟩ := HLr.out
        obtain ⟨b, o, hq2, hbw, hat⟩ := hrow' (fun h => by simp [h] at hjl)
        subst hq2
        obtain ⟨rfl, _, _⟩ : p2 = some ⟨b, o, none⟩ ∧ m = L.length ∧ cap2 = cap' := by simpa using hq
        have c3 := (hat j hjl).c3
        rw [HGn.out _ (List.getElem_mem _)] at c3
        clear hat hrow' hq
        have hlti : (j : Int) < (m : Int) := by omega
        go_wp2_with fail
        go_roundw
        case rel => exact ⟨j + 1, by omega, by go_num, HLr, HB⟩
        case measure => simp [intOf]; omega
      · obtain rfl : j = m := by omega
        go_wp2_with fail
        go_ret
        exact ⟨rfl, HB.out⟩
  · obtain ⟨n, HN⟩ : ∃ n, Hid (badL l = n) := ⟨_, rfl⟩
    rw [HN.out] at hn
    have HS : Hid (tombSafe [l] = ([], n)) := alone_fault HN.out hn
    obtain ⟨hlen, p, cap, rfl, hrow⟩ := hr
    clear hrow
    go_enter Try.func3, Try.ntmps3
    go_wp2_with fail
    refine (tsafe_err HS.out hn _ _ HRs.out).mono ?_
    rintro e w1 ⟨v1, rfl, hi, hb⟩
    have B1 : Hid (Below w.heap.size w w1) := HB0.out.trans (hb.mono HB0.out.size)
    clear hb hi HRs HB0
    go_wp2_with fail
    refine (cacheCheck_err (HR.out.below B1.out) HN.out hn).mono ?_
    rintro e w2 ⟨rfl, hb⟩
    have B2 : Hid (Below w.heap.size w w2) := B1.out.trans (hb.mono B1.out.size)
    clear hb
    go_wp2_with fail
    go_ret
    exact ⟨rfl, B2.out⟩
end Go.Proofs.Yteamkhnmknjkfad
