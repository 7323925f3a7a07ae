/-
  Node, Diff and the document's answers, with letters; mereref1.Two.
  What SwapTells' walk asks: Lacks, Pair and Give, and the document's answers, with letters.
-/
import Derived.Test.YtippdgmgmenboagDoorMh
import Derived.Test.YtippdgmgmenboagDoorMi
import Derived.Test.YtippdgmgmenboagDoorMg
namespace Go.Proofs.YtippdgmgmenboagDoor
set_option linter.unusedVariables false
set_option linter.unusedSimpArgs false
set_option linter.unusedVariables false
set_option linter.unusedSimpArgs false
open Go.RowKit

theorem eV_mk {n : Int} (h : n ≠ 0) : eV n = .iface 55 (.int .i64 n) := by rw [eV, if_neg h]
theorem ints_same (l : List Int) (va vb : Value) (w : World) (ha : IntsIs w va l) (hb : IntsIs w vb l) :
    Calls Tryd.prog 10 #[va, vb] w fun e w' => e = .returned (.bool true) ∧ Below w.heap.size w w' := by
  have c := ints_c va vb l l w ha hb
  rw [beq_self_eq_true] at c
  exact c
theorem rCache_o {v : Value} {l : List En} {w : World} {n : Int} (hr : RowIs w v l) (h : badL l = n) :
    Calls Tryd.prog 14 #[v] w fun e w' => e = .returned (.int .i64 n) ∧ Below w.heap.size w w' := by
  subst h
  exact rCache_c v l w hr
theorem rTwo_c (va vb : Value) (a b : List En) (w : World) (hra : RowIs w va a) (hrb : RowIs w vb b) :
    Calls Tryd.prog 6 #[va, vb] w fun e w' => e = .returned (.int .i64 (bad2 (badL a) (badL b))) ∧ Below w.heap.size w w' := by
  obtain ⟨m, HM⟩ : ∃ m, Hid (badL a = m) := ⟨_, rfl⟩
  obtain ⟨n, HN⟩ : ∃ n, Hid (badL b = n) := ⟨_, rfl⟩
  rw [HM.out, HN.out]
  have HA : Hid (RowIs w va a) := hra
  have HB : Hid (RowIs w vb b) := hrb
  clear hra hrb
  by_cases h : m = 0
  · have hmb : (m == 0) = true := by simp [h]
    have HE : Hid (bad2 m n = n) := if_pos h
    rw [HE.out]
    clear h
    go_enter Tryd.func6, Tryd.ntmps6
    go_wp2_with fail
    refine (rCache_o HA.out HM.out).mono ?_
    rintro e w1 ⟨rfl, hb⟩
    have B1 : Hid (Below w.heap.size w w1) := hb
    clear hb
    go_wp2_with fail
    refine (rCache_o (HB.out.below B1.out) HN.out).mono ?_
    rintro e w2 ⟨rfl, hb⟩
    have B2 : Hid (Below w.heap.size w w2) := B1.out.trans (hb.mono B1.out.size)
    clear hb B1
    go_wp2_with fail
    go_ret
    exact ⟨rfl, B2.out⟩
  · have hmb : (m == 0) = false := by simp [h]
    have HE : Hid (bad2 m n = m) := if_neg h
    rw [HE.out]
    clear h
    go_enter Tryd.func6, Tryd.ntmps6
    go_wp2_with fail
    refine (rCache_o HA.out HM.out).mono ?_
    rintro e w1 ⟨rfl, hb⟩
    have B1 : Hid (Below w.heap.size w w1) := hb
    clear hb
    go_wp2_with fail
    go_ret
    exact ⟨rfl, B1.out⟩
end Go.Proofs.YtippdgmgmenboagDoor

namespace Go.Proofs.YtippdgmgmenboagDoor
set_option linter.unusedVariables false
set_option linter.unusedSimpArgs false
open Go.RowKit

set_option maxHeartbeats 4000000 in
theorem inW_c (va : Value) (a : List Int) (x : Int) (R : Bool) (w : World) (hra : IntsIs w va a) (hR : a.contains x = R) :
    Calls Tryd.prog 15 #[va, .int .i64 x] w fun e w' => e = .returned (.bool R) ∧ w' = w := by
  obtain ⟨hla, pa, capa, rfl, hrowa⟩ := hra
  have HRA : Hid (a ≠ [] → ∃ bb o, pa = some ⟨bb, o, none⟩ ∧ bb < w.heap.size ∧ ∀ j (h : j < a.length), w.cell? ⟨bb, o + j, none⟩ = some (.int .i64 a[j])) := hrowa
  clear hrowa
  obtain ⟨n, HN⟩ : ∃ n, Hid (a.length = n) := ⟨_, rfl⟩
  rw [HN.out] at hla ⊢
  have hn63 : n ≤ 9223372036854775807 := hla
  have HR : Hid (a.contains x = R) := hR
  clear hR
  go_enter Tryd.func15, Tryd.ntmps15
  go_wp2_with fail
  go_loopw [5] (fun i wr => ∃ j : Nat, j ≤ n ∧ i = .int .i64 j ∧ Hid (R = (a.drop j).contains x) ∧ wr = w) (fun i _ => n - (intOf i).toNat)
  case atStart => exact ⟨0, Nat.zero_le _, rfl, by rw [List.drop_zero]; exact HR.out.symm, rfl⟩
  case round =>
    obtain ⟨j, hj, rfl, HE, rfl⟩ := hrel
    by_cases hlt : j < n
    · have hja : j < a.length := by rw [HN.out]; exact hlt
      obtain ⟨ba, oa, rfl, hbwa, hata⟩ := HRA.out (fun h => by simp [h] at hja)
      have c0 := hata j hja
      clear hata
      have HHit : Hid (a[j] = x → R = true) := fun h => HE.out.trans (hasI_hit hja h)
      have HMiss : Hid (¬ a[j] = x → R = (a.drop (j + 1)).contains x) := fun h => HE.out.trans (hasI_miss hja h)
      obtain ⟨y, HY⟩ : ∃ y, Hid (a[j] = y) := ⟨a[j], show a[j] = a[j] from rfl⟩
      rw [HY.out] at c0 HHit HMiss
      have hlti : (j : Int) < (n : Int) := by omega
      by_cases hs : y = x
      · have HRt : Hid (R = true) := HHit.out hs
        go_wp2_with fail
        go_ret
        exact ⟨by rw [HRt.out]; rfl, rfl⟩
      · have HRt : Hid (R = (a.drop (j + 1)).contains x) := HMiss.out hs
        go_wp2_with fail
        go_roundw
        case rel => exact ⟨j + 1, by omega, by go_num, HRt, trivial⟩
        case measure => simp [intOf]; omega
    · obtain rfl : j = n := by omega
      have HR0 : Hid (R = false) := by
        show R = false
        rw [HE.out, List.drop_eq_nil_of_le (by rw [HN.out]; exact Nat.le_refl _)]
        rfl
      go_wp2_with fail
      go_ret
      exact ⟨by rw [HR0.out]; rfl, rfl⟩
theorem lacks_e (va vb : Value) (a b : List En) (w0 : World) (hra : RowIs w0 va a) (hrb : RowIs w0 vb b) (hT : Lib.TabBelow Tryd.prog w0.heap.size w0 powName .u64 Lib.pow10Tab) : ∃ (K : List Int) (N : Nat),
    (∀ w, Below w0.heap.size w0 w → Calls Tryd.prog 8 #[va, vb] w fun e w' => ∃ v', e = .returned (.tuple #[v', eV (bad2 (badL a) (badL b))]) ∧ IntsIs w' v' K ∧ Below w.heap.size w w') ∧ (bad2 (badL a) (badL b) ≠ 0 → K = []) ∧
    (bad2 (badL a) (badL b) = 0 → ∀ w, Below w0.heap.size w0 w → Calls Tryd.prog 7 #[va, vb, .int .i64 1] w fun e w' => ∃ v', e = .returned (.tuple #[v', .int .i64 (N : Nat)]) ∧ IntsIs w' v' K ∧ Below w.heap.size w w') := by
  obtain ⟨n, hn⟩ : ∃ n, bad2 (badL a) (badL b) = n := ⟨_, rfl⟩
  rw [hn]
  by_cases h0 : n = 0
  · subst h0
    obtain ⟨ha, hb⟩ := bad2_good hn
    refine ⟨lackK a b, partN (leafN a) (leafN b) 1, fun w hw => ?_, fun h => absurd rfl h, fun _ w hw => ?_⟩
    · refine (lacks_ok va vb a b w (hra.below hw) (hrb.below hw) ha hb (hT w hw)).mono ?_
      rintro e w' ⟨v', he, ho, hb'⟩
      exact ⟨v', he, ho.ints, hb'⟩
    · refine (rPart_c a b va vb ha hb w0 hra hrb 3 1 rfl (by omega) (by omega) w hw).mono ?_
      rintro e w' ⟨v', he, ho, hb'⟩
      exact ⟨v', he, ho.ints, hb'⟩
  · refine ⟨[], 0, fun w hw => ?_, fun _ => rfl, fun h => absurd h h0⟩
    rw [eV_err h0]
    refine (lacks_bad va vb a b n w (hra.below hw) (hrb.below hw) hn h0 (hT w hw)).mono ?_
    rintro e w' ⟨he, hb'⟩
    exact ⟨_, he, IntsIs.nil _, hb'⟩
theorem pair_e (va vb : Value) (a b : List En) (w0 : World) (hra : RowIs w0 va a) (hrb : RowIs w0 vb b) (hT : Lib.TabBelow Tryd.prog w0.heap.size w0 powName .u64 Lib.pow10Tab) : ∃ (X Y : List En) (E : Int),
    (∀ w, Below w0.heap.size w0 w → Calls Tryd.prog 12 #[va, vb] w fun e w' => ∃ v1 v2, e = .returned (.tuple #[v1, v2, eV E]) ∧ RowIs w' v1 X ∧ RowIs w' v2 Y ∧ Below w.heap.size w w') ∧ (bad2 (badL a) (badL b) ≠ 0 → X = [] ∧ Y = [] ∧ E = bad2 (badL a) (badL b)) ∧
    (bad2 (badL a) (badL b) = 0 → ∀ w, Below w0.heap.size w0 w → Calls Tryd.prog 11 #[va, vb] w fun e w' => ∃ v1 v2, e = .returned (.tuple #[v1, v2, .int .i64 E]) ∧ RowIs w' v1 X ∧ RowIs w' v2 Y ∧ Below w.heap.size w w') := by
  obtain ⟨⟨X, Y, E⟩, hP⟩ : ∃ R, pairW a b = R := ⟨_, rfl⟩
  refine ⟨X, Y, E, fun w hw => pair_o hP va vb w (hra.below hw) (hrb.below hw) (hT w hw), fun h => ?_, fun h w hw => ?_⟩
  · rw [pairW_bad rfl h] at hP
    simp at hP
    exact ⟨hP.1, hP.2.1, hP.2.2.symm⟩
  · obtain ⟨ha, hb⟩ := bad2_good h
    exact rSwap_o hP ha hb va vb w (hra.below hw) (hrb.below hw)
/-- the fault ahead of the keys -/
def headF (n : Int) (m : Nat) : Int := if n = 0 ∧ 8 < m then 4 else n
theorem headF_full {n : Int} {m : Nat} (h : n = 0) (hm : 8 < m) : headF n m = 4 := if_pos ⟨h, hm⟩
theorem headF_few {n : Int} {m : Nat} (hm : ¬ 8 < m) : headF n m = n := if_neg (fun h => hm h.2)
theorem headF_bad {n : Int} {m : Nat} (h : n ≠ 0) : headF n m = n := if_neg (fun h' => h h'.1)
/-- the fault behind some keys -/
def fromF (f : Int) (K : List Int) (j : Nat) : Int := if f ≠ 0 then f else badKF (K.take j) (K.drop j)
theorem fromF_on {K : List Int} {j : Nat} : fromF 0 K j = badKF (K.take j) (K.drop j) := if_neg (by simp)
theorem fromF_off {f : Int} {K : List Int} {j : Nat} (h : f ≠ 0) : fromF f K j = f := if_pos h
theorem fromF_end {f : Int} {K : List Int} : fromF f K K.length = f := by
  by_cases h : f = 0
  · subst h
    rw [fromF_on, badKF_end]
  · exact fromF_off h
theorem giveW_fault (l : List En) (K : List Int) : (giveW l K).2 = fromF (headF (badL l) K.length) K 0 := by
  by_cases h : badL l = 0
  · by_cases h8 : 8 < K.length
    · rw [headF_full h h8, fromF_off (by omega), giveW_two h (badK_full h8) (by omega)]
    · rw [headF_few h8, h, fromF_on, ← badK_else h8]
      by_cases hK : badK K = 0
      · rw [giveW_ok h hK, hK]
      · rw [giveW_two h rfl hK]
  · rw [headF_bad h, fromF_off h, giveW_one rfl h]
theorem give_e (v vk : Value) (l : List En) (K : List Int) (w0 : World) (hr : RowIs w0 v l) (hk : IntsIs w0 vk K) (hcap : CapOk vk K.length) : ∃ (G : List En) (E : Int),
    (∀ w, Below w0.heap.size w0 w → Calls Tryd.prog 18 #[v, vk] w fun e w' => ∃ v', e = .returned (.tuple #[v', eV E]) ∧ RowIs w' v' G ∧ Below w.heap.size w w') ∧ E = fromF (headF (badL l) K.length) K 0 ∧ (E ≠ 0 → G = []) ∧
    (E = 0 → ∀ w, Below w0.heap.size w0 w → Calls Tryd.prog 17 #[v, vk] w fun e w' => ∃ v', e = .returned v' ∧ RowIs w' v' G ∧ Below w.heap.size w w') := by
  refine ⟨(giveW l K).1, (giveW l K).2, fun w hw => give_c v vk l K w (hr.below hw) (hk.below hw) hcap, giveW_fault l K, fun h => ?_, fun h w hw => ?_⟩
  · by_cases h0 : badL l = 0
    · by_cases hK : badK K = 0
      · rw [giveW_ok h0 hK] at h
        exact absurd rfl h
      · rw [giveW_two h0 rfl hK]
    · rw [giveW_one rfl h0]
  · by_cases h0 : badL l = 0
    · by_cases hK : badK K = 0
      · rw [giveW_ok h0 hK]
        exact rSome_c v vk l K w (hr.below hw) (hk.below hw) (badL_good h0)
      · rw [giveW_two h0 rfl hK] at h
        exact absurd h hK
    · rw [giveW_one rfl h0] at h
      exact absurd h h0
theorem key_same (k : Int) : isK k = isKeyB k := rfl
end Go.Proofs.YtippdgmgmenboagDoor
