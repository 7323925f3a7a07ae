/-
  ProbeAll: in as many turns in a row as there are other nodes each of these is asked once, itself never.
-/
import Derived.Test.YtagboglgpdponafDoorPTe
namespace Go.Proofs.YtagboglgpdponafDoor
set_option linter.unusedVariables false
set_option linter.unusedSimpArgs false
open Go.RowKit

theorem IntsIs.take {w : World} {p : Option Addr} {l : List Int} {cap j cap' : Nat} {p' : Option Addr} (hr : IntsIs w (.slice p l.length cap) l) (hj : j ≤ l.length) (hp : l ≠ [] → p' = p) : IntsIs w (.slice p' j cap') (l.take j) := by
  obtain ⟨h0, q, c, e, h1⟩ := hr
  injection e with e1 e2 e3
  subst e1
  have hl : (l.take j).length = j := by simp; omega
  refine ⟨by rw [hl]; omega, p', cap', by rw [hl], fun hn => ?_⟩
  have hne : l ≠ [] := fun h => hn (by simp [h])
  rw [hp hne]
  obtain ⟨b, o, hb, hlt, hc⟩ := h1 hne
  exact ⟨b, o, hb, hlt, fun i hi => by
    have hi' : i < l.length := by rw [hl] at hi; omega
    rw [List.getElem_take]
    exact hc i hi'⟩
set_option maxHeartbeats 4000000 in
theorem inW_c (va : Value) (a : List Int) (x : Int) (R : Bool) (w : World) (hra : IntsIs w va a) (hR : a.contains x = R) :
    Calls Tryd.prog 17 #[va, .int .i64 x] w fun e w' => e = .returned (.bool R) ∧ w' = w := by
  obtain ⟨hla, pa, capa, rfl, hrowa⟩ := hra
  have HRA : Hid (a ≠ [] → ∃ bb o, pa = some ⟨bb, o, none⟩ ∧ bb < w.heap.size ∧ ∀ j (h : j < a.length), w.cell? ⟨bb, o + j, none⟩ = some (.int .i64 a[j])) := hrowa
  clear hrowa
  obtain ⟨n, HN⟩ : ∃ n, Hid (a.length = n) := ⟨_, rfl⟩
  rw [HN.out] at hla ⊢
  have hn63 : n ≤ 9223372036854775807 := hla
  have HR : Hid (a.contains x = R) := hR
  clear hR
  go_enter Tryd.func17, Tryd.ntmps17
  go_wp2_with fail
  go_loopw [5] (fun i wr => ∃ j : Nat, j ≤ n ∧ i = .int .i64 j ∧ Hid (R = (a.drop j).contains x) ∧ wr = w) (fun i _ => n - (intOf i).toNat)
  case atStart => exact ⟨0, Nat.zero_le _, rfl, by rw [List.drop_zero]; exact HR.out.symm, rfl⟩
  case round =>
    obtain ⟨j, hj, rfl, HE, rfl⟩ := hrel
    by_cases hlt : j < n
    · have hja : j < a.length := by rw [HN.out]; exact hlt
      obtain ⟨ba, oa, rfl, hbwa, hata⟩ := HRA.out (fun h => by simp [h] at hja)
      have c0 := hata j hja
      clear hata
      have HHit : Hid (a[j] = x → R = true) := fun h => HE.out.trans (hasI_hit hja h)
      have HMiss : Hid (¬ a[j] = x → R = (a.drop (j + 1)).contains x) := fun h => HE.out.trans (hasI_miss hja h)
      obtain ⟨y, HY⟩ : ∃ y, Hid (a[j] = y) := ⟨a[j], show a[j] = a[j] from rfl⟩
      rw [HY.out] at c0 HHit HMiss
      have hlti : (j : Int) < (n : Int) := by omega
      by_cases hs : y = x
      · have HRt : Hid (R = true) := HHit.out hs
        go_wp2_with fail
        go_ret
        exact ⟨by rw [HRt.out]; rfl, rfl⟩
      · have HRt : Hid (R = (a.drop (j + 1)).contains x) := HMiss.out hs
        go_wp2_with fail
        go_roundw
        case rel => exact ⟨j + 1, by omega, by go_num, HRt, trivial⟩
        case measure => simp [intOf]; omega
    · obtain rfl : j = n := by omega
      have HR0 : Hid (R = false) := by
        show R = false
        rw [HE.out, List.drop_eq_nil_of_le (by rw [HN.out]; exact Nat.le_refl _)]
        rfl
      go_wp2_with fail
      go_ret
      exact ⟨by rw [HR0.out]; rfl, rfl⟩
/-- among the turns ahead of it within a round one is not met -/
theorem row_not {me n t j : Nat} (hm : me < n) (hn : 2 ≤ n) (hj : j < n - 1) : (rowZ me n t j).contains ((tgN me n (t + j) : Nat) : Int) = false := by
  rw [← Bool.not_eq_true, List.contains_iff_mem]
  intro h
  obtain ⟨i, hi, he⟩ := List.mem_map.1 h
  have hij := List.mem_range.1 hi
  exact rowN_unlike (t := t) hm hn hij hj (by omega)
set_option maxRecDepth 100000 in
set_option maxHeartbeats 16000000 in
theorem probeAll_w (me n turn : Int) (w : World) (hg : HasErr w) :
    Calls Tryd.prog 5 #[.int .i64 me, .int .i64 n, .int .i64 turn] w fun e w' => e = .returned (.bool true) ∧ Below w.heap.size w w' := by
  have HG : Hid (HasErr w) := hg
  clear hg
  have HC1 : Hid (∀ w, Calls Tryd.prog 13 #[.int .i64 2, .int .i64 4, .int .i64 1] w fun e w' => e = .returned (.tuple #[.int .i64 0, .nilIface]) ∧ w' = w) := fun w => target_ok 2 4 1 w (by omega) (by omega) (by omega) (by omega)
  by_cases hr : n < 2 ∨ 6 < n
  · have HC2 : Hid (∀ w, Calls Tryd.prog 13 #[.int .i64 0, .int .i64 1, .int .i64 0] w fun e w' => e = .returned (.tuple #[.int .i64 0, eV 1]) ∧ w' = w) := fun w => by
      rw [eV_err (by omega)]
      exact target_bad 0 1 0 w (by decide)
    have HEr : Hid (Calls Tryd.prog 10 #[eV 1, .int .i64 1] w fun e w' => e = .returned (.bool true) ∧ Below w.heap.size w w') := err_same 1 w HG.out
    clear HG
    by_cases h1 : n < 2
    · clear hr
      go_enter Tryd.func5, Tryd.ntmps5
      go_wp2_with fail
      refine (HC1.out _).mono ?_
      rintro e w' ⟨rfl, rfl⟩
      go_wp2_with fail
      refine (HC2.out _).mono ?_
      rintro e w' ⟨rfl, rfl⟩
      go_wp2_with fail
      refine Calls.mono HEr.out ?_
      rintro e w2 ⟨rfl, hb⟩
      have HB : Hid (Below w'.heap.size w' w2) := hb
      clear hb
      go_wp2_with fail
      go_ret
      exact ⟨rfl, HB.out⟩
    · have h2 : 6 < n := by omega
      clear hr
      go_enter Tryd.func5, Tryd.ntmps5
      go_wp2_with fail
      refine (HC1.out _).mono ?_
      rintro e w' ⟨rfl, rfl⟩
      go_wp2_with fail
      refine (HC2.out _).mono ?_
      rintro e w' ⟨rfl, rfl⟩
      go_wp2_with fail
      refine Calls.mono HEr.out ?_
      rintro e w2 ⟨rfl, hb⟩
      have HB : Hid (Below w'.heap.size w' w2) := hb
      clear hb
      go_wp2_with fail
      go_ret
      exact ⟨rfl, HB.out⟩
  · have h1 : ¬ n < 2 := by omega
    have h2 : ¬ 6 < n := by omega
    clear hr HG
    by_cases hok : (isOfB me n && inR turn 0 60 && inR (n - 1) 0 60) = true
    · rw [Bool.and_eq_true, Bool.and_eq_true] at hok
      obtain ⟨me, n, rfl, rfl, hm, hn, hn6⟩ := isOf_nat hok.1.1
      obtain ⟨t, rfl, ht⟩ := in_nat (m := 60) hok.1.2
      clear hok
      obtain ⟨k, HK⟩ : ∃ k, Hid (n - 1 = k) := ⟨_, rfl⟩
      have hnk : (n : Int) - 1 = (k : Int) := by
        have := HK.out
        omega
      have hk1 : 1 ≤ k := by omega
      have hk5 : k ≤ 5 := by omega
      have HRow : Hid (∀ w, Calls Tryd.prog 14 #[.int .i64 (me : Nat), .int .i64 (n : Nat), .int .i64 (t : Nat), .int .i64 (k : Int)] w fun e w' => ∃ L g : Nat, e = .returned (.tuple #[.slice (some ⟨g, 0, none⟩) L L, .nilIface]) ∧ Hid (L = k) ∧ Hid (ManyAt w' g k (fun j => ((tgN me n (t + j) : Nat) : Int))) ∧ Below w.heap.size w w') := fun w => by
        refine (row_ok me n t k w hm hn hn6 ht (by omega)).mono ?_
        rintro e w' ⟨rfl, h1, h2⟩
        exact ⟨k, _, rfl, rfl, h1, h2⟩
      go_enter Tryd.func5, Tryd.ntmps5
      go_wp2_with fail
      refine (HC1.out _).mono ?_
      rintro e w' ⟨rfl, rfl⟩
      go_wp2_with fail
      refine (HRow.out _).mono ?_
      rintro e w1 ⟨L, g, rfl, HL, HM, hb⟩
      have B1 : Hid (Below w'.heap.size w' w1) := hb
      clear hb
      have hlk : ((L : Int) != (k : Int)) = false := by simp [HL.out]
      have hL5 : L ≤ 5 := by rw [HL.out]; exact hk5
      go_wp2_with fail
      go_loopw [13] (fun i wr => ∃ j : Nat, j ≤ L ∧ i = .int .i64 j ∧ Hid (ManyAt wr g k (fun j => ((tgN me n (t + j) : Nat) : Int))) ∧ Hid (Below w'.heap.size w' wr)) (fun i _ => L - (intOf i).toNat)
      case atStart => exact ⟨0, Nat.zero_le _, rfl, HM, B1⟩
      case round =>
        obtain ⟨j, hj, rfl, HMj, HB⟩ := hrel
        by_cases hlt : j < L
        · have hjk : j < k := by rw [← HL.out]; exact hlt
          have hlti : (j : Int) < (L : Int) := by omega
          have hjl : (j : Int) ≤ (L : Int) := by omega
          have HKn : Hid (j < n - 1) := by rw [HK.out]; exact hjk
          have HCo : Hid ((rowZ me n t j).contains ((tgN me n (t + j) : Nat) : Int) = false) := row_not hm hn HKn.out
          have HI : Hid (IntsIs wr (.slice (some ⟨g, 0, none⟩) k k) (rowZ me n t k)) := HMj.out.ints (by unfold maxLen; omega)
          have c0 := HMj.out.cell j hjk
          have hx1 : tgN me n (t + j) < n := tgN_lt hm hn
          have hx2 : tgN me n (t + j) ≠ me := tgN_ne hm hn
          have HWn : Hid (whR me n (tgN me n (t + j)) = (t + j) % (n - 1)) := wh_tgN hm hn
          obtain ⟨x, HX⟩ : ∃ x, Hid (tgN me n (t + j) = x) := ⟨_, rfl⟩
          rw [HX.out] at HCo c0 hx1 hx2 HWn
          have HWh : Hid (∀ w, Calls Tryd.prog 16 #[.int .i64 (me : Nat), .int .i64 (n : Nat), .int .i64 (x : Nat)] w fun e w' => e = .returned (.tuple #[.int .i64 (whR me n x : Nat), .nilIface]) ∧ w' = w) := fun w => when_ok me n x w hm hn hn6 hx1 hx2
          obtain ⟨r, HRr⟩ : ∃ r, Hid (whR me n x = r) := ⟨_, rfl⟩
          rw [HRr.out] at HWh HWn
          have hrb : ((r : Int) != ((t : Int) + (j : Int)) % (k : Int)) = false := by
            have h := HWn.out
            rw [HK.out] at h
            have h2 : (r : Int) = ((t : Int) + (j : Int)) % (k : Int) := by
              rw [h]
              simp
            simp [h2]
          have hxm : ((x : Int) == (me : Int)) = false := by simp; omega
          have hxn : ¬ (n : Int) ≤ (x : Int) := by omega
          have hxnd : decide ((n : Int) ≤ (x : Int)) = false := by simpa using hxn
          have HIn : Hid (∀ q cp, Calls Tryd.prog 17 #[.slice (some ⟨g, 0, none⟩) j cp, .int .i64 (x : Int)] (wr.drewN q) fun e w' => e = .returned (.bool false) ∧ w' = wr.drewN q) := fun q cp => by
            have hT := IntsIs.take (cap' := cp) (j := j) (l := rowZ me n t k) (w := wr.drewN q) (p := some ⟨g, 0, none⟩) (p' := some ⟨g, 0, none⟩) (cap := k) (by rw [rowZ_len]; exact HI.out.below (below_drewN _ _ _)) (by rw [rowZ_len]; omega) (fun _ => rfl)
            rw [rowZ_take (by omega)] at hT
            exact inW_c _ _ _ false _ hT HCo.out
          clear hx1 hx2 HI
          go_upto_region 15 with fail
          go_quiet (first | (go_at_call 17; exact Calls.quiet_of_same (HIn.out _ _)))
          have HBq : Hid (Below w'.heap.size w' (wr.drewN nq)) := HB.out.trans (below_drewN _ _ _)
          have HMq : Hid (ManyAt (wr.drewN nq) g k (fun j => ((tgN me n (t + j) : Nat) : Int))) := HMj.out.below (below_drewN _ _ _)
          have c0q : (wr.drewN nq).cell? ⟨g, j, none⟩ = some (.int .i64 (x : Int)) := c0
          clear c0
          obtain ⟨w2, HW2⟩ : ∃ w2, w2 = wr.drewN nq := ⟨_, rfl⟩
          rw [← HW2] at HBq HMq c0q ⊢
          clear HW2
          go_wp2_with fail
          refine (HWh.out _).mono ?_
          rintro e w3 ⟨rfl, rfl⟩
          go_wp2_with fail
          go_roundw
          case rel => exact ⟨j + 1, by omega, by go_num, HMq, HBq⟩
          case measure => simp [intOf]; omega
        · obtain rfl : j = L := by omega
          go_wp2_with fail
          go_ret
          exact ⟨rfl, HB.out⟩
    · have HRow : Hid (∀ w, Calls Tryd.prog 14 #[.int .i64 me, .int .i64 n, .int .i64 turn, .int .i64 (n - 1)] w fun e w' => e = .returned (.tuple #[.slice none 0 0, .iface 48 (.int .i64 1)]) ∧ w' = w) := fun w => row_bad me n turn (n - 1) w (by simpa using hok)
      clear hok
      go_enter Tryd.func5, Tryd.ntmps5
      go_wp2_with fail
      refine (HC1.out _).mono ?_
      rintro e w' ⟨rfl, rfl⟩
      go_wp2_with fail
      refine (HRow.out _).mono ?_
      rintro e w' ⟨rfl, rfl⟩
      go_wp2_with fail
      go_ret
      exact ⟨rfl, Below.refl _ _⟩
end Go.Proofs.YtagboglgpdponafDoor
