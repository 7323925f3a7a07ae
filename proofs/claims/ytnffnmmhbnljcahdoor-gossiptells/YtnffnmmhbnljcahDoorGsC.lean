/-
  Package gossip by its contracts: within, isNumber, checkCall, check.
-/
import Derived.Test.YtnffnmmhbnljcahDoorGsF
import Derived.Shelf.Abstract
import Derived.BigRegion
namespace Go.Proofs.YtnffnmmhbnljcahDoor
set_option linter.unusedVariables false
set_option linter.unusedSimpArgs false
open Go.RowKit Go.Shelf

theorem eV_zero : eV 0 = .nilIface := by rw [eV, if_pos rfl]
theorem eV_err {n : Int} (h : n ≠ 0) : eV n = .iface 66 (.int .i64 n) := by rw [eV, if_neg h]
theorem withinG_c (n lo hi : Int) (w : World) : Calls Tryd.prog 42 #[.int .i64 n, .int .i64 lo, .int .i64 hi] w fun e w' => e = .returned (.bool (inR n lo hi)) ∧ w' = w := by
  go_enter Tryd.func42, Tryd.ntmps42
  go_wp2_with fail
  · go_ret
    refine ⟨?_, rfl⟩
    rename_i h
    simp [inR, h]
  · go_ret
    refine ⟨?_, rfl⟩
    rename_i h
    have h2 : ¬ lo ≤ n := by omega
    simp [inR, h2]
theorem withinG_b (n lo hi : Int) (b : Bool) (w : World) (hb : inR n lo hi = b) : Calls Tryd.prog 42 #[.int .i64 n, .int .i64 lo, .int .i64 hi] w fun e w' => e = .returned (.bool b) ∧ w' = w := by
  subst hb
  exact withinG_c n lo hi w
theorem isNumber_b (n : Int) (b : Bool) (w : World) (hb : inR n 1 6 = b) : Calls Tryd.prog 33 #[.int .i64 n] w fun e w' => e = .returned (.bool b) ∧ w' = w := by
  have HB : Hid (inR n 1 6 = b) := hb
  clear hb
  go_enter Tryd.func33, Tryd.ntmps33
  go_wp2_with fail
  refine (withinG_b _ _ _ b _ HB.out).mono ?_
  rintro e w' ⟨rfl, rfl⟩
  go_wp2_with fail
  go_ret
  exact ⟨rfl, rfl⟩
set_option maxHeartbeats 1000000 in
theorem noNode_c (k : Nat) (hk : k ≤ 6) (x : Int) (nb : Nat) (B : Bool) (hB : (!inR x 0 ((k : Int) - 1)) = B) (w : World) (ck : w.cell? ⟨nb, 0, none⟩ = some (.int .i64 k)) :
    Calls Tryd.prog 48 #[.int .i64 x, .pointer (some ⟨nb, 0, none⟩)] w fun e w' => e = .returned (.bool B) ∧ Below w.heap.size w w' := by
  obtain ⟨c, HC⟩ : ∃ c, Hid (inR x 0 ((k : Int) - 1) = c) := ⟨_, rfl⟩
  have HB : Hid (B = !c) := by show B = !c; rw [← hB, HC.out]
  clear hB
  go_enter Tryd.func48, Tryd.ntmps48
  go_wp2_with fail
  refine (withinG_b _ _ _ c _ HC.out).mono ?_
  rintro e w' ⟨rfl, rfl⟩
  go_wp2_with fail
  go_ret
  exact ⟨by rw [HB.out]; rfl, Below.refl _ _⟩
set_option maxHeartbeats 4000000 in
theorem checkCall_c (k : Nat) (hk : k ≤ 6) (v : Value) (c : List Int) (E : Int) (hE : callE k c = E) (w : World) (hr : IntsIs w v c) :
    Calls Tryd.prog 40 #[.int .i64 k, v] w fun e w' => e = .returned (eV E) ∧ Below w.heap.size w w' := by
  obtain ⟨B, HB⟩ : ∃ B, Hid (c.any (fun x => !inR x 0 ((k : Int) - 1)) = B) := ⟨_, rfl⟩
  have hbw : Below w.heap.size w (w.alloc (.cells #[.int .i64 k] 3)) := by go_grown
  have HW : Hid (∀ W, W = w.alloc (.cells #[.int .i64 k] 3) → Calls Tryd.prog 31 #[v, .func (.func 48) #[] #[.pointer (some ⟨w.heap.size, 0, none⟩)]] W fun e w' => e = .returned (.bool B) ∧ Below w.heap.size w w') := by
    rintro W rfl
    refine (containsF_c 48 #[.pointer (some ⟨w.heap.size, 0, none⟩)] v c (fun j => !inR (c.getD j 0) 0 ((k : Int) - 1)) B _ (hr.below hbw) (enters_of Tryd.func48 (by kernel_rfl) rfl) ?_ ?_).mono ?_
    · intro j hj W' hW'
      rw [getD_at _ _ _ hj]
      generalize c[j] = x
      refine noNode_c k hk x _ _ rfl W' ?_
      exact (World.cell?_of_block (a := ⟨w.heap.size, 0, none⟩) (hW'.block _ (by simp))).trans (by simp)
    · rw [any_range c 0 (fun x => !inR x 0 ((k : Int) - 1))]
      exact HB.out
    · rintro e w1 ⟨rfl, hb⟩
      exact ⟨rfl, hbw.trans (hb.mono hbw.size)⟩
  have HE : Hid (callE k c = E) := hE
  have HR : Hid (IntsIs w v c) := hr
  clear hE hr hbw
  obtain ⟨p, cap, rfl⟩ := HR.out.slice
  obtain ⟨n, HN⟩ : ∃ n, Hid (c.length = n) := ⟨_, rfl⟩
  rw [HN.out] at HW ⊢
  by_cases h2 : n = 2
  · subst h2
    obtain ⟨x, y, rfl⟩ : ∃ x y, c = [x, y] := by
      match c, HN.out with
      | [x, y], _ => exact ⟨x, y, rfl⟩
    obtain ⟨_, _, _, ev, hrow⟩ := HR.out
    obtain ⟨b, o, hp, hlt, hc⟩ := hrow (by simp)
    cases ev
    subst hp
    have HC0 : Hid (w.cell? ⟨b, o + 0, none⟩ = some (.int .i64 x)) := hc 0 (by simp)
    have HC1 : Hid (w.cell? ⟨b, o + 1, none⟩ = some (.int .i64 y)) := hc 1 (by simp)
    clear hc hrow
    cases B
    · by_cases hxy : x = y
      · have HE2 : Hid (E = 3) := by
          show E = 3
          rw [← HE.out, callE, if_pos (show [x, y].length = 2 from rfl), HB.out, if_neg (by simp), if_pos (by simpa using hxy)]
        have hb1 : (x == y) = true := by simpa using hxy
        clear hxy
        go_enter Tryd.func40, Tryd.ntmps40
        go_wp2_with fail
        refine Calls.mono (HW.out _ rfl) ?_
        rintro e w1 ⟨rfl, hb⟩
        have B1 : Hid (Below w.heap.size w w1) := hb
        have c0 : w1.cell? ⟨b, o, none⟩ = some (.int .i64 x) := (hb.cell hlt).trans HC0.out
        have c1 : w1.cell? ⟨b, o + 1, none⟩ = some (.int .i64 y) := (hb.cell hlt).trans HC1.out
        clear hb
        go_upto_region 5 with fail
        go_quiet (fail)
        go_wp2_with fail
        go_ret
        exact ⟨by rw [HE2.out, eV_err (by omega)] <;> rfl, B1.out.trans ⟨rfl, rfl, rfl, Nat.le_refl _, fun _ _ => rfl⟩⟩
      · have HE2 : Hid (E = 0) := by
          show E = 0
          rw [← HE.out, callE, if_pos (show [x, y].length = 2 from rfl), HB.out, if_neg (by simp), if_neg (by simpa using hxy)]
        have hb1 : (x == y) = false := by simpa using hxy
        clear hxy
        go_enter Tryd.func40, Tryd.ntmps40
        go_wp2_with fail
        refine Calls.mono (HW.out _ rfl) ?_
        rintro e w1 ⟨rfl, hb⟩
        have B1 : Hid (Below w.heap.size w w1) := hb
        have c0 : w1.cell? ⟨b, o, none⟩ = some (.int .i64 x) := (hb.cell hlt).trans HC0.out
        have c1 : w1.cell? ⟨b, o + 1, none⟩ = some (.int .i64 y) := (hb.cell hlt).trans HC1.out
        clear hb
        go_upto_region 5 with fail
        go_quiet (fail)
        go_wp2_with fail
        go_ret
        exact ⟨by rw [HE2.out, eV_zero] <;> rfl, B1.out.trans ⟨rfl, rfl, rfl, Nat.le_refl _, fun _ _ => rfl⟩⟩
    · have HE2 : Hid (E = 1) := by
        show E = 1
        rw [← HE.out, callE, if_pos (show [x, y].length = 2 from rfl), HB.out, if_pos rfl]
      go_enter Tryd.func40, Tryd.ntmps40
      go_wp2_with fail
      refine Calls.mono (HW.out _ rfl) ?_
      rintro e w1 ⟨rfl, hb⟩
      have B1 : Hid (Below w.heap.size w w1) := hb
      clear hb
      go_wp2_with fail
      go_ret
      exact ⟨by rw [HE2.out, eV_err (by omega)] <;> rfl, B1.out⟩
  · have HE2 : Hid (E = 3) := by
      show E = 3
      rw [← HE.out, callE, if_neg (by rw [HN.out]; exact h2)]
    have h2i : ((n : Int) != 2) = true := by simp; omega
    clear h2
    go_enter Tryd.func40, Tryd.ntmps40
    go_wp2_with fail
    go_ret
    exact ⟨by rw [HE2.out, eV_err (by omega)] <;> rfl, by go_grown⟩
set_option maxHeartbeats 4000000 in
theorem gcheck_c (n : Int) (v : Value) (cs : List (List Int)) (E : Int) (hE : callsE n cs = E) (w : World) (hr : CallsIs w v cs) :
    Calls Tryd.prog 30 #[.int .i64 n, v] w fun e w' => e = .returned (eV E) ∧ Below w.heap.size w w' := by
  have HE : Hid (callsE n cs = E) := hE
  clear hE
  obtain ⟨hlen, p, cap, rfl, hrow⟩ := hr.parts
  have HRow : Hid (cs ≠ [] → ∃ b o, p = some ⟨b, o, none⟩ ∧ b < w.heap.size ∧ ∀ j (h : j < cs.length), ∃ u, w.cell? ⟨b, o + j, none⟩ = some u ∧ IntsIs w u cs[j]) := hrow
  clear hrow hr
  obtain ⟨N, HN⟩ : ∃ N, Hid (cs.length = N) := ⟨_, rfl⟩
  rw [HN.out] at hlen ⊢
  have hn63 : N ≤ 9223372036854775807 := hlen
  cases hb : inR n 1 6
  · have HB : Hid (inR n 1 6 = false) := hb
    have HE2 : Hid (E = 1) := by show E = 1; rw [← HE.out, callsE, if_neg (by rw [hb]; simp)]
    clear hb
    go_enter Tryd.func30, Tryd.ntmps30
    go_wp2_with fail
    refine (isNumber_b _ false _ HB.out).mono ?_
    rintro e w' ⟨rfl, rfl⟩
    go_wp2_with fail
    go_ret
    exact ⟨by rw [HE2.out, eV_err (by omega)] <;> rfl, Below.refl _ _⟩
  · have HB : Hid (inR n 1 6 = true) := hb
    obtain ⟨k, rfl, hk1, hk6⟩ := inR_nat hb
    by_cases h40 : 40 < N
    · have HE2 : Hid (E = 4) := by show E = 4; rw [← HE.out, callsE, if_pos hb, if_pos (by rw [HN.out]; exact h40)]
      have h40i : (40 : Int) < (N : Int) := by omega
      clear hb
      go_enter Tryd.func30, Tryd.ntmps30
      go_wp2_with fail
      refine (isNumber_b _ true _ HB.out).mono ?_
      rintro e w' ⟨rfl, rfl⟩
      go_wp2_with fail
      go_ret
      exact ⟨by rw [HE2.out, eV_err (by omega)] <;> rfl, Below.refl _ _⟩
    · have HE2 : Hid (firstE k cs = E) := by show _ = E; rw [← HE.out, callsE, if_pos hb, if_neg (by rw [HN.out]; exact h40)]
      have h40i : ¬ (40 : Int) < (N : Int) := by omega
      clear hb
      go_enter Tryd.func30, Tryd.ntmps30
      go_wp2_with fail
      refine (isNumber_b _ true _ HB.out).mono ?_
      rintro e w' ⟨rfl, rfl⟩
      go_wp2_with fail
      go_loopw [18] (fun i wr => ∃ j : Nat, j ≤ N ∧ i = .int .i64 j ∧ Hid (firstE k (cs.drop j) = E) ∧ Hid (Below w'.heap.size w' wr)) (fun i _ => N - (intOf i).toNat)
      case atStart => exact ⟨0, Nat.zero_le _, rfl, HE2, Below.refl _ _⟩
      case round =>
        obtain ⟨j, hj, rfl, HJ, HBl⟩ := hrel
        by_cases hlt : j < N
        · have hlti : (j : Int) < (N : Int) := by omega
          have hjl : j < cs.length := by rw [HN.out]; exact hlt
          obtain ⟨b, o, rfl, hbw, hat⟩ := HRow.out (fun h => by simp [h] at hjl)
          obtain ⟨u, hu, hru⟩ := hat j hjl
          have c0 : wr.cell? ⟨b, o + j, none⟩ = some u := (World.cell?_of_block (a := ⟨b, o + j, none⟩) (HBl.out.block b hbw)).trans hu
          have HU : Hid (IntsIs wr u cs[j]) := hru.below HBl.out
          obtain ⟨pu, cu, rfl⟩ := hru.slice
          clear hat hu hru
          obtain ⟨F, HF⟩ : ∃ F, Hid (callE k cs[j] = F) := ⟨callE k cs[j], show callE k cs[j] = callE k cs[j] from rfl⟩
          have HJ2 : Hid ((if F = 0 then firstE k (cs.drop (j + 1)) else F) = E) := by
            have := HJ.out
            rw [firstE_drop hjl, HF.out] at this
            exact this
          by_cases hF : F = 0
          · have HF0 : Hid (callE k cs[j] = 0) := HF.out.trans hF
            have HJ3 : Hid (firstE k (cs.drop (j + 1)) = E) := by have := HJ2.out; rw [if_pos hF] at this; exact this
            clear hF
            go_wp2_with fail
            refine (checkCall_c k hk6 _ cs[j] 0 HF0.out _ HU.out).mono ?_
            rintro e w1 ⟨rfl, hb⟩
            have B1 : Hid (Below w'.heap.size w' w1) := HBl.out.trans (hb.mono HBl.out.size)
            clear hb c0
            rw [eV_zero]
            go_wp2_with fail
            go_roundw
            case rel => exact ⟨j + 1, by omega, by go_num, HJ3, B1⟩
            case measure => simp [intOf]; omega
          · have HJ3 : Hid (F = E) := by have := HJ2.out; rw [if_neg hF] at this; exact this
            have HFn : Hid (F ≠ 0) := hF
            clear hF
            go_wp2_with fail
            refine (checkCall_c k hk6 _ cs[j] F HF.out _ HU.out).mono ?_
            rintro e w1 ⟨rfl, hb⟩
            have B1 : Hid (Below w'.heap.size w' w1) := HBl.out.trans (hb.mono HBl.out.size)
            clear hb c0
            rw [eV_err HFn.out]
            go_wp2_with fail
            go_ret
            exact ⟨by rw [← HJ3.out, eV_err HFn.out] <;> rfl, B1.out⟩
        · obtain rfl : j = N := by omega
          have HJ2 : Hid (E = 0) := by
            have := HJ.out
            rw [List.drop_eq_nil_of_le (by rw [HN.out]; exact Nat.le_refl _)] at this
            exact this.symm
          go_wp2_with fail
          go_ret
          exact ⟨by rw [HJ2.out, eV_zero] <;> rfl, HBl.out⟩
end Go.Proofs.YtnffnmmhbnljcahDoor
