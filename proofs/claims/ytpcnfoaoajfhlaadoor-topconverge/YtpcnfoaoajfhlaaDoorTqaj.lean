/-
  Rows of numbers with their room; slices.Index and slices.Contains at numbers (beside the trees' rows of numbers).
  Package gossip by its contracts: within, isNumber, checkCall, check.
-/
import Derived.Test.YtpcnfoaoajfhlaaDoorTqai
import Derived.Test.YtpcnfoaoajfhlaaDoorTqaf
import Derived.Shelf.Abstract
import Derived.BigRegion
namespace Go.Proofs.YtpcnfoaoajfhlaaDoor
set_option linter.unusedVariables false
set_option linter.unusedSimpArgs false
set_option linter.unusedVariables false
set_option linter.unusedSimpArgs false
open Go.RowKit

theorem eV_zero : eV 0 = .nilIface := by rw [eV, if_pos rfl]
theorem eV_err {n : Int} (h : n ≠ 0) : eV n = .iface 71 (.int .i64 n) := by rw [eV, if_neg h]
/-- a slice's room is not less than its length -/
def CapOk (v : Value) (n : Nat) : Prop := ∃ p c, v = .slice p n c ∧ n ≤ c ∧ c ≤ maxLen
theorem CapOk.nil : CapOk (.slice none 0 0) 0 := ⟨none, 0, rfl, Nat.le_refl _, by unfold maxLen; omega⟩
theorem OwnI.cap {B : Nat} {w : World} {v : Value} {l : List Int} (h : OwnI B w v l) : CapOk v l.length := by
  rcases h.2 with ⟨rfl, h0⟩ | ⟨g, cap, cur, rfl, _, _, hc1, hc2, _⟩
  · rw [h0]
    exact CapOk.nil
  · exact ⟨_, cap, rfl, hc1, hc2⟩

theorem hasD_hit {a : List Int} {x : Int} {j : Nat} (h : j < a.length) (hx : a[j] = x) : (a.drop j).contains x = true := by
  rw [List.drop_eq_getElem_cons h, List.contains_cons, hx]
  simp
theorem hasD_miss {a : List Int} {x : Int} {j : Nat} (h : j < a.length) (hx : ¬ a[j] = x) : (a.drop j).contains x = (a.drop (j + 1)).contains x := by
  rw [List.drop_eq_getElem_cons h, List.contains_cons]
  have : (x == a[j]) = false := by simp; exact fun h => hx h.symm
  rw [this, Bool.false_or]
set_option maxHeartbeats 4000000 in
theorem indexI_c (va : Value) (a : List Int) (x : Int) (w : World) (hra : IntsIs w va a) :
    Calls Tryd.prog 109 #[va, .int .i64 x] w fun e w' => ∃ k : Int, e = .returned (.int .i64 k) ∧ Hid (a.contains x = decide (0 ≤ k)) ∧ w' = w := by
  obtain ⟨hla, pa, capa, rfl, hrowa⟩ := hra
  have HRA : Hid (a ≠ [] → ∃ bb o, pa = some ⟨bb, o, none⟩ ∧ bb < w.heap.size ∧ ∀ j (h : j < a.length), w.cell? ⟨bb, o + j, none⟩ = some (.int .i64 a[j])) := hrowa
  clear hrowa
  obtain ⟨n, HN⟩ : ∃ n, Hid (a.length = n) := ⟨_, rfl⟩
  rw [HN.out] at hla ⊢
  have hn63 : n ≤ 9223372036854775807 := hla
  obtain ⟨R, HR⟩ : ∃ R, Hid (a.contains x = R) := ⟨_, rfl⟩
  rw [HR.out]
  go_enter Tryd.func109, Tryd.ntmps109
  go_wp2_with fail
  go_loopw [8] (fun i wr => ∃ j : Nat, j ≤ n ∧ i = .int .i64 j ∧ Hid (R = (a.drop j).contains x) ∧ wr = w) (fun i _ => n - (intOf i).toNat)
  case atStart => exact ⟨0, Nat.zero_le _, rfl, by rw [List.drop_zero]; exact HR.out.symm, rfl⟩
  case round =>
    obtain ⟨j, hj, rfl, HE, rfl⟩ := hrel
    by_cases hlt : j < n
    · have hja : j < a.length := by rw [HN.out]; exact hlt
      obtain ⟨ba, oa, rfl, hbwa, hata⟩ := HRA.out (fun h => by simp [h] at hja)
      have c0 := hata j hja
      clear hata
      have HHit : Hid (a[j] = x → R = true) := fun h => HE.out.trans (hasD_hit hja h)
      have HMiss : Hid (¬ a[j] = x → R = (a.drop (j + 1)).contains x) := fun h => HE.out.trans (hasD_miss hja h)
      obtain ⟨y, HY⟩ : ∃ y, Hid (a[j] = y) := ⟨a[j], show a[j] = a[j] from rfl⟩
      rw [HY.out] at c0 HHit HMiss
      have hlti : (j : Int) < (n : Int) := by omega
      by_cases hs : y = x
      · have HRt : Hid (R = true) := HHit.out hs
        have hxb : (x == y) = true := by simp [hs]
        clear hs
        go_wp2_with fail
        go_ret
        refine ⟨(j : Int), rfl, ?_, rfl⟩
        show R = _
        rw [HRt.out]
        simp
      · have HRt : Hid (R = (a.drop (j + 1)).contains x) := HMiss.out hs
        have hxb : (x == y) = false := by simp; exact fun h => hs h.symm
        clear hs
        go_wp2_with fail
        go_roundw
        case rel => exact ⟨j + 1, by omega, by go_num, HRt, trivial⟩
        case measure => simp [intOf]; omega
    · obtain rfl : j = n := by omega
      have HR0 : Hid (R = false) := by
        show R = false
        rw [HE.out, List.drop_eq_nil_of_le (by rw [HN.out]; exact Nat.le_refl _)]
        rfl
      go_wp2_with fail
      go_ret
      refine ⟨-1, rfl, ?_, rfl⟩
      show R = _
      rw [HR0.out]
      rfl
set_option maxHeartbeats 1000000 in
theorem containsI_c (va : Value) (a : List Int) (x : Int) (b : Bool) (w : World) (hra : IntsIs w va a) (hb : a.contains x = b) :
    Calls Tryd.prog 101 #[va, .int .i64 x] w fun e w' => e = .returned (.bool b) ∧ w' = w := by
  have HC : Hid _ := indexI_c va a x w hra
  have HB : Hid (a.contains x = b) := hb
  clear hra hb
  go_enter Tryd.func101, Tryd.ntmps101
  go_wp2_with fail
  refine Calls.mono HC.out ?_
  rintro e w1 ⟨k, rfl, HK, rfl⟩
  go_wp2_with fail
  go_ret
  refine ⟨?_, rfl⟩
  rw [← HB.out, HK.out]
  rfl

theorem IntsIs.take {w : World} {p : Option Addr} {l : List Int} {cap j cap' : Nat} {p' : Option Addr} (hr : IntsIs w (.slice p l.length cap) l) (hj : j ≤ l.length) (hp : l ≠ [] → p' = p) : IntsIs w (.slice p' j cap') (l.take j) := by
  obtain ⟨h0, q, c, e, h1⟩ := hr
  injection e with e1 e2 e3
  subst e1
  have hl : (l.take j).length = j := by simp; omega
  refine ⟨by rw [hl]; omega, p', cap', by rw [hl], fun hn => ?_⟩
  have hne : l ≠ [] := fun h => hn (by simp [h])
  rw [hp hne]
  obtain ⟨b, o, hb, hlt, hc⟩ := h1 hne
  exact ⟨b, o, hb, hlt, fun i hi => by
    have hi' : i < l.length := by rw [hl] at hi; omega
    rw [List.getElem_take]
    exact hc i hi'⟩
end Go.Proofs.YtpcnfoaoajfhlaaDoor

namespace Go.Proofs.YtpcnfoaoajfhlaaDoor
set_option linter.unusedVariables false
set_option linter.unusedSimpArgs false
open Go.RowKit Go.Shelf

theorem withinG_c (n lo hi : Int) (w : World) : Calls Tryd.prog 63 #[.int .i64 n, .int .i64 lo, .int .i64 hi] w fun e w' => e = .returned (.bool (inR n lo hi)) ∧ w' = w := by
  go_enter Tryd.func63, Tryd.ntmps63
  go_wp2_with fail
  · go_ret
    refine ⟨?_, rfl⟩
    rename_i h
    simp [inR, h]
  · go_ret
    refine ⟨?_, rfl⟩
    rename_i h
    have h2 : ¬ lo ≤ n := by omega
    simp [inR, h2]
theorem withinG_b (n lo hi : Int) (b : Bool) (w : World) (hb : inR n lo hi = b) : Calls Tryd.prog 63 #[.int .i64 n, .int .i64 lo, .int .i64 hi] w fun e w' => e = .returned (.bool b) ∧ w' = w := by
  subst hb
  exact withinG_c n lo hi w
theorem isNumber_b (n : Int) (b : Bool) (w : World) (hb : inR n 1 6 = b) : Calls Tryd.prog 40 #[.int .i64 n] w fun e w' => e = .returned (.bool b) ∧ w' = w := by
  have HB : Hid (inR n 1 6 = b) := hb
  clear hb
  go_enter Tryd.func40, Tryd.ntmps40
  go_wp2_with fail
  refine (withinG_b _ _ _ b _ HB.out).mono ?_
  rintro e w' ⟨rfl, rfl⟩
  go_wp2_with fail
  go_ret
  exact ⟨rfl, rfl⟩
set_option maxHeartbeats 1000000 in
theorem noNode_c (k : Nat) (hk : k ≤ 6) (x : Int) (nb : Nat) (B : Bool) (hB : (!inR x 0 ((k : Int) - 1)) = B) (w : World) (ck : w.cell? ⟨nb, 0, none⟩ = some (.int .i64 k)) :
    Calls Tryd.prog 96 #[.int .i64 x, .pointer (some ⟨nb, 0, none⟩)] w fun e w' => e = .returned (.bool B) ∧ Below w.heap.size w w' := by
  obtain ⟨c, HC⟩ : ∃ c, Hid (inR x 0 ((k : Int) - 1) = c) := ⟨_, rfl⟩
  have HB : Hid (B = !c) := by show B = !c; rw [← hB, HC.out]
  clear hB
  go_enter Tryd.func96, Tryd.ntmps96
  go_wp2_with fail
  refine (withinG_b _ _ _ c _ HC.out).mono ?_
  rintro e w' ⟨rfl, rfl⟩
  go_wp2_with fail
  go_ret
  exact ⟨by rw [HB.out]; rfl, Below.refl _ _⟩
set_option maxHeartbeats 4000000 in
theorem checkCall_c (k : Nat) (hk : k ≤ 6) (v : Value) (c : List Int) (E : Int) (hE : callE k c = E) (w : World) (hr : IntsIs w v c) :
    Calls Tryd.prog 81 #[.int .i64 k, v] w fun e w' => e = .returned (eV E) ∧ Below w.heap.size w w' := by
  obtain ⟨B, HB⟩ : ∃ B, Hid (c.any (fun x => !inR x 0 ((k : Int) - 1)) = B) := ⟨_, rfl⟩
  have hbw : Below w.heap.size w (w.alloc (.cells #[.int .i64 k] 3)) := by go_grown
  have HW : Hid (∀ W, W = w.alloc (.cells #[.int .i64 k] 3) → Calls Tryd.prog 38 #[v, .func (.func 96) #[] #[.pointer (some ⟨w.heap.size, 0, none⟩)]] W fun e w' => e = .returned (.bool B) ∧ Below w.heap.size w w') := by
    rintro W rfl
    refine (containsF_c 96 #[.pointer (some ⟨w.heap.size, 0, none⟩)] v c (fun j => !inR (c.getD j 0) 0 ((k : Int) - 1)) B _ (hr.below hbw) (enters_of Tryd.func96 (by kernel_rfl) rfl) ?_ ?_).mono ?_
    · intro j hj W' hW'
      rw [getD_at _ _ _ hj]
      generalize c[j] = x
      refine noNode_c k hk x _ _ rfl W' ?_
      exact (World.cell?_of_block (a := ⟨w.heap.size, 0, none⟩) (hW'.block _ (by simp))).trans (by simp)
    · rw [any_range c 0 (fun x => !inR x 0 ((k : Int) - 1))]
      exact HB.out
    · rintro e w1 ⟨rfl, hb⟩
      exact ⟨rfl, hbw.trans (hb.mono hbw.size)⟩
  have HE : Hid (callE k c = E) := hE
  have HR : Hid (IntsIs w v c) := hr
  clear hE hr hbw
  obtain ⟨p, cap, rfl⟩ := HR.out.slice
  obtain ⟨n, HN⟩ : ∃ n, Hid (c.length = n) := ⟨_, rfl⟩
  rw [HN.out] at HW ⊢
  by_cases h2 : n = 2
  · subst h2
    obtain ⟨x, y, rfl⟩ : ∃ x y, c = [x, y] := by
      match c, HN.out with
      | [x, y], _ => exact ⟨x, y, rfl⟩
    obtain ⟨_, _, _, ev, hrow⟩ := HR.out
    obtain ⟨b, o, hp, hlt, hc⟩ := hrow (by simp)
    cases ev
    subst hp
    have HC0 : Hid (w.cell? ⟨b, o + 0, none⟩ = some (.int .i64 x)) := hc 0 (by simp)
    have HC1 : Hid (w.cell? ⟨b, o + 1, none⟩ = some (.int .i64 y)) := hc 1 (by simp)
    clear hc hrow
    cases B
    · by_cases hxy : x = y
      · have HE2 : Hid (E = 3) := by
          show E = 3
          rw [← HE.out, callE, if_pos (show [x, y].length = 2 from rfl), HB.out, if_neg (by simp), if_pos (by simpa using hxy)]
        have hb1 : (x == y) = true := by simpa using hxy
        clear hxy
        go_enter Tryd.func81, Tryd.ntmps81
        go_wp2_with fail
        refine Calls.mono (HW.out _ rfl) ?_
        rintro e w1 ⟨rfl, hb⟩
        have B1 : Hid (Below w.heap.size w w1) := hb
        have c0 : w1.cell? ⟨b, o, none⟩ = some (.int .i64 x) := (hb.cell hlt).trans HC0.out
        have c1 : w1.cell? ⟨b, o + 1, none⟩ = some (.int .i64 y) := (hb.cell hlt).trans HC1.out
        clear hb
        go_upto_region 5 with fail
        go_quiet (fail)
        go_wp2_with fail
        go_ret
        exact ⟨by rw [HE2.out, eV_err (by omega)] <;> rfl, B1.out.trans ⟨rfl, rfl, rfl, Nat.le_refl _, fun _ _ => rfl⟩⟩
      · have HE2 : Hid (E = 0) := by
          show E = 0
          rw [← HE.out, callE, if_pos (show [x, y].length = 2 from rfl), HB.out, if_neg (by simp), if_neg (by simpa using hxy)]
        have hb1 : (x == y) = false := by simpa using hxy
        clear hxy
        go_enter Tryd.func81, Tryd.ntmps81
        go_wp2_with fail
        refine Calls.mono (HW.out _ rfl) ?_
        rintro e w1 ⟨rfl, hb⟩
        have B1 : Hid (Below w.heap.size w w1) := hb
        have c0 : w1.cell? ⟨b, o, none⟩ = some (.int .i64 x) := (hb.cell hlt).trans HC0.out
        have c1 : w1.cell? ⟨b, o + 1, none⟩ = some (.int .i64 y) := (hb.cell hlt).trans HC1.out
        clear hb
        go_upto_region 5 with fail
        go_quiet (fail)
        go_wp2_with fail
        go_ret
        exact ⟨by rw [HE2.out, eV_zero] <;> rfl, B1.out.trans ⟨rfl, rfl, rfl, Nat.le_refl _, fun _ _ => rfl⟩⟩
    · have HE2 : Hid (E = 1) := by
        show E = 1
        rw [← HE.out, callE, if_pos (show [x, y].length = 2 from rfl), HB.out, if_pos rfl]
      go_enter Tryd.func81, Tryd.ntmps81
      go_wp2_with fail
      refine Calls.mono (HW.out _ rfl) ?_
      rintro e w1 ⟨rfl, hb⟩
      have B1 : Hid (Below w.heap.size w w1) := hb
      clear hb
      go_wp2_with fail
      go_ret
      exact ⟨by rw [HE2.out, eV_err (by omega)] <;> rfl, B1.out⟩
  · have HE2 : Hid (E = 3) := by
      show E = 3
      rw [← HE.out, callE, if_neg (by rw [HN.out]; exact h2)]
    have h2i : ((n : Int) != 2) = true := by simp; omega
    clear h2
    go_enter Tryd.func81, Tryd.ntmps81
    go_wp2_with fail
    go_ret
    exact ⟨by rw [HE2.out, eV_err (by omega)] <;> rfl, by go_grown⟩
set_option maxHeartbeats 4000000 in
theorem gcheck_c (n : Int) (v : Value) (cs : List (List Int)) (E : Int) (hE : callsE n cs = E) (w : World) (hr : CallsIs w v cs) :
    Calls Tryd.prog 61 #[.int .i64 n, v] w fun e w' => e = .returned (eV E) ∧ Below w.heap.size w w' := by
  have HE : Hid (callsE n cs = E) := hE
  clear hE
  obtain ⟨hlen, p, cap, rfl, hrow⟩ := hr.parts
  have HRow : Hid (cs ≠ [] → ∃ b o, p = some ⟨b, o, none⟩ ∧ b < w.heap.size ∧ ∀ j (h : j < cs.length), ∃ u, w.cell? ⟨b, o + j, none⟩ = some u ∧ IntsIs w u cs[j]) := hrow
  clear hrow hr
  obtain ⟨N, HN⟩ : ∃ N, Hid (cs.length = N) := ⟨_, rfl⟩
  rw [HN.out] at hlen ⊢
  have hn63 : N ≤ 9223372036854775807 := hlen
  cases hb : inR n 1 6
  · have HB : Hid (inR n 1 6 = false) := hb
    have HE2 : Hid (E = 1) := by show E = 1; rw [← HE.out, callsE, if_neg (by rw [hb]; simp)]
    clear hb
    go_enter Tryd.func61, Tryd.ntmps61
    go_wp2_with fail
    refine (isNumber_b _ false _ HB.out).mono ?_
    rintro e w' ⟨rfl, rfl⟩
    go_wp2_with fail
    go_ret
    exact ⟨by rw [HE2.out, eV_err (by omega)] <;> rfl, Below.refl _ _⟩
  · have HB : Hid (inR n 1 6 = true) := hb
    obtain ⟨k, rfl, hk1, hk6⟩ := inR_nat hb
    by_cases h40 : 40 < N
    · have HE2 : Hid (E = 4) := by show E = 4; rw [← HE.out, callsE, if_pos hb, if_pos (by rw [HN.out]; exact h40)]
      have h40i : (40 : Int) < (N : Int) := by omega
      clear hb
      go_enter Tryd.func61, Tryd.ntmps61
      go_wp2_with fail
      refine (isNumber_b _ true _ HB.out).mono ?_
      rintro e w' ⟨rfl, rfl⟩
      go_wp2_with fail
      go_ret
      exact ⟨by rw [HE2.out, eV_err (by omega)] <;> rfl, Below.refl _ _⟩
    · have HE2 : Hid (firstE k cs = E) := by show _ = E; rw [← HE.out, callsE, if_pos hb, if_neg (by rw [HN.out]; exact h40)]
      have h40i : ¬ (40 : Int) < (N : Int) := by omega
      clear hb
      go_enter Tryd.func61, Tryd.ntmps61
      go_wp2_with fail
      refine (isNumber_b _ true _ HB.out).mono ?_
      rintro e w' ⟨rfl, rfl⟩
      go_wp2_with fail
      go_loopw [18] (fun i wr => ∃ j : Nat, j ≤ N ∧ i = .int .i64 j ∧ Hid (firstE k (cs.drop j) = E) ∧ Hid (Below w'.heap.size w' wr)) (fun i _ => N - (intOf i).toNat)
      case atStart => exact ⟨0, Nat.zero_le _, rfl, HE2, Below.refl _ _⟩
      case round =>
        obtain ⟨j, hj, rfl, HJ, HBl⟩ := hrel
        by_cases hlt : j < N
        · have hlti : (j : Int) < (N : Int) := by omega
          have hjl : j < cs.length := by rw [HN.out]; exact hlt
          obtain ⟨b, o, rfl, hbw, hat⟩ := HRow.out (fun h => by simp [h] at hjl)
          obtain ⟨u, hu, hru⟩ := hat j hjl
          have c0 : wr.cell? ⟨b, o + j, none⟩ = some u := (World.cell?_of_block (a := ⟨b, o + j, none⟩) (HBl.out.block b hbw)).trans hu
          have HU : Hid (IntsIs wr u cs[j]) := hru.below HBl.out
          obtain ⟨pu, cu, rfl⟩ := hru.slice
          clear hat hu hru
          obtain ⟨F, HF⟩ : ∃ F, Hid (callE k cs[j] = F) := ⟨callE k cs[j], show callE k cs[j] = callE k cs[j] from rfl⟩
          have HJ2 : Hid ((if F = 0 then firstE k (cs.drop (j + 1)) else F) = E) := by
            have := HJ.out
            rw [firstE_drop hjl, HF.out] at this
            exact this
          by_cases hF : F = 0
          · have HF0 : Hid (callE k cs[j] = 0) := HF.out.trans hF
            have HJ3 : Hid (firstE k (cs.drop (j + 1)) = E) := by have := HJ2.out; rw [if_pos hF] at this; exact this
            clear hF
            go_wp2_with fail
            refine (checkCall_c k hk6 _ cs[j] 0 HF0.out _ HU.out).mono ?_
            rintro e w1 ⟨rfl, hb⟩
            have B1 : Hid (Below w'.heap.size w' w1) := HBl.out.trans (hb.mono HBl.out.size)
            clear hb c0
            rw [eV_zero]
            go_wp2_with fail
            go_roundw
            case rel => exact ⟨j + 1, by omega, by go_num, HJ3, B1⟩
            case measure => simp [intOf]; omega
          · have HJ3 : Hid (F = E) := by have := HJ2.out; rw [if_neg hF] at this; exact this
            have HFn : Hid (F ≠ 0) := hF
            clear hF
            go_wp2_with fail
            refine (checkCall_c k hk6 _ cs[j] F HF.out _ HU.out).mono ?_
            rintro e w1 ⟨rfl, hb⟩
            have B1 : Hid (Below w'.heap.size w' w1) := HBl.out.trans (hb.mono HBl.out.size)
            clear hb c0
            rw [eV_err HFn.out]
            go_wp2_with fail
            go_ret
            exact ⟨by rw [← HJ3.out, eV_err HFn.out] <;> rfl, B1.out⟩
        · obtain rfl : j = N := by omega
          have HJ2 : Hid (E = 0) := by
            have := HJ.out
            rw [List.drop_eq_nil_of_le (by rw [HN.out]; exact Nat.le_refl _)] at this
            exact this.symm
          go_wp2_with fail
          go_ret
          exact ⟨by rw [HJ2.out, eV_zero] <;> rfl, HBl.out⟩
end Go.Proofs.YtpcnfoaoajfhlaaDoor
