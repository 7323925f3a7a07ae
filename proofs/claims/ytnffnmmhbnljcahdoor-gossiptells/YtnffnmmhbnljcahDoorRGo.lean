/-
  The document's gossip by its contracts: Calls, Play; meresame.Ints and meresame.Calls.
-/
import Derived.Test.YtnffnmmhbnljcahDoorGrM
import Derived.BigRegion
import Derived.BigQuiet
import Derived.Deep.RegionHeld3
import Derived.Deep.DeepCutAuto
import Derived.Deep.CutBlock
namespace Go.Proofs.YtnffnmmhbnljcahDoor
set_option linter.unusedVariables false
set_option linter.unusedSimpArgs false
open Go.RowKit

theorem eqI_step {a b : List Int} {j : Nat} (ha : j < a.length) (hb : j < b.length) : (a.drop j == b.drop j) = ((a[j] == b[j]) && (a.drop (j + 1) == b.drop (j + 1))) := by
  rw [List.drop_eq_getElem_cons ha, List.drop_eq_getElem_cons hb]
  rfl
theorem eqI_len {a b : List Int} (h : a.length ≠ b.length) : (a == b) = false := by
  rw [beq_eq_false_iff_ne]
  intro h'
  exact h (by rw [h'])

set_option maxHeartbeats 4000000 in
theorem ints_c (va vb : Value) (a b : List Int) (w : World) (hra : IntsIs w va a) (hrb : IntsIs w vb b) :
    Calls Tryd.prog 19 #[va, vb] w fun e w' => e = .returned (.bool (a == b)) ∧ Below w.heap.size w w' := by
  obtain ⟨hla, pa, capa, rfl, hrowa⟩ := hra
  obtain ⟨hlb, pb, capb, rfl, hrowb⟩ := hrb
  by_cases hl : a.length = b.length
  · have HRA : Hid (a ≠ [] → ∃ bb o, pa = some ⟨bb, o, none⟩ ∧ bb < w.heap.size ∧ ∀ j (h : j < a.length), w.cell? ⟨bb, o + j, none⟩ = some (.int .i64 a[j])) := hrowa
    have HRB : Hid (b ≠ [] → ∃ bb o, pb = some ⟨bb, o, none⟩ ∧ bb < w.heap.size ∧ ∀ j (h : j < b.length), w.cell? ⟨bb, o + j, none⟩ = some (.int .i64 b[j])) := hrowb
    clear hrowa hrowb
    have HL : Hid (a.length = b.length) := hl
    obtain ⟨n, HN⟩ : ∃ n, Hid (a.length = n) := ⟨_, rfl⟩
    have HNb : Hid (b.length = n) := HL.out.symm.trans HN.out
    rw [HN.out] at hla ⊢
    rw [HNb.out] at hlb ⊢
    have hn63 : n ≤ 9223372036854775807 := hla
    clear hl
    obtain ⟨R, HR⟩ : ∃ R, Hid ((a == b) = R) := ⟨_, rfl⟩
    rw [HR.out]
    go_enter Tryd.func19, Tryd.ntmps19
    go_wp2_with fail
    go_loopw [5] (fun i wr => ∃ j : Nat, j ≤ n ∧ i = .int .i64 j ∧ Hid (R = (a.drop j == b.drop j)) ∧ Hid (Below w.heap.size w wr)) (fun i _ => n - (intOf i).toNat)
    case atStart => exact ⟨0, Nat.zero_le _, rfl, by rw [List.drop_zero, List.drop_zero]; exact HR.out.symm, Below.refl _ _⟩
    case round =>
      obtain ⟨j, hj, rfl, HE, HB⟩ := hrel
      by_cases hlt : j < n
      · have hja : j < a.length := by rw [HN.out]; exact hlt
        have hjb : j < b.length := by rw [HNb.out]; exact hlt
        obtain ⟨ba, oa, rfl, hbwa, hata⟩ := HRA.out (fun h => by simp [h] at hja)
        obtain ⟨bb, ob, rfl, hbwb, hatb⟩ := HRB.out (fun h => by simp [h] at hjb)
        have c0 : wr.cell? ⟨ba, oa + j, none⟩ = some (.int .i64 a[j]) := (World.cell?_of_block (a := ⟨ba, oa + j, none⟩) (HB.out.block ba hbwa)).trans (hata j hja)
        have d0 : wr.cell? ⟨bb, ob + j, none⟩ = some (.int .i64 b[j]) := (World.cell?_of_block (a := ⟨bb, ob + j, none⟩) (HB.out.block bb hbwb)).trans (hatb j hjb)
        clear hata hatb
        have HStep : Hid (R = ((a[j] == b[j]) && (a.drop (j + 1) == b.drop (j + 1)))) := HE.out.trans (eqI_step hja hjb)
        obtain ⟨x, HX⟩ : ∃ x, Hid (a[j] = x) := ⟨a[j], show a[j] = a[j] from rfl⟩
        obtain ⟨y, HY⟩ : ∃ y, Hid (b[j] = y) := ⟨b[j], show b[j] = b[j] from rfl⟩
        rw [HX.out] at c0 HStep
        rw [HY.out] at d0 HStep
        have hlti : (j : Int) < (n : Int) := by omega
        by_cases hs : x = y
        · have hsb : (x == y) = true := by simp [hs]
          rw [hsb] at HStep
          have hsn : (x != y) = false := by simp [hs]
          go_upto_region 6 with fail
          go_quiet (fail)
          go_wp2_with fail
          go_roundw
          case rel => exact ⟨j + 1, by omega, by go_num, HStep.out.trans (by rw [Bool.true_and]), HB.out.trans (below_drewN _ _ _)⟩
          case measure => simp [intOf]; omega
        · have hsb : (x == y) = false := by simp [hs]
          rw [hsb] at HStep
          go_upto_region 6 with fail
          go_quiet (fail)
          go_wp2_with fail
          go_ret
          refine ⟨by rw [HStep.out]; rfl, HB.out.trans (below_drewN _ _ _)⟩
      · obtain rfl : j = n := by omega
        have HR0 : Hid (R = true) := by
          show R = true
          rw [HE.out, List.drop_eq_nil_of_le (by rw [HN.out]; exact Nat.le_refl _), List.drop_eq_nil_of_le (by rw [HNb.out]; exact Nat.le_refl _)]
          rfl
        go_wp2_with fail
        go_ret
        exact ⟨by rw [HR0.out]; rfl, HB.out⟩
  · rw [eqI_len hl]
    clear hrowa hrowb
    have hli : ¬ ((a.length : Int) = (b.length : Int)) := by omega
    generalize a.length = n at *
    generalize b.length = m at *
    go_enter Tryd.func19, Tryd.ntmps19
    go_wp2_with fail
    go_ret
    exact ⟨rfl, Below.refl _ _⟩

theorem ints_same (va vb : Value) (a : List Int) (w : World) (h1 : IntsIs w va a) (h2 : IntsIs w vb a) : Calls Tryd.prog 19 #[va, vb] w fun e w' => e = .returned (.bool true) ∧ Below w.heap.size w w' := by
  have c := ints_c va vb a a w h1 h2
  simp only [beq_self_eq_true] at c
  exact c
set_option maxHeartbeats 8000000 in
theorem sameCalls_c (va vb : Value) (a : List (List Int)) (w : World) (h1 : CallsIs w va a) (h2 : CallsIs w vb a) :
    Calls Tryd.prog 22 #[va, vb] w fun e w' => e = .returned (.bool true) ∧ Below w.heap.size w w' := by
  obtain ⟨hla, pa, ca, rfl, hra⟩ := h1.parts
  obtain ⟨hlb, pb, cb, rfl, hrb⟩ := h2.parts
  have HRA : Hid (a ≠ [] → ∃ b o, pa = some ⟨b, o, none⟩ ∧ b < w.heap.size ∧ ∀ j (h : j < a.length), ∃ u, w.cell? ⟨b, o + j, none⟩ = some u ∧ IntsIs w u a[j]) := hra
  have HRB : Hid (a ≠ [] → ∃ b o, pb = some ⟨b, o, none⟩ ∧ b < w.heap.size ∧ ∀ j (h : j < a.length), ∃ u, w.cell? ⟨b, o + j, none⟩ = some u ∧ IntsIs w u a[j]) := hrb
  clear hra hrb h1 h2
  obtain ⟨N, HN⟩ : ∃ N, Hid (a.length = N) := ⟨_, rfl⟩
  obtain ⟨M, HM⟩ : ∃ M, Hid (a.length = M) := ⟨_, rfl⟩
  have hnm : ((N : Int) != (M : Int)) = false := by have := HN.out; have := HM.out; simp; omega
  have HNM : Hid (N = M) := HN.out.symm.trans HM.out
  suffices hs : Calls Tryd.prog 22 #[.slice pa N ca, .slice pb M cb] w fun e w' => e = .returned (.bool true) ∧ Below w.heap.size w w' by
    have e1 := HN.out
    have e2 := HM.out
    subst e1
    subst e2
    exact hs
  have hn63 : N ≤ 9223372036854775807 := by have := HN.out; unfold maxLen at hla; omega
  clear hla hlb
  go_enter Tryd.func22, Tryd.ntmps22
  go_wp2_with fail
  go_loopw [5] (fun i wr => ∃ j : Nat, j ≤ N ∧ i = .int .i64 j ∧ Hid (Below w.heap.size w wr)) (fun i _ => N - (intOf i).toNat)
  case atStart => exact ⟨0, Nat.zero_le _, rfl, Below.refl _ _⟩
  case round =>
    obtain ⟨j, hj, rfl, HB⟩ := hrel
    by_cases hlt : j < N
    · have hlti : (j : Int) < (N : Int) := by omega
      have hltm : (j : Int) < (M : Int) := by have := HNM.out; omega
      have hja : j < a.length := by rw [HN.out]; exact hlt
      obtain ⟨ba, oa, rfl, hba, hata⟩ := HRA.out (fun h => by simp [h] at hja)
      obtain ⟨bb, ob, rfl, hbb, hatb⟩ := HRB.out (fun h => by simp [h] at hja)
      obtain ⟨ua, hua, hia⟩ := hata j hja
      obtain ⟨ub, hub, hib⟩ := hatb j hja
      have c0 : wr.cell? ⟨ba, oa + j, none⟩ = some ua := (World.cell?_of_block (a := ⟨ba, oa + j, none⟩) (HB.out.block ba hba)).trans hua
      have d0 : wr.cell? ⟨bb, ob + j, none⟩ = some ub := (World.cell?_of_block (a := ⟨bb, ob + j, none⟩) (HB.out.block bb hbb)).trans hub
      have HI : Hid (Calls Tryd.prog 19 #[ua, ub] wr.drew fun e w' => e = .returned (.bool true) ∧ Below wr.drew.heap.size wr.drew w') := ints_same ua ub a[j] wr.drew (hia.below (HB.out.trans (below_drewN _ _ 1))) (hib.below (HB.out.trans (below_drewN _ _ 1)))
      obtain ⟨p1, k1, e1⟩ := hia.slice
      obtain ⟨p2, k2, e2⟩ := hib.slice
      obtain ⟨L, HL⟩ : ∃ L, Hid (a[j].length = L) := ⟨a[j].length, show a[j].length = a[j].length from rfl⟩
      rw [HL.out] at e1 e2
      rw [e1] at c0 HI
      rw [e2] at d0 HI
      have C0 : Hid _ := c0
      have D0 : Hid _ := d0
      clear hata hatb hua hub hia hib e1 e2
      go_upto_region 6 with fail
      go_region_held3 (fun w' => w'.cell? ⟨ba, oa + j, none⟩ = some (.slice p1 L k1) ∧ w'.cell? ⟨bb, ob + j, none⟩ = some (.slice p2 L k2)) (first | (exact ⟨C0.out, D0.out⟩) | (exact ⟨old_cellG hb3 C0.out, old_cellG hb3 D0.out⟩) | go_keep) (first | (go_at_call 19; refine (HI.out).mono ?_; rintro e w3 ⟨rfl, hb3⟩))
      have B3 : Hid (Below w.heap.size w w3) := (HB.out.trans (below_drewN _ _ 1)).trans (hb3.mono HB.out.size)
      clear hb3 HI C0 D0 c0 d0
      go_wp2_with fail
      go_roundw
      case rel => exact ⟨j + 1, by omega, by go_num, B3⟩
      case measure => simp [intOf]; omega
    · obtain rfl : j = N := by omega
      go_wp2_with fail
      go_ret
      exact ⟨rfl, HB.out⟩
theorem grid_out {n : Nat} {s : List Nat} {k : Nat} (hs : smallG n s) (h : n ≤ k % 6) : gridO s k = false :=
  Nat.testBit_lt_two_pow (Nat.lt_of_lt_of_le (hs _) (Nat.pow_le_pow_right (by omega) h))
theorem any_two (x y n : Int) : [x, y].any (fun x => !inR x 0 (n - 1)) = (decide (x < 0) || decide (n ≤ x) || decide (y < 0) || decide (n ≤ y)) := by
  rw [Bool.eq_iff_iff]
  simp [inR]
  omega
set_option maxHeartbeats 8000000 in
theorem rCalls_c (n : Int) (v : Value) (cs : List (List Int)) (E : Int) (hE : callsE n cs = E) (w : World) (hr : CallsIs w v cs) :
    Calls Tryd.prog 16 #[.int .i64 n, v] w fun e w' => e = .returned (.int .i64 E) ∧ Below w.heap.size w w' := by
  have HE : Hid (callsE n cs = E) := hE
  clear hE
  obtain ⟨hlen, p, cap, rfl, hrow⟩ := hr.parts
  have HRow : Hid (cs ≠ [] → ∃ b o, p = some ⟨b, o, none⟩ ∧ b < w.heap.size ∧ ∀ j (h : j < cs.length), ∃ u, w.cell? ⟨b, o + j, none⟩ = some u ∧ IntsIs w u cs[j]) := hrow
  clear hrow hr
  obtain ⟨N, HN⟩ : ∃ N, Hid (cs.length = N) := ⟨_, rfl⟩
  rw [HN.out] at hlen ⊢
  have hn63 : N ≤ 9223372036854775807 := hlen
  by_cases h1 : n < 1
  · have HE2 : Hid (E = 1) := by show E = 1; rw [← HE.out, callsE, if_neg (by simp [inR]; omega)]
    go_enter Tryd.func16, Tryd.ntmps16
    go_wp2_with fail
    go_ret
    exact ⟨by rw [HE2.out] <;> rfl, Below.refl _ _⟩
  · by_cases h6 : 6 < n
    · have HE2 : Hid (E = 1) := by show E = 1; rw [← HE.out, callsE, if_neg (by simp [inR]; omega)]
      go_enter Tryd.func16, Tryd.ntmps16
      go_wp2_with fail
      go_ret
      exact ⟨by rw [HE2.out] <;> rfl, Below.refl _ _⟩
    · have hb : inR n 1 6 = true := by simp [inR]; omega
      by_cases h40 : 40 < N
      · have HE2 : Hid (E = 4) := by show E = 4; rw [← HE.out, callsE, if_pos hb, if_pos (by rw [HN.out]; exact h40)]
        have h40i : (40 : Int) < (N : Int) := by omega
        clear hb
        go_enter Tryd.func16, Tryd.ntmps16
        go_wp2_with fail
        go_ret
        exact ⟨by rw [HE2.out] <;> rfl, Below.refl _ _⟩
      · have HE2 : Hid (firstE n cs = E) := by show _ = E; rw [← HE.out, callsE, if_pos hb, if_neg (by rw [HN.out]; exact h40)]
        have h40i : ¬ (40 : Int) < (N : Int) := by omega
        clear hb
        go_enter Tryd.func16, Tryd.ntmps16
        go_wp2_with fail
        go_loopw [5] (fun i wr => ∃ j : Nat, j ≤ N ∧ i = .int .i64 j ∧ Hid (firstE n (cs.drop j) = E) ∧ Hid (Below w.heap.size w wr)) (fun i _ => N - (intOf i).toNat)
        case atStart => exact ⟨0, Nat.zero_le _, rfl, HE2, Below.refl _ _⟩
        case round =>
          obtain ⟨j, hj, rfl, HJ, HBl⟩ := hrel
          by_cases hlt : j < N
          · have hlti : (j : Int) < (N : Int) := by omega
            have hjl : j < cs.length := by rw [HN.out]; exact hlt
            obtain ⟨b, o, rfl, hbw, hat⟩ := HRow.out (fun h => by simp [h] at hjl)
            obtain ⟨u, hu, hru⟩ := hat j hjl
            have c0 : wr.cell? ⟨b, o + j, none⟩ = some u := (World.cell?_of_block (a := ⟨b, o + j, none⟩) (HBl.out.block b hbw)).trans hu
            have HU : Hid (IntsIs wr u cs[j]) := hru.below HBl.out
            clear hat hu hru
            have HJ2 : Hid ((if callE n cs[j] = 0 then firstE n (cs.drop (j + 1)) else callE n cs[j]) = E) := by
              have := HJ.out
              rw [firstE_drop hjl] at this
              exact this
            obtain ⟨c, HC⟩ : ∃ c, Hid (cs[j] = c) := ⟨cs[j], show cs[j] = cs[j] from rfl⟩
            rw [HC.out] at HU HJ2
            obtain ⟨_, pu, cu, rfl, hrowu⟩ := HU.out
            have HRu : Hid _ := hrowu
            clear hrowu HU
            obtain ⟨m, HM⟩ : ∃ m, Hid (c.length = m) := ⟨_, rfl⟩
            rw [HM.out] at c0
            by_cases h2 : m = 2
            · subst h2
              obtain ⟨x, y, rfl⟩ : ∃ x y, c = [x, y] := by
                match c, HM.out with
                | [x, y], _ => exact ⟨x, y, rfl⟩
              obtain ⟨bu, ou, rfl, hbu, hcu⟩ := HRu.out (by simp)
              have x0 : wr.cell? ⟨bu, ou, none⟩ = some (.int .i64 x) := hcu 0 (by simp)
              have y0 : wr.cell? ⟨bu, ou + 1, none⟩ = some (.int .i64 y) := hcu 1 (by simp)
              clear hcu HRu
              have HAny := any_two x y n
              by_cases q1 : x < 0
              · have HJ3 : Hid (E = 1) := by
                  show E = 1
                  rw [← HJ2.out, callE, if_pos (show [x, y].length = 2 from rfl), HAny]
                  simp [q1]
                clear HAny
                go_wp2_with fail
                go_ret
                exact ⟨by rw [HJ3.out] <;> rfl, HBl.out⟩
              · by_cases q2 : n ≤ x
                · have HJ3 : Hid (E = 1) := by
                    show E = 1
                    rw [← HJ2.out, callE, if_pos (show [x, y].length = 2 from rfl), HAny]
                    simp [q2]
                  clear HAny
                  go_wp2_with fail
                  go_ret
                  exact ⟨by rw [HJ3.out] <;> rfl, HBl.out⟩
                · by_cases q3 : y < 0
                  · have HJ3 : Hid (E = 1) := by
                      show E = 1
                      rw [← HJ2.out, callE, if_pos (show [x, y].length = 2 from rfl), HAny]
                      simp [q3]
                    clear HAny
                    go_wp2_with fail
                    go_ret
                    exact ⟨by rw [HJ3.out] <;> rfl, HBl.out⟩
                  · by_cases q4 : n ≤ y
                    · have HJ3 : Hid (E = 1) := by
                        show E = 1
                        rw [← HJ2.out, callE, if_pos (show [x, y].length = 2 from rfl), HAny]
                        simp [q4]
                      clear HAny
                      go_wp2_with fail
                      go_ret
                      exact ⟨by rw [HJ3.out] <;> rfl, HBl.out⟩
                    · have HF : Hid (callE n [x, y] = if x = y then 3 else 0) := by
                        show _ = _
                        rw [callE, if_pos (show [x, y].length = 2 from rfl), HAny, if_neg (by simp [q1, q2, q3, q4])]
                        rfl
                      clear HAny
                      rw [HF.out] at HJ2
                      by_cases q5 : x = y
                      · have HJ3 : Hid (E = 3) := by
                          have := HJ2.out
                          rw [if_pos q5] at this
                          show E = 3
                          rw [← this, if_neg (by omega)]
                        have hb5 : (x == y) = true := by simpa using q5
                        clear q5
                        go_upto_region 13 with fail
                        go_quiet (fail)
                        go_wp2_with fail
                        go_ret
                        exact ⟨by rw [HJ3.out] <;> rfl, HBl.out.trans (below_drewN _ _ _)⟩
                      · have HJ3 : Hid (firstE n (cs.drop (j + 1)) = E) := by
                          have := HJ2.out
                          rw [if_neg q5, if_pos rfl] at this
                          exact this
                        have hb5 : (x == y) = false := by simpa using q5
                        clear q5
                        go_upto_region 13 with fail
                        go_quiet (fail)
                        go_wp2_with fail
                        go_roundw
                        case rel => exact ⟨j + 1, by omega, by go_num, HJ3, HBl.out.trans (below_drewN _ _ _)⟩
                        case measure => simp [intOf]; omega
            · have HJ3 : Hid (E = 3) := by
                have hc3 : callE n c = 3 := by rw [callE, if_neg (by rw [HM.out]; exact h2)]
                show E = 3
                rw [← HJ2.out, hc3, if_neg (by omega)]
              have h2i : ((m : Int) != 2) = true := by simp; omega
              clear h2
              go_wp2_with fail
              go_ret
              exact ⟨by rw [HJ3.out] <;> rfl, HBl.out⟩
          · obtain rfl : j = N := by omega
            have HJ2 : Hid (E = 0) := by
              have := HJ.out
              rw [List.drop_eq_nil_of_le (by rw [HN.out]; exact Nat.le_refl _)] at this
              exact this.symm
            go_wp2_with fail
            go_ret
            exact ⟨by rw [HJ2.out] <;> rfl, HBl.out⟩
set_option maxRecDepth 100000 in
set_option maxHeartbeats 32000000 in
theorem rPlay_c (n : Nat) (v : Value) (cs : List (List Int)) (hE : callsE n cs = 0) (w : World) (hr : CallsIs w v cs) :
    Calls Tryd.prog 17 #[.int .i64 n, v] w fun e w' => e = .returned (ag36 (gridO (knowG n cs))) ∧ Below w.heap.size w w' := by
  obtain ⟨⟨k, hk, hk1, hk6⟩, h40, hok⟩ := callsE_ok hE
  obtain rfl : k = n := by omega
  have HOk : Hid (∀ c ∈ cs, callE k c = 0) := hok
  obtain ⟨hlen, p, cap, rfl, hrow⟩ := hr.parts
  have HRow : Hid (cs ≠ [] → ∃ b o, p = some ⟨b, o, none⟩ ∧ b < w.heap.size ∧ ∀ j (h : j < cs.length), ∃ u, w.cell? ⟨b, o + j, none⟩ = some u ∧ IntsIs w u cs[j]) := hrow
  clear hE hr hrow hok hk
  obtain ⟨N, HN⟩ : ∃ N, Hid (cs.length = N) := ⟨_, rfl⟩
  rw [HN.out] at hlen h40 ⊢
  go_enter Tryd.func17, Tryd.ntmps17
  go_upto_region 2 with fail
  show Code.wp _ _ _ _ (box36 (box36 w (fun _ => false)) (fun _ => false))
  have G1 : Hid (GridAt (box36 (box36 w (fun _ => false)) (fun _ => false)) w.heap.size (fun _ => false)) := (box36_grid w _ rfl _).grown (box36_below _ _)
  have G2 : Hid (GridAt (box36 (box36 w (fun _ => false)) (fun _ => false)) (w.heap.size + 1) (fun _ => false)) := box36_grid _ _ (by rw [box36_size]) _
  have B0 : Hid (Below w.heap.size w (box36 (box36 w (fun _ => false)) (fun _ => false))) := (box36_below w _).trans ((box36_below _ _).mono (by rw [box36_size]; omega))
  generalize box36 (box36 w (fun _ => false)) (fun _ => false) = w0 at G1 G2 B0 ⊢
  obtain ⟨g, HG⟩ : ∃ g, Hid (w.heap.size + 1 = g) := ⟨_, rfl⟩
  rw [HG.out] at G2 ⊢
  go_wp2_with fail
  go_loopw [6] (fun i wr => ∃ j : Nat, j ≤ k ∧ i = .int .i64 j ∧ Hid (GridAt wr w.heap.size (fun _ => false)) ∧ Hid (GridAt wr g (fun q => decide (q / 6 < j) && decide (q / 6 = q % 6))) ∧ Hid (Below w.heap.size w wr)) (fun i _ => k - (intOf i).toNat)
  case atStart => exact ⟨0, Nat.zero_le _, rfl, G1, G2.out.to (fun q _ => by simp), B0⟩
  case round =>
    obtain ⟨j, hj, rfl, HR, HK, HB⟩ := hrel
    clear G1 G2 B0
    by_cases hlt : j < k
    · have hlti : (j : Int) < (k : Int) := by omega
      have hj6 : (j : Int) < 6 := by omega
      have c0 := HK.out.cell (j * 6 + j) (by omega)
      have cf := HK.out.fz (j * 6 + j)
      have hgl := HK.out.lt
      have HKp : Hid (GridAt (wr.setCell ⟨g, j * 6 + j, none⟩ (.bool true)) g (fun q => decide (q / 6 < j + 1) && decide (q / 6 = q % 6))) := (HK.out.set (j * 6 + j) (by omega) true).to (fun q _ => by
        by_cases e : q = j * 6 + j
        · rw [if_pos e]
          simp
          omega
        · rw [if_neg e, Bool.eq_iff_iff]
          simp
          omega)
      have HRp : Hid (GridAt (wr.setCell ⟨g, j * 6 + j, none⟩ (.bool true)) w.heap.size (fun _ => false)) := HR.out.other _ (by have := HG.out; show w.heap.size ≠ g; omega) _
      have HBp : Hid (Below w.heap.size w (wr.setCell ⟨g, j * 6 + j, none⟩ (.bool true))) := HB.out.setCell (by have := HG.out; show w.heap.size ≤ g; omega) _
      generalize (decide ((j * 6 + j) / 6 < j) && decide ((j * 6 + j) / 6 = (j * 6 + j) % 6)) = z at c0
      clear HK HR HB
      go_wp2_with fail
      go_roundw
      case rel => exact ⟨j + 1, by omega, by go_num, HRp, HKp, HBp⟩
      case measure => simp [intOf]; omega
    · obtain rfl : j = k := by omega
      have K0 : Hid (GridAt wr g (gridO (knowG j (cs.take 0)))) := HK.out.to (fun q _ => grid_own j j (Nat.le_refl _) q)
      have R0 : Hid (GridAt wr w.heap.size (fun _ => false)) := HR
      have B0 : Hid (Below w.heap.size w wr) := HB
      clear HK HR HB
      obtain ⟨w3, hren⟩ : ∃ x, x = wr := ⟨_, rfl⟩
      subst hren
      go_wp2_with fail
      go_loopw [7] (fun i wr => ∃ q : Nat, q ≤ N ∧ i = .int .i64 q ∧ Hid (GridAt wr w.heap.size (fun _ => false)) ∧ Hid (GridAt wr g (gridO (knowG j (cs.take q)))) ∧ Hid (Below w.heap.size w wr)) (fun i _ => N - (intOf i).toNat)
      case atStart => exact ⟨0, Nat.zero_le _, rfl, R0, K0, B0⟩
      case round =>
        obtain ⟨q, hq, rfl, HR, HK, HB⟩ := hrel
        clear R0 K0 B0
        by_cases hqn : q < N
        · have hqi : (q : Int) < (N : Int) := by omega
          have hql : q < cs.length := by rw [HN.out]; exact hqn
          obtain ⟨b, o, rfl, hbw, hat⟩ := HRow.out (fun h => by simp [h] at hql)
          obtain ⟨u, hu, hru⟩ := hat q hql
          have c0 : wr.cell? ⟨b, o + q, none⟩ = some u := (World.cell?_of_block (a := ⟨b, o + q, none⟩) (HB.out.block b hbw)).trans hu
          obtain ⟨hokq, hcq⟩ := callE_pair (HOk.out cs[q] (List.getElem_mem hql))
          have HT : Hid (knowG j (cs.take (q + 1)) = stepG (knowG j (cs.take q)) (pairC cs[q])) := knowG_take hql
          obtain ⟨⟨x, y⟩, hxy⟩ : ∃ c, c = pairC cs[q] := ⟨_, rfl⟩
          rw [← hxy] at hokq HT
          rw [hcq, ← hxy] at hru
          clear hat hu hcq hxy
          obtain ⟨_, pu, cu, rfl, hrowu⟩ := hru
          obtain ⟨bu, ou, rfl, hbu, hcu⟩ := hrowu (by simp)
          have x0 : wr.cell? ⟨bu, ou, none⟩ = some (.int .i64 (x : Nat)) := (World.cell?_of_block (a := ⟨bu, ou, none⟩) (HB.out.block bu hbu)).trans (hcu 0 (by simp))
          have y0 : wr.cell? ⟨bu, ou + 1, none⟩ = some (.int .i64 (y : Nat)) := (World.cell?_of_block (a := ⟨bu, ou + 1, none⟩) (HB.out.block bu hbu)).trans (hcu 1 (by simp))
          clear hcu hrowu
          obtain ⟨hx, hy, hnxy⟩ := hokq
          dsimp only at hx hy hnxy
          have HSl : Hid ((knowG j (cs.take q)).length = j) := knowG_len _ _
          have HSm : Hid (smallG j (knowG j (cs.take q))) := knowG_small _ _
          generalize knowG j (cs.take q) = s at HK HT HSl HSm
          have HCol : Hid (∀ t, t < 6 → ∀ k, (if k = y * 6 + t then (gridO s (x * 6 + t) || gridO s (y * 6 + t)) else if k = x * 6 + t then (gridO s (x * 6 + t) || gridO s (y * 6 + t)) else if k % 6 < t then gridO (stepG s (x, y)) k else gridO s k) = if k % 6 < t + 1 then gridO (stepG s (x, y)) k else gridO s k) := fun t ht k => grid_col (by rw [HSl.out]; exact hx) (by rw [HSl.out]; exact hy) hnxy ht k
          have HFin : Hid (∀ k, k < 36 → (if k % 6 < j then gridO (stepG s (x, y)) k else gridO s k) = gridO (knowG j (cs.take (q + 1))) k) := by
            intro k _
            rw [HT.out]
            by_cases h : k % 6 < j
            · rw [if_pos h]
            · rw [if_neg h]
              rw [grid_out HSm.out (by omega), grid_out (stepG_small (x, y) HSm.out) (by omega)]
          have K1 : Hid (GridAt wr g (fun k => if k % 6 < 0 then gridO (stepG s (x, y)) k else gridO s k)) := HK.out.to (fun k _ => by simp)
          have R1 : Hid (GridAt wr w.heap.size (fun _ => false)) := HR
          have B1 : Hid (Below w.heap.size w wr) := HB
          clear HK HR HB HT
          obtain ⟨w4, hren⟩ : ∃ x, x = wr := ⟨_, rfl⟩
          subst hren
          have hxi : (x : Int) < 6 := by omega
          have hyi : (y : Int) < 6 := by omega
          go_wp2_with fail
          clear c0 x0 y0
          go_loopw [10] (fun i wr => ∃ t : Nat, t ≤ j ∧ i = .int .i64 t ∧ Hid (GridAt wr w.heap.size (fun _ => false)) ∧ Hid (GridAt wr g (fun k => if k % 6 < t then gridO (stepG s (x, y)) k else gridO s k)) ∧ Hid (Below w.heap.size w wr)) (fun i _ => j - (intOf i).toNat)
          case atStart => exact ⟨0, Nat.zero_le _, rfl, R1, K1, B1⟩
          case round =>
            obtain ⟨t, ht, rfl, HR, HK, HB⟩ := hrel
            clear R1 K1 B1
            by_cases htk : t < j
            · have hti : (t : Int) < (j : Int) := by omega
              have ht6 : (t : Int) < 6 := by omega
              have kx := HK.out.cell (x * 6 + t) (by omega)
              have ky := HK.out.cell (y * 6 + t) (by omega)
              rw [if_neg (by omega)] at kx ky
              have fx := HK.out.fz (x * 6 + t)
              have fy := HK.out.fz (y * 6 + t)
              have hgl := HK.out.lt
              have HC := HCol.out t (by omega)
              have hpn : ¬ ((⟨g, x * 6 + t, none⟩ : Addr) = ⟨g, y * 6 + t, none⟩) := fun h => by
                injection h with _ h2
                omega
              obtain ⟨X, HX⟩ : ∃ X, Hid (gridO s (x * 6 + t) = X) := ⟨_, rfl⟩
              obtain ⟨Y, HY⟩ : ∃ Y, Hid (gridO s (y * 6 + t) = Y) := ⟨_, rfl⟩
              rw [HX.out] at kx HC
              rw [HY.out] at ky HC
              have HKp : Hid (GridAt ((wr.setCell ⟨g, x * 6 + t, none⟩ (.bool (X || Y))).setCell ⟨g, y * 6 + t, none⟩ (.bool (X || Y))) g (fun k => if k % 6 < t + 1 then gridO (stepG s (x, y)) k else gridO s k)) := ((HK.out.set (x * 6 + t) (by omega) (X || Y)).set (y * 6 + t) (by omega) (X || Y)).to (fun k _ => HC k)
              have HRp : Hid (GridAt ((wr.setCell ⟨g, x * 6 + t, none⟩ (.bool (X || Y))).setCell ⟨g, y * 6 + t, none⟩ (.bool (X || Y))) w.heap.size (fun _ => false)) := (HR.out.other _ (by have := HG.out; show w.heap.size ≠ g; omega) _).other _ (by have := HG.out; show w.heap.size ≠ g; omega) _
              have HBp : Hid (Below w.heap.size w ((wr.setCell ⟨g, x * 6 + t, none⟩ (.bool (X || Y))).setCell ⟨g, y * 6 + t, none⟩ (.bool (X || Y)))) := (HB.out.setCell (by have := HG.out; show w.heap.size ≤ g; omega) _).setCell (by have := HG.out; show w.heap.size ≤ g; omega) _
              clear HC HK HR HB
              cases X
              · rw [Bool.false_or] at HKp HRp HBp
                go_wp2_with fail
                go_roundw
                case rel => exact ⟨t + 1, by omega, by go_num, HRp, HKp, HBp⟩
                case measure => simp [intOf]; omega
              · rw [Bool.true_or] at HKp HRp HBp
                go_wp2_with fail
                go_roundw
                case rel => exact ⟨t + 1, by omega, by go_num, HRp, HKp, HBp⟩
                case measure => simp [intOf]; omega
            · obtain rfl : t = j := by omega
              have K9 : Hid (GridAt wr g (gridO (knowG t (cs.take (q + 1))))) := HK.out.to HFin.out
              clear HK
              go_wp2_with fail
              go_roundw
              case rel => exact ⟨q + 1, by omega, by go_num, HR, K9, HB⟩
              case measure => simp [intOf]; omega
        · obtain rfl : q = N := by omega
          have K9 : Hid (GridAt wr g (gridO (knowG j cs))) := by
            have := HK
            rw [List.take_of_length_le (by rw [HN.out]; exact Nat.le_refl _)] at this
            exact this
          obtain ⟨O, HO⟩ : ∃ O, Hid (gridO (knowG j cs) = O) := ⟨_, rfl⟩
          rw [HO.out] at K9
          have hK := K9.out.row
          obtain ⟨old, hR, hRs⟩ := HR.out.obj
          have HOld : Hid (old.size = (rowB O).size) := by show _ = _; rw [rowB_size]; exact hRs
          have HI36 : Hid ((Tryd.prog.info? 29).map (·.size) = some (rowB O).size) := by show _ = _; rw [rowB_size]; kernel_rfl
          have B2 : Hid (Below w.heap.size w (wr.setRow w.heap.size (rowB O))) := below_setRow HB.out (Nat.le_refl _) _
          have S2 : Hid ((wr.setRow w.heap.size (rowB O)).heap[w.heap.size]? = some (.cells (rowB O) 29 (0, 0))) := setRow_at hR _
          clear hRs HK K9 HR HB HRow HOk
          go_wp2_with (first | (refine wpList_load_row rfl 29 _ rfl g rfl 29 (rowB O) (0, 0) _ hK Tryd.underlying29 rfl HI36.out ?_) | (refine wpList_store_row rfl 29 _ _ rfl w.heap.size (rowB O) rfl rfl 29 old hR HI36.out HOld.out (rowB_one O) ?_))
          refine bodyPost_ret (v := ag36 O) (results_cell_row Tryd.results17 _ _ w.heap.size 29 (rowB O) (0, 0) _ rfl S2.out Tryd.underlying29 rfl HI36.out) rfl ?_
          exact ⟨by rw [HO.out], B2.out⟩
end Go.Proofs.YtnffnmmhbnljcahDoor
