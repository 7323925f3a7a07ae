/-
  meresame.Ints and mereref1.In by their contracts.
-/
import Derived.Test.YtliaidgedjjobaaDoorTbI
import Derived.BigQuiet
namespace Go.Proofs.YtliaidgedjjobaaDoor
set_option linter.unusedVariables false
set_option linter.unusedSimpArgs false
open Go.RowKit

theorem eqI_step {a b : List Int} {j : Nat} (ha : j < a.length) (hb : j < b.length) : (a.drop j == b.drop j) = ((a[j] == b[j]) && (a.drop (j + 1) == b.drop (j + 1))) := by
  rw [List.drop_eq_getElem_cons ha, List.drop_eq_getElem_cons hb]
  rfl
theorem eqI_len {a b : List Int} (h : a.length ≠ b.length) : (a == b) = false := by
  rw [beq_eq_false_iff_ne]
  intro h'
  exact h (by rw [h'])

set_option maxHeartbeats 4000000 in
theorem ints_c (va vb : Value) (a b : List Int) (w : World) (hra : IntsIs w va a) (hrb : IntsIs w vb b) :
    Calls Tryd.prog 14 #[va, vb] w fun e w' => e = .returned (.bool (a == b)) ∧ Below w.heap.size w w' := by
  obtain ⟨hla, pa, capa, rfl, hrowa⟩ := hra
  obtain ⟨hlb, pb, capb, rfl, hrowb⟩ := hrb
  by_cases hl : a.length = b.length
  · have HRA : Hid (a ≠ [] → ∃ bb o, pa = some ⟨bb, o, none⟩ ∧ bb < w.heap.size ∧ ∀ j (h : j < a.length), w.cell? ⟨bb, o + j, none⟩ = some (.int .i64 a[j])) := hrowa
    have HRB : Hid (b ≠ [] → ∃ bb o, pb = some ⟨bb, o, none⟩ ∧ bb < w.heap.size ∧ ∀ j (h : j < b.length), w.cell? ⟨bb, o + j, none⟩ = some (.int .i64 b[j])) := hrowb
    clear hrowa hrowb
    have HL : Hid (a.length = b.length) := hl
    obtain ⟨n, HN⟩ : ∃ n, Hid (a.length = n) := ⟨_, rfl⟩
    have HNb : Hid (b.length = n) := HL.out.symm.trans HN.out
    rw [HN.out] at hla ⊢
    rw [HNb.out] at hlb ⊢
    have hn63 : n ≤ 9223372036854775807 := hla
    clear hl
    obtain ⟨R, HR⟩ : ∃ R, Hid ((a == b) = R) := ⟨_, rfl⟩
    rw [HR.out]
    go_enter Tryd.func14, Tryd.ntmps14
    go_wp2_with fail
    go_loopw [5] (fun i wr => ∃ j : Nat, j ≤ n ∧ i = .int .i64 j ∧ Hid (R = (a.drop j == b.drop j)) ∧ Hid (Below w.heap.size w wr)) (fun i _ => n - (intOf i).toNat)
    case atStart => exact ⟨0, Nat.zero_le _, rfl, by rw [List.drop_zero, List.drop_zero]; exact HR.out.symm, Below.refl _ _⟩
    case round =>
      obtain ⟨j, hj, rfl, HE, HB⟩ := hrel
      by_cases hlt : j < n
      · have hja : j < a.length := by rw [HN.out]; exact hlt
        have hjb : j < b.length := by rw [HNb.out]; exact hlt
        obtain ⟨ba, oa, rfl, hbwa, hata⟩ := HRA.out (fun h => by simp [h] at hja)
        obtain ⟨bb, ob, rfl, hbwb, hatb⟩ := HRB.out (fun h => by simp [h] at hjb)
        have c0 : wr.cell? ⟨ba, oa + j, none⟩ = some (.int .i64 a[j]) := (World.cell?_of_block (a := ⟨ba, oa + j, none⟩) (HB.out.block ba hbwa)).trans (hata j hja)
        have d0 : wr.cell? ⟨bb, ob + j, none⟩ = some (.int .i64 b[j]) := (World.cell?_of_block (a := ⟨bb, ob + j, none⟩) (HB.out.block bb hbwb)).trans (hatb j hjb)
        clear hata hatb
        have HStep : Hid (R = ((a[j] == b[j]) && (a.drop (j + 1) == b.drop (j + 1)))) := HE.out.trans (eqI_step hja hjb)
        obtain ⟨x, HX⟩ : ∃ x, Hid (a[j] = x) := ⟨a[j], show a[j] = a[j] from rfl⟩
        obtain ⟨y, HY⟩ : ∃ y, Hid (b[j] = y) := ⟨b[j], show b[j] = b[j] from rfl⟩
        rw [HX.out] at c0 HStep
        rw [HY.out] at d0 HStep
        have hlti : (j : Int) < (n : Int) := by omega
        by_cases hs : x = y
        · have hsb : (x == y) = true := by simp [hs]
          rw [hsb] at HStep
          have hsn : (x != y) = false := by simp [hs]
          go_upto_region 6 with fail
          go_quiet (fail)
          go_wp2_with fail
          go_roundw
          case rel => exact ⟨j + 1, by omega, by go_num, HStep.out.trans (by rw [Bool.true_and]), HB.out.trans (below_drewN _ _ _)⟩
          case measure => simp [intOf]; omega
        · have hsb : (x == y) = false := by simp [hs]
          rw [hsb] at HStep
          go_upto_region 6 with fail
          go_quiet (fail)
          go_wp2_with fail
          go_ret
          refine ⟨by rw [HStep.out]; rfl, HB.out.trans (below_drewN _ _ _)⟩
      · obtain rfl : j = n := by omega
        have HR0 : Hid (R = true) := by
          show R = true
          rw [HE.out, List.drop_eq_nil_of_le (by rw [HN.out]; exact Nat.le_refl _), List.drop_eq_nil_of_le (by rw [HNb.out]; exact Nat.le_refl _)]
          rfl
        go_wp2_with fail
        go_ret
        exact ⟨by rw [HR0.out]; rfl, HB.out⟩
  · rw [eqI_len hl]
    clear hrowa hrowb
    have hli : ¬ ((a.length : Int) = (b.length : Int)) := by omega
    generalize a.length = n at *
    generalize b.length = m at *
    go_enter Tryd.func14, Tryd.ntmps14
    go_wp2_with fail
    go_ret
    exact ⟨rfl, Below.refl _ _⟩

theorem hasI_hit {a : List Int} {x : Int} {j : Nat} (h : j < a.length) (hx : a[j] = x) : (a.drop j).contains x = true := by
  rw [List.drop_eq_getElem_cons h, List.contains_cons, hx]
  simp
theorem hasI_miss {a : List Int} {x : Int} {j : Nat} (h : j < a.length) (hx : ¬ a[j] = x) : (a.drop j).contains x = (a.drop (j + 1)).contains x := by
  rw [List.drop_eq_getElem_cons h, List.contains_cons]
  have : (x == a[j]) = false := by simp; exact fun h => hx h.symm
  rw [this, Bool.false_or]

set_option maxHeartbeats 4000000 in
theorem in_c (va : Value) (a : List Int) (x : Int) (w : World) (hra : IntsIs w va a) :
    Calls Tryd.prog 34 #[va, .int .i64 x] w fun e w' => e = .returned (.bool (a.contains x)) ∧ Below w.heap.size w w' := by
  obtain ⟨hla, pa, capa, rfl, hrowa⟩ := hra
  have HRA : Hid (a ≠ [] → ∃ bb o, pa = some ⟨bb, o, none⟩ ∧ bb < w.heap.size ∧ ∀ j (h : j < a.length), w.cell? ⟨bb, o + j, none⟩ = some (.int .i64 a[j])) := hrowa
  clear hrowa
  obtain ⟨n, HN⟩ : ∃ n, Hid (a.length = n) := ⟨_, rfl⟩
  rw [HN.out] at hla ⊢
  have hn63 : n ≤ 9223372036854775807 := hla
  obtain ⟨R, HR⟩ : ∃ R, Hid (a.contains x = R) := ⟨_, rfl⟩
  rw [HR.out]
  go_enter Tryd.func34, Tryd.ntmps34
  go_wp2_with fail
  go_loopw [5] (fun i wr => ∃ j : Nat, j ≤ n ∧ i = .int .i64 j ∧ Hid (R = (a.drop j).contains x) ∧ Hid (Below w.heap.size w wr)) (fun i _ => n - (intOf i).toNat)
  case atStart => exact ⟨0, Nat.zero_le _, rfl, by rw [List.drop_zero]; exact HR.out.symm, Below.refl _ _⟩
  case round =>
    obtain ⟨j, hj, rfl, HE, HB⟩ := hrel
    by_cases hlt : j < n
    · have hja : j < a.length := by rw [HN.out]; exact hlt
      obtain ⟨ba, oa, rfl, hbwa, hata⟩ := HRA.out (fun h => by simp [h] at hja)
      have c0 : wr.cell? ⟨ba, oa + j, none⟩ = some (.int .i64 a[j]) := (World.cell?_of_block (a := ⟨ba, oa + j, none⟩) (HB.out.block ba hbwa)).trans (hata j hja)
      clear hata
      have HHit : Hid (a[j] = x → R = true) := fun h => HE.out.trans (hasI_hit hja h)
      have HMiss : Hid (¬ a[j] = x → R = (a.drop (j + 1)).contains x) := fun h => HE.out.trans (hasI_miss hja h)
      obtain ⟨y, HY⟩ : ∃ y, Hid (a[j] = y) := ⟨a[j], show a[j] = a[j] from rfl⟩
      rw [HY.out] at c0 HHit HMiss
      have hlti : (j : Int) < (n : Int) := by omega
      by_cases hs : y = x
      · have HRt : Hid (R = true) := HHit.out hs
        go_wp2_with fail
        go_ret
        exact ⟨by rw [HRt.out]; rfl, by have hb := HB.out; go_grown⟩
      · have HRt : Hid (R = (a.drop (j + 1)).contains x) := HMiss.out hs
        go_wp2_with fail
        go_roundw
        case rel => exact ⟨j + 1, by omega, by go_num, HRt, HB⟩
        case measure => simp [intOf]; omega
    · obtain rfl : j = n := by omega
      have HR0 : Hid (R = false) := by
        show R = false
        rw [HE.out, List.drop_eq_nil_of_le (by rw [HN.out]; exact Nat.le_refl _)]
        rfl
      go_wp2_with fail
      go_ret
      exact ⟨by rw [HR0.out]; rfl, HB.out⟩
end Go.Proofs.YtliaidgedjjobaaDoor
