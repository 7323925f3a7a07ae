/-
  meresame.Cache by its contract: whether two rows are the same.
-/
import Derived.Test.YtliaidgedjjobaaDoorJoinN
import Derived.BigQuiet
namespace Go.Proofs.YtliaidgedjjobaaDoor
set_option linter.unusedVariables false
set_option linter.unusedSimpArgs false
open Go.RowKit

def sameL : List En → List En → Bool
  | [], [] => true
  | x :: a, y :: b => x.same y && sameL a b
  | _, _ => false
theorem En.same_iff {x y : En} : x.same y = true ↔ x = y := by
  constructor
  · intro h
    simp [En.same] at h
    exact En.eqs h.1 h.2.1 h.2.2.1 h.2.2.2.1 (bytes_inj h.2.2.2.2)
  · rintro rfl
    exact En.same_self x
theorem sameL_iff {a b : List En} : sameL a b = true ↔ a = b := by
  induction a generalizing b with
  | nil => cases b <;> simp [sameL]
  | cons x a ih => cases b <;> simp [sameL, ih, En.same_iff]
theorem sameL_len {a b : List En} (h : a.length ≠ b.length) : sameL a b = false := by
  cases hs : sameL a b
  · rfl
  · exact absurd (by rw [sameL_iff.1 hs]) h
theorem sameL_step {a b : List En} {j : Nat} (ha : j < a.length) (hb : j < b.length) : sameL (a.drop j) (b.drop j) = (a[j].same b[j] && sameL (a.drop (j + 1)) (b.drop (j + 1))) := by
  rw [List.drop_eq_getElem_cons ha, List.drop_eq_getElem_cons hb, sameL]

theorem neq_cellsS (x0 x1 x2 : Int) (x3 : Bool) (x4 : ByteArray) (y0 y1 y2 : Int) (y3 : Bool) (y4 : ByteArray) (b : Bool) (h : En.same ⟨x0, x1, x2, x3, x4⟩ ⟨y0, y1, y2, y3, y4⟩ = b) (w : World) : (binOp .neq 26 (.agg #[.int .i64 x0, .int .i64 x1, .int .i64 x2, .bool x3, .string x4]) (.agg #[.int .i64 y0, .int .i64 y1, .int .i64 y2, .bool y3, .string y4])).run Tryd.prog w = .ok (.bool !b) w := by
  have h1 := eql_enIn ⟨x0, x1, x2, x3, x4⟩ ⟨y0, y1, y2, y3, y4⟩ w
  rw [h] at h1
  unfold En.val at h1
  rw [run_neq_struct, h1]
  rfl
theorem below_drewS (B : Nat) (w : World) (n : Nat) : Below B w (w.drewN n) := ⟨rfl, rfl, rfl, Nat.le_refl _, fun _ _ => rfl⟩

set_option maxHeartbeats 4000000 in
theorem same_c (va vb : Value) (a b : List En) (w : World) (hra : RowIs w va a) (hrb : RowIs w vb b) :
    Calls Tryd.prog 41 #[va, vb] w fun e w' => e = .returned (.bool (sameL a b)) ∧ Below w.heap.size w w' := by
  obtain ⟨hla, pa, capa, rfl, hrowa⟩ := hra
  obtain ⟨hlb, pb, capb, rfl, hrowb⟩ := hrb
  by_cases hl : a.length = b.length
  · have HRA : Hid (a ≠ [] → ∃ bb o, pa = some ⟨bb, o, none⟩ ∧ bb < w.heap.size ∧ ∀ j (h : j < a.length), EnAt w bb (o + j * 5) a[j]) := hrowa
    have HRB : Hid (b ≠ [] → ∃ bb o, pb = some ⟨bb, o, none⟩ ∧ bb < w.heap.size ∧ ∀ j (h : j < b.length), EnAt w bb (o + j * 5) b[j]) := hrowb
    clear hrowa hrowb
    have HL : Hid (a.length = b.length) := hl
    obtain ⟨n, HN⟩ : ∃ n, Hid (a.length = n) := ⟨_, rfl⟩
    have HNb : Hid (b.length = n) := HL.out.symm.trans HN.out
    rw [HN.out] at hla ⊢
    rw [HNb.out] at hlb ⊢
    have hn63 : n ≤ 9223372036854775807 := hla
    clear hl
    obtain ⟨R, HR⟩ : ∃ R, Hid (sameL a b = R) := ⟨_, rfl⟩
    rw [HR.out]
    have hgd := eqGuard_en
    go_enter Tryd.func41, Tryd.ntmps41
    go_wp2_with fail
    go_loopw [5] (fun i wr => ∃ j : Nat, j ≤ n ∧ i = .int .i64 j ∧ Hid (R = sameL (a.drop j) (b.drop j)) ∧ Hid (Below w.heap.size w wr)) (fun i _ => n - (intOf i).toNat)
    case atStart => exact ⟨0, Nat.zero_le _, rfl, by rw [List.drop_zero, List.drop_zero]; exact HR.out.symm, Below.refl _ _⟩
    case round =>
      obtain ⟨j, hj, rfl, HE, HB⟩ := hrel
      by_cases hlt : j < n
      · have hja : j < a.length := by rw [HN.out]; exact hlt
        have hjb : j < b.length := by rw [HNb.out]; exact hlt
        obtain ⟨ba, oa, rfl, hbwa, hata⟩ := HRA.out (fun h => by simp [h] at hja)
        obtain ⟨bb, ob, rfl, hbwb, hatb⟩ := HRB.out (fun h => by simp [h] at hjb)
        have HAa : Hid (EnAt wr ba (oa + j * 5) a[j]) := (hata j hja).of_block (HB.out.block ba hbwa)
        have HAb : Hid (EnAt wr bb (ob + j * 5) b[j]) := (hatb j hjb).of_block (HB.out.block bb hbwb)
        clear hata hatb
        have HStep : Hid (R = (a[j].same b[j] && sameL (a.drop (j + 1)) (b.drop (j + 1)))) := HE.out.trans (sameL_step hja hjb)
        obtain ⟨x, HX⟩ : ∃ x, Hid (a[j] = x) := ⟨a[j], show a[j] = a[j] from rfl⟩
        obtain ⟨y, HY⟩ : ∃ y, Hid (b[j] = y) := ⟨b[j], show b[j] = b[j] from rfl⟩
        rw [HX.out] at HAa HStep
        rw [HY.out] at HAb HStep
        obtain ⟨x0, x1, x2, x3, x4⟩ := x
        obtain ⟨y0, y1, y2, y3, y4⟩ := y
        obtain ⟨sm, HS⟩ : ∃ sm, Hid (En.same ⟨x0, x1, x2, x3, x4⟩ ⟨y0, y1, y2, y3, y4⟩ = sm) := ⟨_, rfl⟩
        rw [HS.out] at HStep
        have hq := neq_cellsS x0 x1 x2 x3 x4 y0 y1 y2 y3 y4 sm HS.out
        obtain ⟨c0, c1, c2, c3, c4⟩ := HAa.out
        obtain ⟨d0, d1, d2, d3, d4⟩ := HAb.out
        dsimp only at c0 c1 c2 c3 c4 d0 d1 d2 d3 d4
        have hlti : (j : Int) < (n : Int) := by omega
        cases sm
        · go_upto_region 6 with fail
          go_quiet (fail)
          go_wp2_with fail
          go_ret
          refine ⟨by rw [HStep.out]; rfl, HB.out.trans (below_drewS _ _ _)⟩
        · go_upto_region 6 with fail
          go_quiet (fail)
          go_wp2_with fail
          go_roundw
          case rel => exact ⟨j + 1, by omega, by go_num, HStep.out.trans (by rw [Bool.true_and]), HB.out.trans (below_drewS _ _ _)⟩
          case measure => simp [intOf]; omega
      · obtain rfl : j = n := by omega
        have HR0 : Hid (R = true) := by
          show R = true
          rw [HE.out, List.drop_eq_nil_of_le (by rw [HN.out]; exact Nat.le_refl _), List.drop_eq_nil_of_le (by rw [HNb.out]; exact Nat.le_refl _)]
          rfl
        go_wp2_with fail
        go_ret
        exact ⟨by rw [HR0.out]; rfl, HB.out⟩
  · rw [sameL_len hl]
    clear hrowa hrowb
    have hli : ¬ ((a.length : Int) = (b.length : Int)) := by omega
    generalize a.length = n at *
    generalize b.length = m at *
    go_enter Tryd.func41, Tryd.ntmps41
    go_wp2_with fail
    go_ret
    exact ⟨rfl, Below.refl _ _⟩
end Go.Proofs.YtliaidgedjjobaaDoor
