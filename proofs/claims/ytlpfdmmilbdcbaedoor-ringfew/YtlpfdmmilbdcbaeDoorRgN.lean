/-
  Two points compared; slices.Compact at points that rise; meresame.Points, by their contracts.
-/
import Derived.Test.YtlpfdmmilbdcbaeDoorRgL
import Derived.Laws.StructEq
import Derived.BigQuiet
namespace Go.Proofs.YtlpfdmmilbdcbaeDoor
set_option linter.unusedVariables false
set_option linter.unusedSimpArgs false
open Go.RowKit

def Pt.same (x y : Pt) : Bool := (x.p == y.p) && (x.n == y.n)
theorem Pt.same_iff (x y : Pt) : x.same y = true ↔ x = y := by
  cases x
  cases y
  simp [Pt.same]
theorem eql_ptIn (x y : Pt) (w : World) : (Op.equalIn 10000 52 x.val y.val).run Tryd.prog w = .ok (x.same y) w := by
  unfold Pt.val
  rw [run_equalIn_agg w 9999 52 _ _ (by kernel_rfl) (by kernel_rfl)]
  simp [Op.eqFields, Program.fieldsOf, Tryd.underlying52, go_sem, Tryd.underlying3, Pt.same]
  by_cases h0 : x.p = y.p <;> by_cases h1 : x.n = y.n <;> simp [h0, h1]
theorem eql_pt (x0 x1 y0 y1 : Int) (b : Bool) (h : Pt.same ⟨x0, x1⟩ ⟨y0, y1⟩ = b) (w : World) : (binOp .eql 52 (.agg #[.int .i64 x0, .int .i64 x1]) (.agg #[.int .i64 y0, .int .i64 y1])).run Tryd.prog w = .ok (.bool b) w := by
  have h1 := eql_ptIn ⟨x0, x1⟩ ⟨y0, y1⟩ w
  rw [h] at h1
  unfold Pt.val at h1
  rw [run_eql_struct, h1]
  rfl
theorem neq_pt (x0 x1 y0 y1 : Int) (b : Bool) (h : Pt.same ⟨x0, x1⟩ ⟨y0, y1⟩ = b) (w : World) : (binOp .neq 52 (.agg #[.int .i64 x0, .int .i64 x1]) (.agg #[.int .i64 y0, .int .i64 y1])).run Tryd.prog w = .ok (.bool !b) w := by
  have h1 := eql_ptIn ⟨x0, x1⟩ ⟨y0, y1⟩ w
  rw [h] at h1
  unfold Pt.val at h1
  rw [run_neq_struct, h1]
  rfl
theorem eqGuard_pt : Tryd.prog.eqGuardType Tryd.prog.depth 52 = false := by kernel_rfl
theorem rise_unlike {l : List Pt} (h : l.Pairwise ltP) {j : Nat} (hj : j + 1 < l.length) : Pt.same l[j + 1] l[j] = false := by
  have h1 := List.pairwise_iff_getElem.1 h j (j + 1) (by omega) hj (by omega)
  cases hs : Pt.same l[j + 1] l[j]
  · rfl
  · rw [Pt.same_iff] at hs
    rw [hs] at h1
    unfold ltP at h1
    omega
set_option maxHeartbeats 4000000 in
theorem compact_c (v : Value) (l : List Pt) (w : World) (hr : PtsIs w v l) (hrise : l.Pairwise ltP) (hl : l.length ≤ 2000) :
    Calls Tryd.prog 38 #[v] w fun e w' => e = .returned v ∧ Below w.heap.size w w' := by
  obtain ⟨hlen, pp, cap, rfl, hrow⟩ := hr
  have HRow : Hid (l ≠ [] → ∃ b o, pp = some ⟨b, o, none⟩ ∧ b < w.heap.size ∧ ∀ j (h : j < l.length), PtAt w b (o + j * 2) l[j]) := hrow
  have HRise : Hid (l.Pairwise ltP) := hrise
  clear hrow hrise
  by_cases h2 : l.length < 2
  · have h2i : (l.length : Int) < 2 := by omega
    clear HRow HRise
    generalize l.length = n at *
    go_enter Tryd.func38, Tryd.ntmps38
    go_wp2_with fail
    go_ret
    exact ⟨rfl, Below.refl _ _⟩
  have h2i : ¬ (l.length : Int) < 2 := by omega
  have hne : l ≠ [] := by intro h; rw [h] at h2; simp at h2
  obtain ⟨b, o, rfl, hbw, hat⟩ := HRow.out hne
  have HAt : Hid (∀ j (h : j < l.length), PtAt w b (o + j * 2) l[j]) := hat
  obtain ⟨n, HN⟩ : ∃ n, Hid (l.length = n) := ⟨_, rfl⟩
  clear hat HRow hne
  rw [HN.out] at hlen h2 h2i hl ⊢
  have hgd := eqGuard_pt
  go_enter Tryd.func38, Tryd.ntmps38
  go_wp2_with fail
  go_loopw [3] (fun s3 wr => ∃ j : Nat, j + 1 ≤ n ∧ s3 = .int .i64 ((j + 1 : Nat) : Int) ∧ Hid (Below w.heap.size w wr)) (fun i _ => n - (intOf i).toNat)
  case atStart => exact ⟨0, by omega, rfl, Below.refl _ _⟩
  case round =>
    obtain ⟨j, hj, rfl, HB⟩ := hrel
    by_cases hlt : j + 1 < n
    · have hjl : j + 1 < l.length := by rw [HN.out]; exact hlt
      have HA1 : Hid (PtAt wr b (o + (j + 1) * 2) l[j + 1]) := (HAt.out _ hjl).of_block (HB.out.block b hbw)
      have HA0 : Hid (PtAt wr b (o + j * 2) l[j]) := (HAt.out j (by omega)).of_block (HB.out.block b hbw)
      have HS : Hid (Pt.same l[j + 1] l[j] = false) := rise_unlike HRise.out hjl
      obtain ⟨x, HX⟩ : ∃ x, Hid (l[j + 1] = x) := ⟨l[j + 1], show l[j + 1] = l[j + 1] from rfl⟩
      obtain ⟨y, HY⟩ : ∃ y, Hid (l[j]'(by omega) = y) := ⟨l[j]'(by omega), show l[j]'(by omega) = l[j]'(by omega) from rfl⟩
      rw [HX.out] at HA1 HS
      rw [HY.out] at HA0 HS
      obtain ⟨x0, x1⟩ := x
      obtain ⟨y0, y1⟩ := y
      obtain ⟨c0, c1⟩ := HA1.out
      obtain ⟨d0, d1⟩ := HA0.out
      dsimp only at c0 c1 d0 d1
      have hq := eql_pt x0 x1 y0 y1 false HS.out
      have hwp : IntKind.i64.wrap (j : Int) = (j : Int) := by rw [IntKind.wrap_i64]; omega
      have hin : (j : Int) < (n : Int) := by omega
      have hin' : (j : Int) + 1 < (n : Int) := by omega
      have hin2 : ((j + 1 : Nat) : Int) < (n : Int) := by omega
      go_upto_region 6 with fail
      go_quiet (fail)
      go_wp2_with fail
      go_roundw
      case rel => exact ⟨j + 1, by omega, by go_num, HB.out.trans (below_drewN _ _ _)⟩
      case measure => simp [intOf]; omega
    · have hin2 : ¬ ((j + 1 : Nat) : Int) < (n : Int) := by omega
      have hin3 : ¬ (j : Int) + 1 < (n : Int) := by omega
      go_wp2_with fail
      go_ret
      exact ⟨rfl, HB.out⟩
end Go.Proofs.YtlpfdmmilbdcbaeDoor
