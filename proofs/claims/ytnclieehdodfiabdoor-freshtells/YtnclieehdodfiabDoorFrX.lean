/-
  slices.Index at a cache, fresh.denies by their contracts.
-/
import Derived.Test.YtnclieehdodfiabDoorFrG
import Derived.BigQuiet
namespace Go.Proofs.YtnclieehdodfiabDoor
set_option linter.unusedVariables false
set_option linter.unusedSimpArgs false
open Go.RowKit

def deniesB (v a ver : Int) : Bool := decide (ver < v) || (decide (v < ver) && decide (ver ≤ a))
set_option maxHeartbeats 1000000 in
theorem denies_c (k v a : Int) (g : Bool) (t : ByteArray) (ver : Int) (w : World) :
    Calls Tryd.prog 31 #[.agg #[.int .i64 k, .int .i64 v, .int .i64 a, .bool g, .string t], .int .i64 ver] w fun e w' => e = .returned (.bool (deniesB v a ver)) ∧ Below w.heap.size w w' := by
  by_cases h1 : ver < v
  · go_enter Tryd.func31, Tryd.ntmps31
    go_wp2
    go_ret
    refine ⟨?_, by go_grown⟩
    simp [deniesB, h1]
  · by_cases h2 : v < ver
    · go_enter Tryd.func31, Tryd.ntmps31
      go_wp2
      go_ret
      refine ⟨?_, by go_grown⟩
      simp [deniesB, h1, h2]
      intro h
      omega
    · go_enter Tryd.func31, Tryd.ntmps31
      go_wp2
      go_ret
      refine ⟨?_, by go_grown⟩
      simp [deniesB, h1, h2]
      intro h
      omega

theorem eql_cellsX (x0 x1 x2 : Int) (x3 : Bool) (x4 : ByteArray) (y0 y1 y2 : Int) (y3 : Bool) (y4 : ByteArray) (b : Bool) (h : En.same ⟨x0, x1, x2, x3, x4⟩ ⟨y0, y1, y2, y3, y4⟩ = b) (w : World) : (binOp .eql 24 (.agg #[.int .i64 x0, .int .i64 x1, .int .i64 x2, .bool x3, .string x4]) (.agg #[.int .i64 y0, .int .i64 y1, .int .i64 y2, .bool y3, .string y4])).run Tryd.prog w = .ok (.bool b) w := by
  have h1 := eql_en ⟨x0, x1, x2, x3, x4⟩ ⟨y0, y1, y2, y3, y4⟩ w
  rw [h] at h1
  exact h1

set_option maxHeartbeats 4000000 in
theorem index_c (v : Value) (l : List En) (k vv a : Int) (g : Bool) (t : ByteArray) (m : Nat) (w : World) (hr : RowIs w v l) (hm : m < l.length) (he : l[m] = ⟨k, vv, a, g, t⟩) (hlow : ∀ j (h : j < l.length), j < m → En.same ⟨k, vv, a, g, t⟩ l[j] = false) :
    Calls Tryd.prog 32 #[v, .agg #[.int .i64 k, .int .i64 vv, .int .i64 a, .bool g, .string t]] w fun e w' => e = .returned (.int .i64 m) ∧ Below w.heap.size w w' := by
  obtain ⟨hlen, p, cap, rfl, hrow⟩ := hr
  obtain ⟨b, o, rfl, hbw, hat⟩ := hrow (fun h => by simp [h] at hm)
  have HA : Hid (∀ j (h : j < l.length), EnAt w b (o + j * 5) l[j]) := hat
  have HLow : Hid (∀ j (h : j < l.length), j < m → En.same ⟨k, vv, a, g, t⟩ l[j] = false) := hlow
  have HEq : Hid (l[m] = ⟨k, vv, a, g, t⟩) := he
  obtain ⟨n, HN⟩ : ∃ n, Hid (l.length = n) := ⟨_, rfl⟩
  have HM : Hid (m < l.length) := hm
  clear hrow hat hlow he
  rw [HN.out] at hlen hm ⊢
  have hn63 : n ≤ 9223372036854775807 := hlen
  have hgd := eqGuard_en
  go_enter Tryd.func32, Tryd.ntmps32
  go_wp2_with fail
  obtain ⟨w0, HW0⟩ : ∃ w0, w0 = w.alloc (.cells #[.int .i64 k, .int .i64 vv, .int .i64 a, .bool g, .string t] 24) := ⟨_, rfl⟩
  rw [← HW0]
  have HB0 : Hid (Below w.heap.size w w0) := by rw [HW0]; exact (Below.refl _ w).alloc (Nat.le_refl _) _
  have E0 : Hid (BoxAt w0 w.heap.size k vv a g t) := by rw [HW0]; exact box_new w k vv a g t w.heap.size rfl
  clear HW0
  go_loopw [8] (fun i wr => ∃ j : Nat, j ≤ m ∧ i = .int .i64 j ∧ Hid (Below w0.heap.size w0 wr)) (fun i _ => n - (intOf i).toNat)
  case atStart => exact ⟨0, Nat.zero_le _, rfl, Below.refl _ _⟩
  case round =>
    obtain ⟨j, hj, rfl, HB⟩ := hrel
    have HBw : Hid (Below w.heap.size w wr) := HB0.out.trans (HB.out.mono HB0.out.size)
    have hlt : j < n := by omega
    have hlti : (j : Int) < (n : Int) := by omega
    have hjl : j < l.length := by rw [HN.out]; exact hlt
    have HAt : Hid (EnAt wr b (o + j * 5) l[j]) := (HA.out j hjl).of_block (HBw.out.block b hbw)
    obtain ⟨e0, e1, e2, e3, e4, ef⟩ := E0.out.below HB.out E0.out.lt
    by_cases hjm : j = m
    · subst hjm
      rw [HEq.out] at HAt
      obtain ⟨c0, c1, c2, c3, c4⟩ := HAt.out
      dsimp only at c0 c1 c2 c3 c4
      have hq := eql_cells k vv a g t
      go_upto_region 4 with fail
      go_quiet (fail)
      go_wp2_with fail
      go_ret
      exact ⟨rfl, HBw.out.trans (below_drewN _ _ _)⟩
    · have hjm' : j < m := by omega
      have HSm : Hid (En.same ⟨k, vv, a, g, t⟩ l[j] = false) := HLow.out j hjl hjm'
      obtain ⟨x, HX⟩ : ∃ x, Hid (l[j] = x) := ⟨l[j], show l[j] = l[j] from rfl⟩
      rw [HX.out] at HAt HSm
      obtain ⟨x0, x1, x2, x3, x4⟩ := x
      obtain ⟨c0, c1, c2, c3, c4⟩ := HAt.out
      dsimp only at c0 c1 c2 c3 c4
      have hq := eql_cellsX k vv a g t x0 x1 x2 x3 x4 false HSm.out
      go_upto_region 4 with fail
      go_quiet (fail)
      go_wp2_with fail
      go_roundw
      case rel => exact ⟨j + 1, by omega, by go_num, HB.out.trans (below_drewN _ _ _)⟩
      case measure => simp [intOf]; omega
end Go.Proofs.YtnclieehdodfiabDoor
