/-
  Package tree by its contracts: grow, of a cache that is wrong.
-/
import Derived.Test.YtpcnfoaoajfhlaaGreatDoorMqax
import Derived.BigRegion
import Derived.BigQuiet
namespace Go.Proofs.YtpcnfoaoajfhlaaGreatDoor
set_option linter.unusedVariables false
set_option linter.unusedSimpArgs false
set_option linter.unusedVariables false
set_option linter.unusedSimpArgs false
open Go.RowKit

/-- sixteen zeros -/
theorem six_zero (w : World) (b : Nat) (h : b = w.heap.size) : SixAt (w.alloc (.cells #[.int .i64 0, .int .i64 0, .int .i64 0, .int .i64 0, .int .i64 0, .int .i64 0, .int .i64 0, .int .i64 0, .int .i64 0, .int .i64 0, .int .i64 0, .int .i64 0, .int .i64 0, .int .i64 0, .int .i64 0, .int .i64 0] 256)) b (fun _ => 0) := six_new w _ b h (fun _ => 0)
set_option maxHeartbeats 4000000 in
theorem grow_bad (v : Value) (l : List En) (n : Int) (w : World) (hr : RowIs w v l) (h : badL l = n) (hn : n ≠ 0) :
    Calls Tryz.prog 181 #[v] w fun e w' => e = .returned (.tuple #[ag16 (fun _ => 0), .iface 85 (.int .i64 n)]) ∧ Below w.heap.size w w' := by
  have H : Hid (badL l = n) := h
  have HR : Hid (RowIs w v l) := hr
  clear h hr
  go_enter Tryz.func181, Tryz.ntmps181
  go_wp2_with fail
  have hb0 : Below w.heap.size w (w.alloc (.cells #[.int .i64 0, .int .i64 0, .int .i64 0, .int .i64 0, .int .i64 0, .int .i64 0, .int .i64 0, .int .i64 0, .int .i64 0, .int .i64 0, .int .i64 0, .int .i64 0, .int .i64 0, .int .i64 0, .int .i64 0, .int .i64 0] 256)) := by go_grown
  refine (cacheCheck_err (HR.out.below hb0) H.out hn).mono ?_
  rintro e w1 ⟨rfl, hb⟩
  have B1 : Hid (Below w.heap.size w w1) := hb0.trans (hb.mono (by simp))
  have S1 : Hid (SixAt w1 w.heap.size (fun _ => 0)) := (six_zero w w.heap.size rfl).grown hb
  clear hb hb0
  obtain ⟨c0, c1, c2, c3, c4, c5, c6, c7, c8, c9, c10, c11, c12, c13, c14, c15⟩ := six_cells S1.out
  have fz := S1.out.fz
  go_wp2_with fail
  show bodyPost _ _ _ _ _ (set16 w1 w.heap.size (fun _ => 0))
  have S2 : SixAt (set16 w1 w.heap.size (fun _ => 0)) w.heap.size (fun _ => 0) := S1.out.set16 (fun _ => 0)
  have B2 : Hid (Below w.heap.size w (set16 w1 w.heap.size (fun _ => 0))) := set16_below B1.out (Nat.le_refl _) _
  generalize set16 w1 w.heap.size (fun _ => 0) = w2 at S2 B2 ⊢
  clear c0 c1 c2 c3 c4 c5 c6 c7 c8 c9 c10 c11 c12 c13 c14 c15 fz
  obtain ⟨c0, c1, c2, c3, c4, c5, c6, c7, c8, c9, c10, c11, c12, c13, c14, c15⟩ := six_cells S2
  refine bodyPost_ret (v := .tuple #[ag16 (fun _ => 0), .iface 85 (.int .i64 n)]) (by simp [results, Tryz.results181, go_sem, c0, c1, c2, c3, c4, c5, c6, c7, c8, c9, c10, c11, c12, c13, c14, c15, ag16]) rfl ?_
  exact ⟨rfl, B2.out⟩
end Go.Proofs.YtpcnfoaoajfhlaaGreatDoor
