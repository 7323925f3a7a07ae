/-
  cmp.Compare, cmp.Or and package ring's compare, by their contracts.
-/
import Derived.Test.YtpcnfoaoajfhlaaGreatDoorQoav
import Derived.BigQuiet
import Derived.Deep.RegionHeld3
import Derived.Sort.Grow
namespace Go.Proofs.YtpcnfoaoajfhlaaGreatDoor
set_option linter.unusedVariables false
set_option linter.unusedSimpArgs false
set_option linter.unusedVariables false
set_option linter.unusedSimpArgs false
open Go.RowKit Go.Sort

theorem compareP_c (x y : Int) (w : World) : Calls Tryz.prog 108 #[.int .i64 x, .int .i64 y] w fun e w' => e = .returned (.int .i64 (Lib.compareInt x y)) ∧ w' = w := by
  by_cases h1 : x < y
  · go_enter Tryz.func108, Tryz.ntmps108
    go_wp2
    go_ret
    exact ⟨by simp [Lib.compareInt, h1], rfl⟩
  · by_cases h2 : y < x
    · go_enter Tryz.func108, Tryz.ntmps108
      go_wp2
      go_ret
      exact ⟨by rw [Lib.compareInt, if_neg (by omega), if_pos h2]; rfl, rfl⟩
    · go_enter Tryz.func108, Tryz.ntmps108
      go_wp2
      go_ret
      exact ⟨by rw [Lib.compareInt, if_neg (by omega), if_neg (by omega)]; rfl, rfl⟩

set_option maxHeartbeats 1000000 in
theorem or_c (b : Nat) (x y : Int) (w : World) (h0 : w.cell? ⟨b, 0, none⟩ = some (.int .i64 x)) (h1 : w.cell? ⟨b, 1, none⟩ = some (.int .i64 y)) :
    Calls Tryz.prog 107 #[.slice (some ⟨b, 0, none⟩) 2 2] w fun e w' => e = .returned (.int .i64 (if x = 0 then y else x)) ∧ w' = w := by
  by_cases hx : x = 0
  · subst hx
    rw [if_pos rfl]
    by_cases hy : y = 0
    · subst hy
      go_enter Tryz.func107, Tryz.ntmps107
      go_wp2_with fail
      refine wp_loop_rounds 3 ?_
      rw [rounds_succ]
      go_wp2_with fail
      rw [rounds_succ]
      go_wp2_with fail
      rw [rounds_succ]
      go_wp2_with fail
      go_ret
      exact ⟨rfl, rfl⟩
    · go_enter Tryz.func107, Tryz.ntmps107
      go_wp2_with fail
      refine wp_loop_rounds 3 ?_
      rw [rounds_succ]
      go_wp2_with fail
      rw [rounds_succ]
      go_wp2_with fail
      go_ret
      exact ⟨rfl, rfl⟩
  · rw [if_neg hx]
    go_enter Tryz.func107, Tryz.ntmps107
    go_wp2_with fail
    refine wp_loop_rounds 3 ?_
    rw [rounds_succ]
    go_wp2_with fail
    go_ret
    exact ⟨rfl, rfl⟩

theorem grow_three (w : World) (o1 o2 o3 : Obj) : ((w.alloc o1).alloc o2).drew.alloc o3 = grow (w.drewN 1) #[o1, o2, o3] := by
  have e : ((w.alloc o1).alloc o2).drew.alloc o3 = ((w.drewN 1).alloc o1 |>.alloc o2 |>.alloc o3) := rfl
  rw [e, alloc_eq_grow, alloc_eq_grow, alloc_eq_grow, grow_grow, grow_grow]
  rfl
set_option maxHeartbeats 4000000 in
/-- the order in which points rise: two blocks and a row of two are laid -/
theorem cmpP_c (p n q m : Int) (w : World) : Calls Tryz.prog 61 #[.agg #[.int .i64 p, .int .i64 n], .agg #[.int .i64 q, .int .i64 m]] w fun e w' => e = .returned (.int .i64 (cfP ⟨p, n⟩ ⟨q, m⟩)) ∧ ∃ k os, w' = grow (w.drewN k) os := by
  have e0 : cfP ⟨p, n⟩ ⟨q, m⟩ = if Lib.compareInt p q = 0 then Lib.compareInt n m else Lib.compareInt p q := rfl
  rw [e0]
  clear e0
  have H1 : Hid (∀ w, Calls Tryz.prog 108 #[.int .i64 p, .int .i64 q] w fun e w' => e = .returned (.int .i64 (Lib.compareInt p q)) ∧ w' = w) := fun w => compareP_c p q w
  have H2 : Hid (∀ w, Calls Tryz.prog 108 #[.int .i64 n, .int .i64 m] w fun e w' => e = .returned (.int .i64 (Lib.compareInt n m)) ∧ w' = w) := fun w => compareP_c n m w
  generalize Lib.compareInt p q = c1 at H1 ⊢
  generalize Lib.compareInt n m = c2 at H2 ⊢
  have H3 : Hid (∀ b w, w.cell? ⟨b, 0, none⟩ = some (.int .i64 c1) → w.cell? ⟨b, 1, none⟩ = some (.int .i64 c2) → Calls Tryz.prog 107 #[.slice (some ⟨b, 0, none⟩) 2 2] w fun e w' => e = .returned (.int .i64 (if c1 = 0 then c2 else c1)) ∧ w' = w) := fun b w h0 h1 => or_c b c1 c2 w h0 h1
  generalize (if c1 = 0 then c2 else c1) = R at H3 ⊢
  go_enter Tryz.func61, Tryz.ntmps61
  go_upto_region 1 with fail
  obtain ⟨w2, HW⟩ : ∃ x, x = (w.alloc (.cells #[.int .i64 p, .int .i64 n] 110)).alloc (.cells #[.int .i64 q, .int .i64 m] 110) := ⟨_, rfl⟩
  rw [← HW]
  have hz : w2.heap.size = w.heap.size + 1 + 1 := by rw [HW]; simp
  have c0 : w2.cell? ⟨w.heap.size, 0, none⟩ = some (.int .i64 p) := by rw [HW]; simp
  have c1' : w2.cell? ⟨w.heap.size, 1, none⟩ = some (.int .i64 n) := by rw [HW]; simp
  have d0 : w2.cell? ⟨w.heap.size + 1, 0, none⟩ = some (.int .i64 q) := by rw [HW]; simp
  have d1 : w2.cell? ⟨w.heap.size + 1, 1, none⟩ = some (.int .i64 m) := by rw [HW]; simp
  have HW' : Hid (w2 = (w.alloc (.cells #[.int .i64 p, .int .i64 n] 110)).alloc (.cells #[.int .i64 q, .int .i64 m] 110)) := HW
  clear HW
  go_region_held3 (fun w' => w'.cell? ⟨w.heap.size, 0, none⟩ = some (.int .i64 p) ∧ w'.cell? ⟨w.heap.size, 1, none⟩ = some (.int .i64 n) ∧ w'.cell? ⟨w.heap.size + 1, 0, none⟩ = some (.int .i64 q) ∧ w'.cell? ⟨w.heap.size + 1, 1, none⟩ = some (.int .i64 m)) (first | go_keep | (exact ⟨c0, c1', d0, d1⟩)) (first
    | (go_at_call_of 108 (Value.int IntKind.i64 p); refine (H1.out _).mono ?_; rintro e w1 ⟨rfl, rfl⟩)
    | (go_at_call_of 108 (Value.int IntKind.i64 n); refine (H2.out _).mono ?_; rintro e w1 ⟨rfl, rfl⟩)
    | (go_at_call 107; refine (H3.out _ _ (by show (w2.alloc (.cells #[.int .i64 c1, .int .i64 c2] 3)).cell? ⟨w.heap.size + 1 + 1, 0, none⟩ = _; rw [World.cell?_alloc_at _ _ _ _ (by simp [hz])]; rfl) (by show (w2.alloc (.cells #[.int .i64 c1, .int .i64 c2] 3)).cell? ⟨w.heap.size + 1 + 1, 1, none⟩ = _; rw [World.cell?_alloc_at _ _ _ _ (by simp [hz])]; rfl)).mono ?_; rintro e w1 ⟨rfl, rfl⟩))
  go_wp2_with fail
  go_ret
  exact ⟨rfl, 1, _, by rw [HW'.out]; exact grow_three _ _ _ _⟩
/-- the same as a fact on what lay below -/
theorem cmpP_b (p n q m : Int) (w : World) : Calls Tryz.prog 61 #[.agg #[.int .i64 p, .int .i64 n], .agg #[.int .i64 q, .int .i64 m]] w fun e w' => e = .returned (.int .i64 (cfP ⟨p, n⟩ ⟨q, m⟩)) ∧ Below w.heap.size w w' :=
  (cmpP_c p n q m w).mono fun _ _ ⟨he, k, os, hw⟩ => ⟨he, by
    rw [hw]
    refine ⟨rfl, rfl, rfl, ?_, fun c hc => ?_⟩
    · show w.heap.size ≤ (w.heap ++ os).size
      simp
    · show (w.heap ++ os)[c]? = w.heap[c]?
      rw [Array.getElem?_append_left hc]⟩
end Go.Proofs.YtpcnfoaoajfhlaaGreatDoor
