/-
  Package hint by its contracts: isNode, isRight, and the functions that Add and Take hand on.
-/
import Derived.Test.YtkhdeaegbkenfahHiF
import Derived.Test.YtkhdeaegbkenfahHiS
import Derived.Test.YtkhdeaegbkenfahHiC
import Derived.Test.YtkhdeaegbkenfahHiD
import Derived.BigRegion
import Derived.BigQuiet
import Derived.Shelf.Abstract
namespace Go.Proofs.Ytkhdeaegbkenfah
set_option linter.unusedVariables false
set_option linter.unusedSimpArgs false
open Go.RowKit Go.Shelf

def isNh (n : Int) : Bool := decide (0 ≤ n) && decide (n ≤ 5)
theorem hNode_c (n : Int) (w : World) : Calls Try.prog 28 #[.int .i64 n] w fun e w' => e = .returned (.bool (isNh n)) ∧ w' = w := by
  by_cases h : 0 ≤ n
  · by_cases h' : n < 6
    · go_enter Try.func28, Try.ntmps28
      go_wp2
      go_ret
      have h2 : n ≤ 5 := by omega
      exact ⟨by simp [isNh, h, h', h2], rfl⟩
    · go_enter Try.func28, Try.ntmps28
      go_wp2
      go_ret
      have h2 : ¬ n ≤ 5 := by omega
      exact ⟨by simp [isNh, h', h2], rfl⟩
  · go_enter Try.func28, Try.ntmps28
    go_wp2
    go_ret
    have h2 : ¬ 0 ≤ n := by omega
    exact ⟨by simp [isNh, h2], rfl⟩
theorem hNode_b {n : Int} {b : Bool} (h : isNh n = b) (w : World) : Calls Try.prog 28 #[.int .i64 n] w fun e w' => e = .returned (.bool b) ∧ Below w.heap.size w w' := by
  subst h
  refine (hNode_c n w).mono ?_
  rintro e w' ⟨rfl, rfl⟩
  exact ⟨rfl, Below.refl _ _⟩
theorem ok_parts (x0 x1 x2 : Int) : Hn.ok ⟨x0, x1, x2⟩ = (isNh x0 && (decide (0 ≤ x1) && (decide (x1 < 8) && (decide (1 ≤ x2) && decide (x2 ≤ 1000))))) := by
  have h : decide (x1 ≤ 7) = decide (x1 < 8) := by
    by_cases h : x1 ≤ 7
    · rw [decide_eq_true h, decide_eq_true (by omega)]
    · rw [decide_eq_false h, decide_eq_false (by omega)]
  simp only [Hn.ok, isNh, h, Bool.and_assoc]
set_option maxHeartbeats 4000000 in
theorem hRight_b (x0 x1 x2 : Int) (b : Bool) (w : World) (h : Hn.ok ⟨x0, x1, x2⟩ = b) : Calls Try.prog 21 #[.agg #[.int .i64 x0, .int .i64 x1, .int .i64 x2]] w fun e w' => e = .returned (.bool b) ∧ Below w.heap.size w w' := by
  rw [ok_parts] at h
  subst h
  cases h0 : isNh x0
  · have H0 : Hid (isNh x0 = false) := h0
    clear h0
    go_enter Try.func21, Try.ntmps21
    go_wp2_with (go_at_call 28; refine (hNode_c _ _).mono ?_; rintro e w' ⟨rfl, rfl⟩; rw [H0.out])
    go_ret
    exact ⟨by simp, by go_grown⟩
  · have H0 : Hid (isNh x0 = true) := h0
    clear h0
    cases h1 : decide (0 ≤ x1)
    · go_enter Try.func21, Try.ntmps21
      go_wp2_with (go_at_call 28; refine (hNode_c _ _).mono ?_; rintro e w' ⟨rfl, rfl⟩; rw [H0.out])
      go_ret
      exact ⟨by simp, by go_grown⟩
    · cases h2 : decide (x1 < 8)
      · go_enter Try.func21, Try.ntmps21
        go_wp2_with (go_at_call 28; refine (hNode_c _ _).mono ?_; rintro e w' ⟨rfl, rfl⟩; rw [H0.out])
        go_ret
        exact ⟨by simp, by go_grown⟩
      · cases h3 : decide (1 ≤ x2)
        · go_enter Try.func21, Try.ntmps21
          go_wp2_with (go_at_call 28; refine (hNode_c _ _).mono ?_; rintro e w' ⟨rfl, rfl⟩; rw [H0.out])
          go_ret
          exact ⟨by simp, by go_grown⟩
        · go_enter Try.func21, Try.ntmps21
          go_wp2_with (go_at_call 28; refine (hNode_c _ _).mono ?_; rintro e w' ⟨rfl, rfl⟩; rw [H0.out])
          go_ret
          exact ⟨by simp, by go_grown⟩
set_option maxHeartbeats 2000000 in
theorem hSame1_c (xb : Nat) (x0 x1 x2 y0 y1 y2 : Int) (B : Bool) (hB : hSame ⟨x0, x1, x2⟩ ⟨y0, y1, y2⟩ = B) (w : World) (hx : BoxH w xb x0 x1 x2) :
    Calls Try.prog 23 #[.agg #[.int .i64 y0, .int .i64 y1, .int .i64 y2], .pointer (some ⟨xb, 0, none⟩)] w fun e w' => e = .returned (.bool B) ∧ Below w.heap.size w w' := by
  have hxl := hx.lt
  obtain ⟨c0, c1, c2, cf⟩ := hx
  have HB : Hid (hSame ⟨x0, x1, x2⟩ ⟨y0, y1, y2⟩ = B) := hB
  clear hB
  cases h1 : (y0 == x0)
  · have HBf : Hid (B = false) := by show B = false; rw [← HB.out]; simp [hSame, h1]
    go_enter Try.func23, Try.ntmps23
    go_wp2_with fail
    go_ret
    exact ⟨by rw [HBf.out]; rfl, by go_grown⟩
  · obtain ⟨b2, h2⟩ : ∃ b, (y1 == x1) = b := ⟨_, rfl⟩
    have HBf : Hid (B = b2) := by show B = b2; rw [← HB.out, ← h2]; simp [hSame, h1]
    go_enter Try.func23, Try.ntmps23
    go_wp2_with fail
    go_ret
    exact ⟨by rw [HBf.out]; rfl, by go_grown⟩
set_option maxHeartbeats 2000000 in
theorem hNewer1_c (xb : Nat) (x0 x1 x2 y0 y1 y2 : Int) (B : Bool) (hB : decide (x2 < y2) = B) (w : World) (hx : BoxH w xb x0 x1 x2) :
    Calls Try.prog 25 #[.agg #[.int .i64 y0, .int .i64 y1, .int .i64 y2], .pointer (some ⟨xb, 0, none⟩)] w fun e w' => e = .returned (.bool B) ∧ Below w.heap.size w w' := by
  have hxl := hx.lt
  obtain ⟨c0, c1, c2, cf⟩ := hx
  have HB : Hid (decide (x2 < y2) = B) := hB
  clear hB
  go_enter Try.func25, Try.ntmps25
  go_wp2_with fail
  go_ret
  exact ⟨by rw [← HB.out]; rfl, by go_grown⟩
theorem splitAdd_c (xb : Nat) (x0 x1 x2 : Int) (v : Value) (l : List Hn) (w : World) (hx : BoxH w xb x0 x1 x2) (hr : HnsIs w v l) (hl : l.length ≤ 10) :
    Calls Try.prog 22 #[v, .func (.func 23) #[] #[.pointer (some ⟨xb, 0, none⟩)]] w fun e w' => ∃ u1 u2, e = .returned (.tuple #[u1, u2]) ∧ TwoH w.heap.size w' u1 u2 (l.filter (hSame ⟨x0, x1, x2⟩)) (offH ⟨x0, x1, x2⟩ l) ∧ Below w.heap.size w w' := by
  refine split_c 23 #[.pointer (some ⟨xb, 0, none⟩)] v l (hSame ⟨x0, x1, x2⟩) w hr (by omega) (enters_of Try.func23 (by kernel_rfl) rfl) ?_
  intro j hj W' hW'
  generalize l[j] = y
  obtain ⟨y0, y1, y2⟩ := y
  exact hSame1_c xb x0 x1 x2 y0 y1 y2 _ rfl W' (hx.below hW' hx.lt)
theorem newerAdd_c (xb : Nat) (x0 x1 x2 : Int) (v : Value) (l : List Hn) (B : Bool) (w : World) (hx : BoxH w xb x0 x1 x2) (hr : HnsIs w v (l.filter (hSame ⟨x0, x1, x2⟩))) (hB : newerH ⟨x0, x1, x2⟩ l = B) :
    Calls Try.prog 24 #[v, .func (.func 25) #[] #[.pointer (some ⟨xb, 0, none⟩)]] w fun e w' => e = .returned (.bool B) ∧ Below w.heap.size w w' := by
  refine containsH_c 25 #[.pointer (some ⟨xb, 0, none⟩)] v _ (fun j => decide (x2 < ((l.filter (hSame ⟨x0, x1, x2⟩)).getD j noHn).v)) B w hr (enters_of Try.func25 (by kernel_rfl) rfl) ?_ ?_
  · intro j hj W' hW'
    rw [getD_at _ _ _ hj]
    generalize (l.filter (hSame ⟨x0, x1, x2⟩))[j] = y
    obtain ⟨y0, y1, y2⟩ := y
    exact hNewer1_c xb x0 x1 x2 y0 y1 y2 _ rfl W' (hx.below hW' hx.lt)
  · rw [any_range _ noHn (fun y => decide (x2 < y.v)), ← hB, newerH, List.any_filter]
set_option maxHeartbeats 2000000 in
theorem hOf1_c (nb : Nat) (node y0 y1 y2 : Int) (B : Bool) (hB : (y0 == node) = B) (w : World) (hx : w.cell? ⟨nb, 0, none⟩ = some (.int .i64 node)) :
    Calls Try.prog 29 #[.agg #[.int .i64 y0, .int .i64 y1, .int .i64 y2], .pointer (some ⟨nb, 0, none⟩)] w fun e w' => e = .returned (.bool B) ∧ Below w.heap.size w w' := by
  have hxl := World.block_lt_of_cell? w _ hx
  dsimp only at hxl
  have HB : Hid ((y0 == node) = B) := hB
  clear hB
  go_enter Try.func29, Try.ntmps29
  go_wp2_with fail
  go_ret
  exact ⟨by rw [← HB.out]; rfl, by go_grown⟩
theorem splitTake_c (nb : Nat) (node : Int) (v : Value) (l : List Hn) (w : World) (hx : w.cell? ⟨nb, 0, none⟩ = some (.int .i64 node)) (hr : HnsIs w v l) (hl : l.length ≤ 10) :
    Calls Try.prog 22 #[v, .func (.func 29) #[] #[.pointer (some ⟨nb, 0, none⟩)]] w fun e w' => ∃ u1 u2, e = .returned (.tuple #[u1, u2]) ∧ TwoH w.heap.size w' u1 u2 (takeH node l) (leaveH node l) ∧ Below w.heap.size w w' := by
  refine split_c 29 #[.pointer (some ⟨nb, 0, none⟩)] v l (fun y => y.n == node) w hr (by omega) (enters_of Try.func29 (by kernel_rfl) rfl) ?_
  intro j hj W' hW'
  generalize l[j] = y
  obtain ⟨y0, y1, y2⟩ := y
  exact hOf1_c nb node y0 y1 y2 _ rfl W' ((World.cell?_of_block (a := ⟨nb, 0, none⟩) (hW'.block nb (World.block_lt_of_cell? w _ hx))).trans hx)
end Go.Proofs.Ytkhdeaegbkenfah
