/-
  Package floor by its contracts: All, May.
-/
import Derived.Test.YtbincnajklmnaaaFlC
namespace Go.Proofs.Ytbincnajklmnaaa
set_option linter.unusedVariables false
set_option linter.unusedSimpArgs false
open Go.RowKit

theorem flAll_bad {s : Int} (b : Nat) (h : flS s = false) (w : World) :
    Calls Try.prog 22 #[.pointer (some ⟨b, 0, none⟩), .int .i64 s] w fun e w' => e = .returned (.iface 65 (.int .i64 1)) ∧ Below w.heap.size w w' := by
  have HS : Hid (flS s = false) := h
  clear h
  go_enter Try.func22, Try.ntmps22
  go_wp2_with (go_at_call 43; refine (flIsSeq_b HS.out _).mono ?_; rintro e w' ⟨rfl, rfl⟩)
  go_ret
  exact ⟨rfl, by go_grown⟩
/-- the first j of eight are raised -/
def upTo (o : Nat → Int) (s : Int) (j : Nat) : Nat → Int := fun k => if k < j then hi (o k) s else o k
theorem upTo_zero (o : Nat → Int) (s : Int) : upTo o s 0 = o := by
  funext k
  simp [upTo]
theorem upTo_step (o : Nat → Int) (s : Int) (j : Nat) : upd (upTo o s j) j (hi (o j) s) = upTo o s (j + 1) := by
  funext k
  unfold upd upTo
  by_cases h : k = j
  · subst h; simp
  · by_cases h1 : k < j
    · have h2 : k < j + 1 := by omega
      simp [h, h1, h2]
    · have h2 : ¬ k < j + 1 := by omega
      simp [h, h1, h2]
theorem eight_cells {w : World} {b : Nat} {o : Nat → Int} (h : EightAt w b o) : w.cell? ⟨b, 0, none⟩ = some (.int .i64 (o 0)) ∧ w.cell? ⟨b, 1, none⟩ = some (.int .i64 (o 1)) ∧ w.cell? ⟨b, 2, none⟩ = some (.int .i64 (o 2)) ∧ w.cell? ⟨b, 3, none⟩ = some (.int .i64 (o 3)) ∧ w.cell? ⟨b, 4, none⟩ = some (.int .i64 (o 4)) ∧ w.cell? ⟨b, 5, none⟩ = some (.int .i64 (o 5)) ∧ w.cell? ⟨b, 6, none⟩ = some (.int .i64 (o 6)) ∧ w.cell? ⟨b, 7, none⟩ = some (.int .i64 (o 7)) :=
  ⟨h.cell 0 (by omega), h.cell 1 (by omega), h.cell 2 (by omega), h.cell 3 (by omega), h.cell 4 (by omega), h.cell 5 (by omega), h.cell 6 (by omega), h.cell 7 (by omega)⟩
theorem array_i0 (x0 x1 x2 x3 x4 x5 x6 x7 : Int) (w : World) : (Instr.index 88 (.agg #[.int .i64 x0, .int .i64 x1, .int .i64 x2, .int .i64 x3, .int .i64 x4, .int .i64 x5, .int .i64 x6, .int .i64 x7]) (.int .i64 0)).run Try.prog w = .ok (.int .i64 x0) w := by kernel_rfl
theorem array_i1 (x0 x1 x2 x3 x4 x5 x6 x7 : Int) (w : World) : (Instr.index 88 (.agg #[.int .i64 x0, .int .i64 x1, .int .i64 x2, .int .i64 x3, .int .i64 x4, .int .i64 x5, .int .i64 x6, .int .i64 x7]) (.int .i64 1)).run Try.prog w = .ok (.int .i64 x1) w := by kernel_rfl
theorem array_i2 (x0 x1 x2 x3 x4 x5 x6 x7 : Int) (w : World) : (Instr.index 88 (.agg #[.int .i64 x0, .int .i64 x1, .int .i64 x2, .int .i64 x3, .int .i64 x4, .int .i64 x5, .int .i64 x6, .int .i64 x7]) (.int .i64 2)).run Try.prog w = .ok (.int .i64 x2) w := by kernel_rfl
theorem array_i3 (x0 x1 x2 x3 x4 x5 x6 x7 : Int) (w : World) : (Instr.index 88 (.agg #[.int .i64 x0, .int .i64 x1, .int .i64 x2, .int .i64 x3, .int .i64 x4, .int .i64 x5, .int .i64 x6, .int .i64 x7]) (.int .i64 3)).run Try.prog w = .ok (.int .i64 x3) w := by kernel_rfl
theorem array_i4 (x0 x1 x2 x3 x4 x5 x6 x7 : Int) (w : World) : (Instr.index 88 (.agg #[.int .i64 x0, .int .i64 x1, .int .i64 x2, .int .i64 x3, .int .i64 x4, .int .i64 x5, .int .i64 x6, .int .i64 x7]) (.int .i64 4)).run Try.prog w = .ok (.int .i64 x4) w := by kernel_rfl
theorem array_i5 (x0 x1 x2 x3 x4 x5 x6 x7 : Int) (w : World) : (Instr.index 88 (.agg #[.int .i64 x0, .int .i64 x1, .int .i64 x2, .int .i64 x3, .int .i64 x4, .int .i64 x5, .int .i64 x6, .int .i64 x7]) (.int .i64 5)).run Try.prog w = .ok (.int .i64 x5) w := by kernel_rfl
theorem array_i6 (x0 x1 x2 x3 x4 x5 x6 x7 : Int) (w : World) : (Instr.index 88 (.agg #[.int .i64 x0, .int .i64 x1, .int .i64 x2, .int .i64 x3, .int .i64 x4, .int .i64 x5, .int .i64 x6, .int .i64 x7]) (.int .i64 6)).run Try.prog w = .ok (.int .i64 x6) w := by kernel_rfl
theorem array_i7 (x0 x1 x2 x3 x4 x5 x6 x7 : Int) (w : World) : (Instr.index 88 (.agg #[.int .i64 x0, .int .i64 x1, .int .i64 x2, .int .i64 x3, .int .i64 x4, .int .i64 x5, .int .i64 x6, .int .i64 x7]) (.int .i64 7)).run Try.prog w = .ok (.int .i64 x7) w := by kernel_rfl
theorem array_index (x0 x1 x2 x3 x4 x5 x6 x7 : Int) (o : Nat → Int) (h : o 0 = x0 ∧ o 1 = x1 ∧ o 2 = x2 ∧ o 3 = x3 ∧ o 4 = x4 ∧ o 5 = x5 ∧ o 6 = x6 ∧ o 7 = x7) (j : Nat) (hj : j < 8) (w : World) :
    (Instr.index 88 (.agg #[.int .i64 x0, .int .i64 x1, .int .i64 x2, .int .i64 x3, .int .i64 x4, .int .i64 x5, .int .i64 x6, .int .i64 x7]) (.int .i64 (j : Int))).run Try.prog w = .ok (.int .i64 (o j)) w := by
  obtain ⟨h0, h1, h2, h3, h4, h5, h6, h7⟩ := h
  have h8 : j = 0 ∨ j = 1 ∨ j = 2 ∨ j = 3 ∨ j = 4 ∨ j = 5 ∨ j = 6 ∨ j = 7 := by omega
  rcases h8 with rfl | rfl | rfl | rfl | rfl | rfl | rfl | rfl
  · rw [h0]
    exact array_i0 _ _ _ _ _ _ _ _ w
  · rw [h1]
    exact array_i1 _ _ _ _ _ _ _ _ w
  · rw [h2]
    exact array_i2 _ _ _ _ _ _ _ _ w
  · rw [h3]
    exact array_i3 _ _ _ _ _ _ _ _ w
  · rw [h4]
    exact array_i4 _ _ _ _ _ _ _ _ w
  · rw [h5]
    exact array_i5 _ _ _ _ _ _ _ _ w
  · rw [h6]
    exact array_i6 _ _ _ _ _ _ _ _ w
  · rw [h7]
    exact array_i7 _ _ _ _ _ _ _ _ w
set_option maxHeartbeats 4000000 in
theorem flAll_ok {s : Int} (b : Nat) (hs : flS s = true) (o : Nat → Int) (w : World) (h : EightAt w b o) :
    Calls Try.prog 22 #[.pointer (some ⟨b, 0, none⟩), .int .i64 s] w fun e w' => e = .returned .nilIface ∧ EightAt w' b (fun k => hi (o k) s) ∧ Only b w w' := by
  have HS : Hid (flS s = true) := hs
  have HE : Hid (EightAt w b o) := h
  obtain ⟨x0, x1, x2, x3, x4, x5, x6, x7, HX⟩ : ∃ x0 x1 x2 x3 x4 x5 x6 x7, Hid (o 0 = x0 ∧ o 1 = x1 ∧ o 2 = x2 ∧ o 3 = x3 ∧ o 4 = x4 ∧ o 5 = x5 ∧ o 6 = x6 ∧ o 7 = x7) := ⟨_, _, _, _, _, _, _, _, rfl, rfl, rfl, rfl, rfl, rfl, rfl, rfl⟩
  have hc := eight_cells h
  rw [HX.out.1, HX.out.2.1, HX.out.2.2.1, HX.out.2.2.2.1, HX.out.2.2.2.2.1, HX.out.2.2.2.2.2.1, HX.out.2.2.2.2.2.2.1, HX.out.2.2.2.2.2.2.2] at hc
  obtain ⟨c0, c1, c2, c3, c4, c5, c6, c7⟩ := hc
  have HI : Hid (∀ j : Nat, j < 8 → ∀ w : World, (Instr.index 88 (.agg #[.int .i64 x0, .int .i64 x1, .int .i64 x2, .int .i64 x3, .int .i64 x4, .int .i64 x5, .int .i64 x6, .int .i64 x7]) (.int .i64 (j : Int))).run Try.prog w = .ok (.int .i64 (o j)) w) := fun j hj w => array_index _ _ _ _ _ _ _ _ o HX.out j hj w
  clear h hs HX
  go_enter Try.func22, Try.ntmps22
  go_wp2_with (go_at_call 43; refine (flIsSeq_b HS.out _).mono ?_; rintro e w' ⟨rfl, rfl⟩)
  clear c0 c1 c2 c3 c4 c5 c6 c7
  go_loopw [15] (fun i wr => ∃ (j : Nat), j ≤ 8 ∧ i = .int .i64 j ∧ Hid (EightAt wr b (upTo o s j)) ∧ Hid (Only b w wr)) (fun i _ => 8 - (intOf i).toNat)
  case atStart => exact ⟨0, Nat.zero_le _, rfl, by rw [upTo_zero]; exact HE, Only.refl b w⟩
  case round =>
    obtain ⟨j, hj, rfl, HR, HO⟩ := hrel
    by_cases hj8 : j < 8
    · have hl : (j : Int) < 8 := by omega
      have h1 : (0 : Int) ≤ (j : Int) := by omega
      have hi0 := HI.out j hj8
      have hc := HR.out.cell j hj8
      have hf := HR.out.fz j
      have hlt := HR.out.lt
      obtain ⟨z, HZ⟩ : ∃ z, Hid (upTo o s j j = z) := ⟨_, rfl⟩
      rw [HZ.out] at hc
      obtain ⟨x, HX⟩ : ∃ x, Hid (o j = x) := ⟨_, rfl⟩
      rw [HX.out] at hi0
      by_cases hx : x < s
      · have HH : Hid (hi (o j) s = s) := by rw [HX.out]; exact if_pos hx
        go_wp2
        go_round
        case rel => exact ⟨j + 1, by omega, by go_num, by rw [← upTo_step, HH.out]; exact HR.out.set j hj8 s, HO.out.set j _⟩
        case measure => simp [intOf]; omega
      · have HH : Hid (hi (o j) s = x) := by rw [HX.out]; exact if_neg hx
        go_wp2
        go_round
        case rel => exact ⟨j + 1, by omega, by go_num, by rw [← upTo_step, HH.out]; exact HR.out.set j hj8 x, HO.out.set j _⟩
        case measure => simp [intOf]; omega
    · have hl : ¬ (j : Int) < 8 := by omega
      go_wp2
      go_ret
      exact ⟨rfl, HR.out.to (fun k hk => by have : k < j := by omega
                                            simp [upTo, this]), HO.out⟩
set_option maxHeartbeats 4000000 in
theorem flMay_bad {k v a : Int} {g : Bool} {t : ByteArray} {n : Int} (b : Nat) (h : bad k v a g t = n) (hn : n ≠ 0) (w : World) :
    Calls Try.prog 21 #[.pointer (some ⟨b, 0, none⟩), .agg #[.int .i64 k, .int .i64 v, .int .i64 a, .bool g, .string t]] w fun e w' => e = .returned (.tuple #[.bool false, .iface 65 (.int .i64 n)]) ∧ Below w.heap.size w w' := by
  have H : Hid (bad k v a g t = n) := h
  clear h
  go_enter Try.func21, Try.ntmps21
  go_wp2_with fail
  refine (check_err H.out hn _).mono ?_
  rintro e w1 ⟨rfl, hb⟩
  have B1 : Hid (Below w.heap.size w w1) := Below.trans (by go_grown) (hb.mono (by simp))
  clear hb
  go_wp2_with fail
  go_ret2
  exact ⟨rfl, B1.out⟩
set_option maxHeartbeats 4000000 in
theorem flMay_ok {v a : Int} {g : Bool} {t : ByteArray} (b k : Nat) (hk : k < 8) (h : bad k v a g t = 0) (o : Nat → Int) (w : World) (he : EightAt w b o) :
    Calls Try.prog 21 #[.pointer (some ⟨b, 0, none⟩), .agg #[.int .i64 k, .int .i64 v, .int .i64 a, .bool g, .string t]] w fun e w' => e = .returned (.tuple #[.bool (decide (o k ≤ a)), .nilIface]) ∧ Below w.heap.size w w' := by
  have H : Hid (bad k v a g t = 0) := h
  have HE : Hid (EightAt w b o) := he
  have hbw := he.lt
  have h1 : (0 : Int) ≤ (k : Int) := by omega
  have h2 : (k : Int) < 8 := by omega
  obtain ⟨x, HX⟩ : ∃ x, Hid (o k = x) := ⟨_, rfl⟩
  rw [HX.out]
  clear h he
  go_enter Try.func21, Try.ntmps21
  go_wp2_with fail
  refine (check_ok H.out _).mono ?_
  rintro e w1 ⟨rfl, hb⟩
  have B1 : Hid (Below w.heap.size w w1) := Below.trans (by go_grown) (hb.mono (by simp))
  obtain ⟨a0, a1, a2, a3, a4, af⟩ := (box_new w k v a g t w.heap.size rfl).below hb (by simp)
  have HE1 := HE.out.grown B1.out
  have hc := HE1.cell k hk
  have hlt := HE1.lt
  rw [HX.out] at hc
  clear hb HE1
  go_wp2_with fail
  go_quiet (fail)
  go_wp2_with fail
  go_ret2
  exact ⟨rfl, ⟨B1.out.os, B1.out.tape, B1.out.output, B1.out.size, B1.out.block⟩⟩
end Go.Proofs.Ytbincnajklmnaaa
