/-
  cmp.Compare, cmp.Or and package view's within, isRight, isNewer, Newer, by their contracts.
-/
import Derived.Test.YtpelbmhhppcmeaeVwM
import Derived.BigRegion
import Derived.BigQuiet
import Derived.Deep.RegionHeld3
import Derived.Lib.Small
namespace Go.Proofs.Ytpelbmhhppcmeae
set_option linter.unusedVariables false
set_option linter.unusedSimpArgs false
open Go.RowKit

theorem eV_zero : eV 0 = .nilIface := by rw [eV, if_pos rfl]
theorem eV_err {n : Int} (h : n ≠ 0) : eV n = .iface 35 (.int .i64 n) := by rw [eV, if_neg h]
theorem compare_c (x y : Int) (w : World) : Calls Try.prog 16 #[.int .i64 x, .int .i64 y] w fun e w' => e = .returned (.int .i64 (Lib.compareInt x y)) ∧ w' = w := by
  by_cases h1 : x < y
  · go_enter Try.func16, Try.ntmps16
    go_wp2
    go_ret
    exact ⟨by simp [Lib.compareInt, h1], rfl⟩
  · by_cases h2 : y < x
    · go_enter Try.func16, Try.ntmps16
      go_wp2
      go_ret
      exact ⟨by rw [Lib.compareInt, if_neg (by omega), if_pos h2]; rfl, rfl⟩
    · go_enter Try.func16, Try.ntmps16
      go_wp2
      go_ret
      exact ⟨by rw [Lib.compareInt, if_neg (by omega), if_neg (by omega)]; rfl, rfl⟩

set_option maxHeartbeats 1000000 in
theorem or_c (b : Nat) (x y : Int) (w : World) (h0 : w.cell? ⟨b, 0, none⟩ = some (.int .i64 x)) (h1 : w.cell? ⟨b, 1, none⟩ = some (.int .i64 y)) :
    Calls Try.prog 15 #[.slice (some ⟨b, 0, none⟩) 2 2] w fun e w' => e = .returned (.int .i64 (if x = 0 then y else x)) ∧ w' = w := by
  by_cases hx : x = 0
  · subst hx
    rw [if_pos rfl]
    by_cases hy : y = 0
    · subst hy
      go_enter Try.func15, Try.ntmps15
      go_wp2_with fail
      refine wp_loop_rounds 3 ?_
      rw [rounds_succ]
      go_wp2_with fail
      rw [rounds_succ]
      go_wp2_with fail
      rw [rounds_succ]
      go_wp2_with fail
      go_ret
      exact ⟨rfl, rfl⟩
    · go_enter Try.func15, Try.ntmps15
      go_wp2_with fail
      refine wp_loop_rounds 3 ?_
      rw [rounds_succ]
      go_wp2_with fail
      rw [rounds_succ]
      go_wp2_with fail
      go_ret
      exact ⟨rfl, rfl⟩
  · rw [if_neg hx]
    go_enter Try.func15, Try.ntmps15
    go_wp2_with fail
    refine wp_loop_rounds 3 ?_
    rw [rounds_succ]
    go_wp2_with fail
    go_ret
    exact ⟨rfl, rfl⟩


theorem withinV_c (n lo hi : Int) (w : World) : Calls Try.prog 13 #[.int .i64 n, .int .i64 lo, .int .i64 hi] w fun e w' => e = .returned (.bool (inR n lo hi)) ∧ w' = w := by
  go_enter Try.func13, Try.ntmps13
  go_wp2_with fail
  · go_ret
    refine ⟨?_, rfl⟩
    rename_i h
    simp [inR, h]
  · go_ret
    refine ⟨?_, rfl⟩
    rename_i h
    have h2 : ¬ lo ≤ n := by omega
    simp [inR, h2]
theorem withinV_b (n lo hi : Int) (b : Bool) (w : World) (hb : inR n lo hi = b) : Calls Try.prog 13 #[.int .i64 n, .int .i64 lo, .int .i64 hi] w fun e w' => e = .returned (.bool b) ∧ w' = w := by
  subst hb
  exact withinV_c n lo hi w
theorem ok_in (n f s : Int) : Mm.ok ⟨n, f, s⟩ = (inR n 0 5 && inR f 0 100 && inR s 0 2) := rfl
set_option maxHeartbeats 4000000 in
theorem isRight_b (n f s : Int) (b : Bool) (w : World) (hb : Mm.ok ⟨n, f, s⟩ = b) : Calls Try.prog 8 #[.agg #[.int .i64 n, .int .i64 f, .int .i64 s]] w fun e w' => e = .returned (.bool b) ∧ Below w.heap.size w w' := by
  rw [← hb, ok_in]
  clear hb
  obtain ⟨b0, H0⟩ : ∃ b, Hid (inR n 0 5 = b) := ⟨_, rfl⟩
  obtain ⟨b1, H1⟩ : ∃ b, Hid (inR f 0 100 = b) := ⟨_, rfl⟩
  obtain ⟨b2, H2⟩ : ∃ b, Hid (inR s 0 2 = b) := ⟨_, rfl⟩
  rw [H0.out, H1.out, H2.out]
  cases b0 <;> cases b1
  all_goals
    go_enter Try.func8, Try.ntmps8
    go_wp2_with (go_at_call 13; refine (withinV_c _ _ _ _).mono ?_; rintro e w' ⟨rfl, rfl⟩; first | rw [H0.out] | rw [H1.out] | rw [H2.out])
    go_ret
    exact ⟨rfl, by go_grown⟩
def cmpV (p q r u : Int) : Int := if Lib.compareInt p r = 0 then Lib.compareInt q u else Lib.compareInt p r
theorem cmpV_nw (a b : Mm) : decide (0 < cmpV a.f a.s b.f b.s) = nwB a b := by
  unfold cmpV Lib.compareInt nwB
  by_cases h1 : a.f < b.f
  · simp [h1]
    omega
  · by_cases h2 : b.f < a.f
    · simp [h1, h2]
    · have h3 : a.f = b.f := by omega
      by_cases h4 : a.s < b.s
      · simp [h3, h4]
        omega
      · by_cases h5 : b.s < a.s
        · simp [h3, h4, h5]
        · simp [h3, h4, h5]
set_option maxHeartbeats 4000000 in
theorem isNewer_g (n f s m g t : Int) (b : Bool) (w : World) (hb : nwB ⟨n, f, s⟩ ⟨m, g, t⟩ = b) : Calls Try.prog 9 #[.agg #[.int .i64 n, .int .i64 f, .int .i64 s], .agg #[.int .i64 m, .int .i64 g, .int .i64 t]] w fun e w' => e = .returned (.bool b) ∧ Below w.heap.size w w' := by
  rw [← hb, ← cmpV_nw]
  clear hb
  show Calls _ _ _ _ fun e w' => e = .returned (.bool (decide (0 < (if Lib.compareInt f g = 0 then Lib.compareInt s t else Lib.compareInt f g)))) ∧ Below w.heap.size w w'
  have H1 : Hid (∀ w, Calls Try.prog 16 #[.int .i64 f, .int .i64 g] w fun e w' => e = .returned (.int .i64 (Lib.compareInt f g)) ∧ w' = w) := fun w => compare_c f g w
  have H2 : Hid (∀ w, Calls Try.prog 16 #[.int .i64 s, .int .i64 t] w fun e w' => e = .returned (.int .i64 (Lib.compareInt s t)) ∧ w' = w) := fun w => compare_c s t w
  generalize Lib.compareInt f g = c1 at H1 ⊢
  generalize Lib.compareInt s t = c2 at H2 ⊢
  have H3 : Hid (∀ b w, w.cell? ⟨b, 0, none⟩ = some (.int .i64 c1) → w.cell? ⟨b, 1, none⟩ = some (.int .i64 c2) → Calls Try.prog 15 #[.slice (some ⟨b, 0, none⟩) 2 2] w fun e w' => e = .returned (.int .i64 (if c1 = 0 then c2 else c1)) ∧ w' = w) := fun b w h0 h1 => or_c b c1 c2 w h0 h1
  generalize (if c1 = 0 then c2 else c1) = R at H3 ⊢
  go_enter Try.func9, Try.ntmps9
  go_upto_region 1 with fail
  obtain ⟨w2, HW⟩ : ∃ x, x = (w.alloc (.cells #[.int .i64 n, .int .i64 f, .int .i64 s] 28)).alloc (.cells #[.int .i64 m, .int .i64 g, .int .i64 t] 28) := ⟨_, rfl⟩
  rw [← HW]
  have hz : w2.heap.size = w.heap.size + 1 + 1 := by rw [HW]; simp
  have c0 : w2.cell? ⟨w.heap.size, 1, none⟩ = some (.int .i64 f) := by rw [HW]; simp
  have c1' : w2.cell? ⟨w.heap.size, 2, none⟩ = some (.int .i64 s) := by rw [HW]; simp
  have d0 : w2.cell? ⟨w.heap.size + 1, 1, none⟩ = some (.int .i64 g) := by rw [HW]; simp
  have d1 : w2.cell? ⟨w.heap.size + 1, 2, none⟩ = some (.int .i64 t) := by rw [HW]; simp
  have HB2 : Hid (Below w.heap.size w w2) := by rw [HW]; exact ((Below.refl _ w).alloc (Nat.le_refl _) _).alloc (by simp) _
  clear HW
  go_region_held3 (fun w' => w'.cell? ⟨w.heap.size, 1, none⟩ = some (.int .i64 f) ∧ w'.cell? ⟨w.heap.size, 2, none⟩ = some (.int .i64 s) ∧ w'.cell? ⟨w.heap.size + 1, 1, none⟩ = some (.int .i64 g) ∧ w'.cell? ⟨w.heap.size + 1, 2, none⟩ = some (.int .i64 t)) (first | go_keep | (exact ⟨c0, c1', d0, d1⟩)) (first
    | (go_at_call_of 16 (Value.int IntKind.i64 f); refine (H1.out _).mono ?_; rintro e w1 ⟨rfl, rfl⟩)
    | (go_at_call_of 16 (Value.int IntKind.i64 s); refine (H2.out _).mono ?_; rintro e w1 ⟨rfl, rfl⟩)
    | (go_at_call 15; refine (H3.out _ _ (by show (w2.alloc (.cells #[.int .i64 c1, .int .i64 c2] 3)).cell? ⟨w.heap.size + 1 + 1, 0, none⟩ = _; rw [World.cell?_alloc_at _ _ _ _ (by simp [hz])]; rfl) (by show (w2.alloc (.cells #[.int .i64 c1, .int .i64 c2] 3)).cell? ⟨w.heap.size + 1 + 1, 1, none⟩ = _; rw [World.cell?_alloc_at _ _ _ _ (by simp [hz])]; rfl)).mono ?_; rintro e w1 ⟨rfl, rfl⟩))
  go_wp2_with fail
  go_ret
  refine ⟨rfl, ?_⟩
  have hb := HB2.out
  go_grown
/-- what Newer tells -/
def newV (a b : Mm) : Bool × Int := if (a.ok && b.ok) = false then (false, 1) else if a.n ≠ b.n then (false, 3) else (nwB a b, 0)
set_option maxHeartbeats 4000000 in
theorem newer_c (n f s m g t : Int) (w : World) : Calls Try.prog 4 #[.agg #[.int .i64 n, .int .i64 f, .int .i64 s], .agg #[.int .i64 m, .int .i64 g, .int .i64 t]] w fun e w' => e = .returned (.tuple #[.bool (newV ⟨n, f, s⟩ ⟨m, g, t⟩).1, eV (newV ⟨n, f, s⟩ ⟨m, g, t⟩).2]) ∧ Below w.heap.size w w' := by
  obtain ⟨R, HR⟩ : ∃ R, Hid (newV ⟨n, f, s⟩ ⟨m, g, t⟩ = R) := ⟨_, rfl⟩
  obtain ⟨b0, H0⟩ : ∃ b, Hid (Mm.ok ⟨n, f, s⟩ = b) := ⟨_, rfl⟩
  obtain ⟨b1, H1⟩ : ∃ b, Hid (Mm.ok ⟨m, g, t⟩ = b) := ⟨_, rfl⟩
  rw [HR.out]
  have HB0 : Hid (Below w.heap.size w ((w.alloc (.cells #[.int .i64 n, .int .i64 f, .int .i64 s] 28)).alloc (.cells #[.int .i64 m, .int .i64 g, .int .i64 t] 28))) := ((Below.refl _ w).alloc (Nat.le_refl _) _).alloc (by simp) _
  have HX : Hid (BoxM ((w.alloc (.cells #[.int .i64 n, .int .i64 f, .int .i64 s] 28)).alloc (.cells #[.int .i64 m, .int .i64 g, .int .i64 t] 28)) w.heap.size n f s) := (boxM_new w n f s _ rfl).alloc _
  have HY : Hid (BoxM ((w.alloc (.cells #[.int .i64 n, .int .i64 f, .int .i64 s] 28)).alloc (.cells #[.int .i64 m, .int .i64 g, .int .i64 t] 28)) (w.heap.size + 1) m g t) := boxM_new _ m g t _ (by simp)
  cases b0
  · have HRe : Hid (R = (false, 1)) := by
      show R = _
      rw [← HR.out, newV, if_pos]
      rw [H0.out]
      rfl
    rw [HRe.out]
    go_enter Try.func4, Try.ntmps4
    go_wp2_with fail
    refine (isRight_b n f s false _ H0.out).mono ?_
    rintro e w1 ⟨rfl, hb⟩
    have B1 : Hid (Below w.heap.size w w1) := HB0.out.trans (hb.mono HB0.out.size)
    clear hb
    go_wp2_with fail
    go_ret2
    exact ⟨rfl, B1.out⟩
  · go_enter Try.func4, Try.ntmps4
    go_wp2_with fail
    refine (isRight_b n f s true _ H0.out).mono ?_
    rintro e w1 ⟨rfl, hb⟩
    have B1 : Hid (Below w.heap.size w w1) := HB0.out.trans (hb.mono HB0.out.size)
    have HX1 : Hid (BoxM w1 w.heap.size n f s) := HX.out.below hb HX.out.lt
    have HY1 : Hid (BoxM w1 (w.heap.size + 1) m g t) := HY.out.below hb HY.out.lt
    clear hb HX HY HB0
    obtain ⟨x0, x1, x2, xf⟩ := HX1.out
    obtain ⟨y0, y1, y2, yf⟩ := HY1.out
    go_wp2_with fail
    refine (isRight_b m g t b1 _ H1.out).mono ?_
    rintro e w2 ⟨rfl, hb⟩
    have B2 : Hid (Below w.heap.size w w2) := B1.out.trans (hb.mono B1.out.size)
    have HX2 : Hid (BoxM w2 w.heap.size n f s) := HX1.out.below hb HX1.out.lt
    have HY2 : Hid (BoxM w2 (w.heap.size + 1) m g t) := HY1.out.below hb HY1.out.lt
    clear hb HX1 HY1 B1 x0 x1 x2 xf y0 y1 y2 yf
    cases b1
    · have HRe : Hid (R = (false, 1)) := by
        show R = _
        rw [← HR.out, newV, if_pos]
        rw [H0.out, H1.out]
        rfl
      go_wp2_with fail
      go_ret2
      exact ⟨by rw [HRe.out]; rfl, B2.out⟩
    · have HOk : Hid (¬ (Mm.ok ⟨n, f, s⟩ && Mm.ok ⟨m, g, t⟩) = false) := by
        show ¬ _
        rw [H0.out, H1.out]
        simp
      obtain ⟨x0, x1, x2, xf⟩ := HX2.out
      obtain ⟨y0, y1, y2, yf⟩ := HY2.out
      by_cases hn : n = m
      · have HRe : Hid (R = (nwB ⟨n, f, s⟩ ⟨m, g, t⟩, 0)) := by
          show R = _
          rw [← HR.out, newV, if_neg HOk.out, if_neg (by simpa using hn)]
        obtain ⟨q, HQ⟩ : ∃ q, Hid (nwB ⟨n, f, s⟩ ⟨m, g, t⟩ = q) := ⟨_, rfl⟩
        have hnb : (n != m) = false := by simp [hn]
        clear hn
        go_wp2_with fail
        refine (isNewer_g n f s m g t q _ HQ.out).mono ?_
        rintro e w3 ⟨rfl, hb⟩
        have B3 : Hid (Below w.heap.size w w3) := B2.out.trans (hb.mono B2.out.size)
        clear hb
        go_wp2_with fail
        go_ret2
        exact ⟨by rw [HRe.out, HQ.out]; rfl, B3.out⟩
      · have HRe : Hid (R = (false, 3)) := by
          show R = _
          rw [← HR.out, newV, if_neg HOk.out, if_pos hn]
        go_wp2_with fail
        go_ret2
        exact ⟨by rw [HRe.out]; rfl, B2.out⟩
theorem newer_o {n f s m g t : Int} {q : Bool} {E : Int} (h : newV ⟨n, f, s⟩ ⟨m, g, t⟩ = (q, E)) (w : World) : Calls Try.prog 4 #[.agg #[.int .i64 n, .int .i64 f, .int .i64 s], .agg #[.int .i64 m, .int .i64 g, .int .i64 t]] w fun e w' => e = .returned (.tuple #[.bool q, eV E]) ∧ Below w.heap.size w w' := by
  have c := newer_c n f s m g t w
  rw [h] at c
  exact c
end Go.Proofs.Ytpelbmhhppcmeae
