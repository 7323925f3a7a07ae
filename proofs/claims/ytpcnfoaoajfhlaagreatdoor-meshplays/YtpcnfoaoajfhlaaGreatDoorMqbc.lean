/-
  Package tree by its contracts: ask.
-/
import Derived.Test.YtpcnfoaoajfhlaaGreatDoorMqay
import Derived.Test.YtpcnfoaoajfhlaaGreatDoorMqbb
import Derived.BigRegion
import Derived.BigQuiet
namespace Go.Proofs.YtpcnfoaoajfhlaaGreatDoor
set_option linter.unusedVariables false
set_option linter.unusedSimpArgs false
set_option linter.unusedVariables false
set_option linter.unusedSimpArgs false
open Go.RowKit

/-- the two boxes of ask -/
theorem box_two (w : World) (O U : Nat → Nat) : ∃ w2, w2 = box16 (box16 w O) U ∧ SixAt w2 w.heap.size O ∧ SixAt w2 (w.heap.size + 1) U ∧ Below w.heap.size w w2 := by
  refine ⟨_, rfl, (box16_six w O).grown (box16_below _ _), ?_, (box16_below _ _).trans ((box16_below _ _).mono (by rw [box16_size]; omega))⟩
  have h := box16_six (box16 w O) U
  rw [box16_size] at h
  exact h

set_option maxHeartbeats 4000000 in
theorem ask_alike (O U : Nat → Nat) (i x : Nat) (hi : i < 16) (h1 : O i = x) (h2 : U i = x) (w : World) :
    Calls Tryz.prog 182 #[ag16 O, ag16 U, .int .i64 (i : Nat)] w fun e w' => e = .returned (.tuple #[.slice none 0 0, .int .i64 1]) ∧ Below w.heap.size w w' := by
  obtain ⟨w2, HW, S1, S2, B2⟩ := box_two w O U
  have HB := (show Hid (Below _ _ _) from B2)
  have c1 := S1.cell i hi
  have c2 := S2.cell i hi
  have l1 := S1.lt
  have l2 := S2.lt
  rw [h1] at c1
  rw [h2] at c2
  have i1 : (0 : Int) ≤ (i : Int) := by omega
  have i2 : (i : Int) < 16 := by omega
  clear h1 h2 S1 S2 B2
  obtain ⟨b2, hb2⟩ : ∃ b, Hid (w.heap.size + 1 = b) := ⟨_, rfl⟩
  rw [hb2.out] at c2 l2
  go_enter Tryz.func182, Tryz.ntmps182
  go_upto_region 1 with fail
  show Code.wp _ _ _ _ (box16 (box16 w O) U)
  rw [← HW, hb2.out]
  clear HW hb2
  go_quiet (fail)
  go_wp2_with fail
  go_ret2
  exact ⟨rfl, ⟨HB.out.os, HB.out.tape, HB.out.output, HB.out.size, HB.out.block⟩⟩

set_option maxHeartbeats 4000000 in
theorem ask_end (O U : Nat → Nat) (i x y : Nat) (hi : i < 16) (h8 : 8 ≤ i) (h1 : O i = x) (h2 : U i = y) (hxy : x ≠ y) (w : World) :
    Calls Tryz.prog 182 #[ag16 O, ag16 U, .int .i64 (i : Nat)] w fun e w' => ∃ v', e = .returned (.tuple #[v', .int .i64 1]) ∧ OwnI w.heap.size w' v' [((i - 8 : Nat) : Int)] ∧ Below w.heap.size w w' := by
  obtain ⟨w2, HW, S1, S2, B2⟩ := box_two w O U
  have HB := (show Hid (Below _ _ _) from B2)
  have c1 := S1.cell i hi
  have c2 := S2.cell i hi
  have l1 := S1.lt
  have l2 := S2.lt
  rw [h1] at c1
  rw [h2] at c2
  have i1 : (0 : Int) ≤ (i : Int) := by omega
  have i2 : (i : Int) < 16 := by omega
  have i3 : (8 : Int) ≤ (i : Int) := by omega
  have i4 : (i : Int) - 8 = ((i - 8 : Nat) : Int) := by omega
  have hx : ¬ (x : Int) = (y : Int) := by omega
  clear h1 h2 S1 S2 B2 hxy
  obtain ⟨b2, hb2⟩ : ∃ b, Hid (w.heap.size + 1 = b) := ⟨_, rfl⟩
  rw [hb2.out] at c2 l2
  obtain ⟨k, hk⟩ : ∃ k, Hid (i - 8 = k) := ⟨_, rfl⟩
  rw [hk.out] at i4 ⊢
  go_enter Tryz.func182, Tryz.ntmps182
  go_upto_region 1 with fail
  show Code.wp _ _ _ _ (box16 (box16 w O) U)
  rw [← HW, hb2.out]
  clear HW hb2
  go_quiet (fail)
  go_wp2_with fail
  go_ret2
  have hb3 : Below w.heap.size w (w2.drewN nq) := HB.out.trans (below_drewN _ _ _)
  refine ⟨_, rfl, OwnI.one HB.out.size ?_, hb3.alloc hb3.size _⟩
  exact heap_alloc_new (w2.drewN nq) _

set_option maxHeartbeats 4000000 in
theorem ask_two (O U : Nat → Nat) (i x y : Nat) (l0 : 1 ≤ i) (l8 : i < 8) (h1 : O i = x) (h2 : U i = y) (hxy : x ≠ y) (p q : List Int) (n m : Nat) (hp : p.length ≤ 8) (hq : q.length ≤ 8) (hn : n ≤ 15) (hm : m ≤ 15)
    (cp : ∀ w, Calls Tryz.prog 182 #[ag16 O, ag16 U, .int .i64 (2 * i : Nat)] w fun e w' => ∃ v', e = .returned (.tuple #[v', .int .i64 (n : Nat)]) ∧ OwnI w.heap.size w' v' p ∧ Below w.heap.size w w')
    (cq : ∀ w, Calls Tryz.prog 182 #[ag16 O, ag16 U, .int .i64 (2 * i + 1 : Nat)] w fun e w' => ∃ v', e = .returned (.tuple #[v', .int .i64 (m : Nat)]) ∧ OwnI w.heap.size w' v' q ∧ Below w.heap.size w w') (w : World) :
    Calls Tryz.prog 182 #[ag16 O, ag16 U, .int .i64 (i : Nat)] w fun e w' => ∃ v', e = .returned (.tuple #[v', .int .i64 (n + m + 1 : Nat)]) ∧ OwnI w.heap.size w' v' (p ++ q) ∧ Below w.heap.size w w' := by
  obtain ⟨w2, HW, S1, S2, B2⟩ := box_two w O U
  have HB := (show Hid (Below _ _ _) from B2)
  have HS1 := (show Hid (SixAt _ _ _) from S1)
  have c1 := S1.cell i (by omega)
  have c2 := S2.cell i (by omega)
  have l1 := S1.lt
  have l2 := S2.lt
  rw [h1] at c1
  rw [h2] at c2
  have i1 : (0 : Int) ≤ (i : Int) := by omega
  have i2 : (i : Int) < 16 := by omega
  have i3 : ¬ (8 : Int) ≤ (i : Int) := by omega
  obtain ⟨P1, hP1⟩ : ∃ P : Nat, 2 * i = P := ⟨_, rfl⟩
  obtain ⟨P2, hP2⟩ : ∃ P : Nat, P1 + 1 = P := ⟨_, rfl⟩
  have j1 : (2 : Int) * (i : Int) = (P1 : Int) := by omega
  have j2 : (P1 : Int) + 1 = (P2 : Int) := by omega
  have j3 : IntKind.i64.wrap (P1 : Int) = (P1 : Int) := wrap_small _ (by omega) (by omega)
  have j4 : IntKind.i64.wrap (P2 : Int) = (P2 : Int) := wrap_small _ (by omega) (by omega)
  rw [hP1, hP2] at cq
  rw [hP1] at cp
  have HCp : Hid (∀ w, Calls Tryz.prog 182 #[ag16 O, ag16 U, .int .i64 (P1 : Nat)] w fun e w' => ∃ v', e = .returned (.tuple #[v', .int .i64 (n : Nat)]) ∧ OwnI w.heap.size w' v' p ∧ Below w.heap.size w w') := cp
  have HCq : Hid (∀ w, Calls Tryz.prog 182 #[ag16 O, ag16 U, .int .i64 (P2 : Nat)] w fun e w' => ∃ v', e = .returned (.tuple #[v', .int .i64 (m : Nat)]) ∧ OwnI w.heap.size w' v' q ∧ Below w.heap.size w w') := cq
  have hx : ¬ (x : Int) = (y : Int) := by omega
  obtain ⟨N, hN⟩ : ∃ N, n + m + 1 = N := ⟨_, rfl⟩
  have j5 : (1 : Int) + (n : Int) + (m : Int) = (N : Int) := by omega
  rw [hN]
  clear h1 h2 S1 B2 hxy hP1 hP2 hN cp cq
  obtain ⟨b2, hb2⟩ : ∃ b, Hid (w.heap.size + 1 = b) := ⟨_, rfl⟩
  rw [hb2.out] at c2 l2 S2
  have HS2 := (show Hid (SixAt _ _ _) from S2)
  clear S2
  go_enter Tryz.func182, Tryz.ntmps182
  go_upto_region 1 with fail
  show Code.wp _ _ _ _ (box16 (box16 w O) U)
  rw [← HW, hb2.out]
  clear HW hb2
  go_quiet (fail)
  go_upto_region 5 with fail
  have B3 : Hid (Below w.heap.size w (w2.drewN nq)) := HB.out.trans (below_drewN _ _ _)
  have S3 : Hid (SixAt (w2.drewN nq) w.heap.size O) := HS1.out.of_block rfl
  have T3 : Hid (SixAt (w2.drewN nq) b2 U) := HS2.out.of_block rfl
  clear c1 c2 HS1 HS2 HB l1 l2
  generalize w2.drewN nq = w3 at B3 S3 T3 ⊢
  obtain ⟨d0, d1, d2, d3, d4, d5, d6, d7, d8, d9, d10, d11, d12, d13, d14, d15⟩ := six_cells S3.out
  obtain ⟨c0, c1, c2, c3, c4, c5, c6, c7, c8, c9, c10, c11, c12, c13, c14, c15⟩ := six_cells T3.out
  go_wp2_with fail
  refine (HCp.out _).mono ?_
  rintro e w4 ⟨v1, rfl, ho1, hb⟩
  have B4 : Hid (Below w.heap.size w w4) := B3.out.trans (hb.mono B3.out.size)
  have S4 : Hid (SixAt w4 w.heap.size O) := S3.out.grown hb
  have T4 : Hid (SixAt w4 b2 U) := T3.out.grown hb
  have O4 : Hid (OwnI w.heap.size w4 v1 p) := ho1.base B3.out.size
  clear hb ho1 S3 T3 B3 c0 c1 c2 c3 c4 c5 c6 c7 c8 c9 c10 c11 c12 c13 c14 c15 d0 d1 d2 d3 d4 d5 d6 d7 d8 d9 d10 d11 d12 d13 d14 d15 HCp
  obtain ⟨d0, d1, d2, d3, d4, d5, d6, d7, d8, d9, d10, d11, d12, d13, d14, d15⟩ := six_cells S4.out
  obtain ⟨c0, c1, c2, c3, c4, c5, c6, c7, c8, c9, c10, c11, c12, c13, c14, c15⟩ := six_cells T4.out
  go_wp2_with fail
  refine (HCq.out _).mono ?_
  rintro e w5 ⟨v2, rfl, ho2, hb⟩
  have B5 : Hid (Below w.heap.size w w5) := B4.out.trans (hb.mono B4.out.size)
  have O5 : Hid (OwnI w.heap.size w5 v1 p) := O4.out.below hb
  have P5 : Hid (OwnI w4.heap.size w5 v2 q) := ho2
  clear hb ho2 S4 T4 B4 c0 c1 c2 c3 c4 c5 c6 c7 c8 c9 c10 c11 c12 c13 c14 c15 d0 d1 d2 d3 d4 d5 d6 d7 d8 d9 d10 d11 d12 d13 d14 d15 HCq
  have HL : Hid (p.length + q.length ≤ 100) := by show _ ≤ _; omega
  have HSz : Hid (w.heap.size ≤ w5.heap.size) := B5.out.size
  go_wp2_with (at_builtin; refine wp_appRow _ rfl _ _ rfl w.heap.size _ p rfl O5.out w4.heap.size _ q rfl P5.out HL.out HSz.out ?_)
  intro v3 w6 O6 G6
  have HO6 := (show Hid (OwnI _ _ _ _) from O6)
  clear O6
  go_wp2_with fail
  go_ret2
  exact ⟨_, rfl, HO6.out, below_grownF B5.out (Nat.le_refl _) G6.out (fun c hc => O5.out.from c hc)⟩
end Go.Proofs.YtpcnfoaoajfhlaaGreatDoor
