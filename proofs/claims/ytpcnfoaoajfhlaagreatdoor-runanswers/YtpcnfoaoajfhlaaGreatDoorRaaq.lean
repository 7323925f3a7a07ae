/-
  Package tree by its contracts: ask.
  Package tree by its contracts: ask of any two trees, Diff.
  Package swap by its contracts: Lacks, take, Pair.
  Package swap by its contracts: Pair where it goes, and that what comes back is new.
-/
import Derived.Test.YtpcnfoaoajfhlaaGreatDoorRaan
import Derived.Test.YtpcnfoaoajfhlaaGreatDoorRaap
import Derived.BigRegion
import Derived.BigQuiet
import Derived.Test.YtpcnfoaoajfhlaaGreatDoorRaaf
import Derived.Test.YtpcnfoaoajfhlaaGreatDoorRaaj
namespace Go.Proofs.YtpcnfoaoajfhlaaGreatDoor
set_option linter.unusedVariables false
set_option linter.unusedSimpArgs false
set_option linter.unusedVariables false
set_option linter.unusedSimpArgs false
open Go.RowKit

/-- the two boxes of ask -/
theorem box_two (w : World) (O U : Nat → Nat) : ∃ w2, w2 = box16 (box16 w O) U ∧ SixAt w2 w.heap.size O ∧ SixAt w2 (w.heap.size + 1) U ∧ Below w.heap.size w w2 := by
  refine ⟨_, rfl, (box16_six w O).grown (box16_below _ _), ?_, (box16_below _ _).trans ((box16_below _ _).mono (by rw [box16_size]; omega))⟩
  have h := box16_six (box16 w O) U
  rw [box16_size] at h
  exact h

set_option maxHeartbeats 4000000 in
theorem ask_alike (O U : Nat → Nat) (i x : Nat) (hi : i < 16) (h1 : O i = x) (h2 : U i = x) (w : World) :
    Calls Tryz.prog 182 #[ag16 O, ag16 U, .int .i64 (i : Nat)] w fun e w' => e = .returned (.tuple #[.slice none 0 0, .int .i64 1]) ∧ Below w.heap.size w w' := by
  obtain ⟨w2, HW, S1, S2, B2⟩ := box_two w O U
  have HB := (show Hid (Below _ _ _) from B2)
  have c1 := S1.cell i hi
  have c2 := S2.cell i hi
  have l1 := S1.lt
  have l2 := S2.lt
  rw [h1] at c1
  rw [h2] at c2
  have i1 : (0 : Int) ≤ (i : Int) := by omega
  have i2 : (i : Int) < 16 := by omega
  clear h1 h2 S1 S2 B2
  obtain ⟨b2, hb2⟩ : ∃ b, Hid (w.heap.size + 1 = b) := ⟨_, rfl⟩
  rw [hb2.out] at c2 l2
  go_enter Tryz.func182, Tryz.ntmps182
  go_upto_region 1 with fail
  show Code.wp _ _ _ _ (box16 (box16 w O) U)
  rw [← HW, hb2.out]
  clear HW hb2
  go_quiet (fail)
  go_wp2_with fail
  go_ret2
  exact ⟨rfl, ⟨HB.out.os, HB.out.tape, HB.out.output, HB.out.size, HB.out.block⟩⟩

set_option maxHeartbeats 4000000 in
theorem ask_end (O U : Nat → Nat) (i x y : Nat) (hi : i < 16) (h8 : 8 ≤ i) (h1 : O i = x) (h2 : U i = y) (hxy : x ≠ y) (w : World) :
    Calls Tryz.prog 182 #[ag16 O, ag16 U, .int .i64 (i : Nat)] w fun e w' => ∃ v', e = .returned (.tuple #[v', .int .i64 1]) ∧ OwnI w.heap.size w' v' [((i - 8 : Nat) : Int)] ∧ Below w.heap.size w w' := by
  obtain ⟨w2, HW, S1, S2, B2⟩ := box_two w O U
  have HB := (show Hid (Below _ _ _) from B2)
  have c1 := S1.cell i hi
  have c2 := S2.cell i hi
  have l1 := S1.lt
  have l2 := S2.lt
  rw [h1] at c1
  rw [h2] at c2
  have i1 : (0 : Int) ≤ (i : Int) := by omega
  have i2 : (i : Int) < 16 := by omega
  have i3 : (8 : Int) ≤ (i : Int) := by omega
  have i4 : (i : Int) - 8 = ((i - 8 : Nat) : Int) := by omega
  have hx : ¬ (x : Int) = (y : Int) := by omega
  clear h1 h2 S1 S2 B2 hxy
  obtain ⟨b2, hb2⟩ : ∃ b, Hid (w.heap.size + 1 = b) := ⟨_, rfl⟩
  rw [hb2.out] at c2 l2
  obtain ⟨k, hk⟩ : ∃ k, Hid (i - 8 = k) := ⟨_, rfl⟩
  rw [hk.out] at i4 ⊢
  go_enter Tryz.func182, Tryz.ntmps182
  go_upto_region 1 with fail
  show Code.wp _ _ _ _ (box16 (box16 w O) U)
  rw [← HW, hb2.out]
  clear HW hb2
  go_quiet (fail)
  go_wp2_with fail
  go_ret2
  have hb3 : Below w.heap.size w (w2.drewN nq) := HB.out.trans (below_drewN _ _ _)
  refine ⟨_, rfl, OwnI.one HB.out.size ?_, hb3.alloc hb3.size _⟩
  exact heap_alloc_new (w2.drewN nq) _

set_option maxHeartbeats 4000000 in
theorem ask_two (O U : Nat → Nat) (i x y : Nat) (l0 : 1 ≤ i) (l8 : i < 8) (h1 : O i = x) (h2 : U i = y) (hxy : x ≠ y) (p q : List Int) (n m : Nat) (hp : p.length ≤ 8) (hq : q.length ≤ 8) (hn : n ≤ 15) (hm : m ≤ 15)
    (cp : ∀ w, Calls Tryz.prog 182 #[ag16 O, ag16 U, .int .i64 (2 * i : Nat)] w fun e w' => ∃ v', e = .returned (.tuple #[v', .int .i64 (n : Nat)]) ∧ OwnI w.heap.size w' v' p ∧ Below w.heap.size w w')
    (cq : ∀ w, Calls Tryz.prog 182 #[ag16 O, ag16 U, .int .i64 (2 * i + 1 : Nat)] w fun e w' => ∃ v', e = .returned (.tuple #[v', .int .i64 (m : Nat)]) ∧ OwnI w.heap.size w' v' q ∧ Below w.heap.size w w') (w : World) :
    Calls Tryz.prog 182 #[ag16 O, ag16 U, .int .i64 (i : Nat)] w fun e w' => ∃ v', e = .returned (.tuple #[v', .int .i64 (n + m + 1 : Nat)]) ∧ OwnI w.heap.size w' v' (p ++ q) ∧ Below w.heap.size w w' := by
  obtain ⟨w2, HW, S1, S2, B2⟩ := box_two w O U
  have HB := (show Hid (Below _ _ _) from B2)
  have HS1 := (show Hid (SixAt _ _ _) from S1)
  have c1 := S1.cell i (by omega)
  have c2 := S2.cell i (by omega)
  have l1 := S1.lt
  have l2 := S2.lt
  rw [h1] at c1
  rw [h2] at c2
  have i1 : (0 : Int) ≤ (i : Int) := by omega
  have i2 : (i : Int) < 16 := by omega
  have i3 : ¬ (8 : Int) ≤ (i : Int) := by omega
  obtain ⟨P1, hP1⟩ : ∃ P : Nat, 2 * i = P := ⟨_, rfl⟩
  obtain ⟨P2, hP2⟩ : ∃ P : Nat, P1 + 1 = P := ⟨_, rfl⟩
  have j1 : (2 : Int) * (i : Int) = (P1 : Int) := by omega
  have j2 : (P1 : Int) + 1 = (P2 : Int) := by omega
  have j3 : IntKind.i64.wrap (P1 : Int) = (P1 : Int) := wrap_small _ (by omega) (by omega)
  have j4 : IntKind.i64.wrap (P2 : Int) = (P2 : Int) := wrap_small _ (by omega) (by omega)
  rw [hP1, hP2] at cq
  rw [hP1] at cp
  have HCp : Hid (∀ w, Calls Tryz.prog 182 #[ag16 O, ag16 U, .int .i64 (P1 : Nat)] w fun e w' => ∃ v', e = .returned (.tuple #[v', .int .i64 (n : Nat)]) ∧ OwnI w.heap.size w' v' p ∧ Below w.heap.size w w') := cp
  have HCq : Hid (∀ w, Calls Tryz.prog 182 #[ag16 O, ag16 U, .int .i64 (P2 : Nat)] w fun e w' => ∃ v', e = .returned (.tuple #[v', .int .i64 (m : Nat)]) ∧ OwnI w.heap.size w' v' q ∧ Below w.heap.size w w') := cq
  have hx : ¬ (x : Int) = (y : Int) := by omega
  obtain ⟨N, hN⟩ : ∃ N, n + m + 1 = N := ⟨_, rfl⟩
  have j5 : (1 : Int) + (n : Int) + (m : Int) = (N : Int) := by omega
  rw [hN]
  clear h1 h2 S1 B2 hxy hP1 hP2 hN cp cq
  obtain ⟨b2, hb2⟩ : ∃ b, Hid (w.heap.size + 1 = b) := ⟨_, rfl⟩
  rw [hb2.out] at c2 l2 S2
  have HS2 := (show Hid (SixAt _ _ _) from S2)
  clear S2
  go_enter Tryz.func182, Tryz.ntmps182
  go_upto_region 1 with fail
  show Code.wp _ _ _ _ (box16 (box16 w O) U)
  rw [← HW, hb2.out]
  clear HW hb2
  go_quiet (fail)
  go_upto_region 5 with fail
  have B3 : Hid (Below w.heap.size w (w2.drewN nq)) := HB.out.trans (below_drewN _ _ _)
  have S3 : Hid (SixAt (w2.drewN nq) w.heap.size O) := HS1.out.of_block rfl
  have T3 : Hid (SixAt (w2.drewN nq) b2 U) := HS2.out.of_block rfl
  clear c1 c2 HS1 HS2 HB l1 l2
  generalize w2.drewN nq = w3 at B3 S3 T3 ⊢
  obtain ⟨d0, d1, d2, d3, d4, d5, d6, d7, d8, d9, d10, d11, d12, d13, d14, d15⟩ := six_cells S3.out
  obtain ⟨c0, c1, c2, c3, c4, c5, c6, c7, c8, c9, c10, c11, c12, c13, c14, c15⟩ := six_cells T3.out
  go_wp2_with fail
  refine (HCp.out _).mono ?_
  rintro e w4 ⟨v1, rfl, ho1, hb⟩
  have B4 : Hid (Below w.heap.size w w4) := B3.out.trans (hb.mono B3.out.size)
  have S4 : Hid (SixAt w4 w.heap.size O) := S3.out.grown hb
  have T4 : Hid (SixAt w4 b2 U) := T3.out.grown hb
  have O4 : Hid (OwnI w.heap.size w4 v1 p) := ho1.base B3.out.size
  clear hb ho1 S3 T3 B3 c0 c1 c2 c3 c4 c5 c6 c7 c8 c9 c10 c11 c12 c13 c14 c15 d0 d1 d2 d3 d4 d5 d6 d7 d8 d9 d10 d11 d12 d13 d14 d15 HCp
  obtain ⟨d0, d1, d2, d3, d4, d5, d6, d7, d8, d9, d10, d11, d12, d13, d14, d15⟩ := six_cells S4.out
  obtain ⟨c0, c1, c2, c3, c4, c5, c6, c7, c8, c9, c10, c11, c12, c13, c14, c15⟩ := six_cells T4.out
  go_wp2_with fail
  refine (HCq.out _).mono ?_
  rintro e w5 ⟨v2, rfl, ho2, hb⟩
  have B5 : Hid (Below w.heap.size w w5) := B4.out.trans (hb.mono B4.out.size)
  have O5 : Hid (OwnI w.heap.size w5 v1 p) := O4.out.below hb
  have P5 : Hid (OwnI w4.heap.size w5 v2 q) := ho2
  clear hb ho2 S4 T4 B4 c0 c1 c2 c3 c4 c5 c6 c7 c8 c9 c10 c11 c12 c13 c14 c15 d0 d1 d2 d3 d4 d5 d6 d7 d8 d9 d10 d11 d12 d13 d14 d15 HCq
  have HL : Hid (p.length + q.length ≤ 100) := by show _ ≤ _; omega
  have HSz : Hid (w.heap.size ≤ w5.heap.size) := B5.out.size
  go_wp2_with (at_builtin; refine wp_appRow _ rfl _ _ rfl w.heap.size _ p rfl O5.out w4.heap.size _ q rfl P5.out HL.out HSz.out ?_)
  intro v3 w6 O6 G6
  have HO6 := (show Hid (OwnI _ _ _ _) from O6)
  clear O6
  go_wp2_with fail
  go_ret2
  exact ⟨_, rfl, HO6.out, below_grownF B5.out (Nat.le_refl _) G6.out (fun c hc => O5.out.from c hc)⟩
end Go.Proofs.YtpcnfoaoajfhlaaGreatDoor

namespace Go.Proofs.YtpcnfoaoajfhlaaGreatDoor
set_option linter.unusedVariables false
set_option linter.unusedSimpArgs false
open Go.RowKit

theorem ask_c (f g : Nat → Nat) : ∀ d i, dep i = d → 1 ≤ i → i < 16 → ∀ w,
    Calls Tryz.prog 182 #[ag16 (downTo f 0), ag16 (downTo g 0), .int .i64 (i : Nat)] w fun e w' => ∃ v', e = .returned (.tuple #[v', .int .i64 (partN f g i : Nat)]) ∧ OwnI w.heap.size w' v' (partK f g i) ∧ Below w.heap.size w w' := by
  intro d
  induction d with
  | zero =>
    intro i hd h1 h16 w
    have h8 : 8 ≤ i := by
      unfold dep at hd
      split at hd
      · omega
      · split at hd
        · omega
        · split at hd <;> omega
    have ef : downTo f 0 i = trN f i := if_pos (by omega)
    have eg : downTo g 0 i = trN g i := if_pos (by omega)
    by_cases hx : trN f i = trN g i
    · obtain ⟨e1, e2⟩ := part_alike hx
      rw [e1, e2]
      refine (ask_alike (downTo f 0) (downTo g 0) i _ h16 ef (by rw [eg, hx]) w).mono ?_
      rintro e w' ⟨rfl, hb⟩
      exact ⟨_, rfl, OwnI.nil _ _, hb⟩
    · obtain ⟨e1, e2⟩ := part_end h8 hx
      rw [e1, e2]
      exact ask_end (downTo f 0) (downTo g 0) i _ _ h16 h8 ef eg hx w
  | succ d ih =>
    intro i hd h1 h16 w
    have h8 : i < 8 := by
      unfold dep at hd
      split at hd
      · omega
      · split at hd
        · omega
        · split at hd <;> omega
    have ef : downTo f 0 i = trN f i := if_pos (by omega)
    have eg : downTo g 0 i = trN g i := if_pos (by omega)
    by_cases hx : trN f i = trN g i
    · obtain ⟨e1, e2⟩ := part_alike hx
      rw [e1, e2]
      refine (ask_alike (downTo f 0) (downTo g 0) i _ h16 ef (by rw [eg, hx]) w).mono ?_
      rintro e w' ⟨rfl, hb⟩
      exact ⟨_, rfl, OwnI.nil _ _, hb⟩
    · obtain ⟨e1, e2⟩ := part_two h1 h8 hx
      obtain ⟨d1, d2⟩ := dep_two h1 h8
      rw [e1, e2]
      exact ask_two (downTo f 0) (downTo g 0) i _ _ h1 h8 ef eg hx _ _ _ _ (partK_len _ _ _) (partK_len _ _ _) (partN_len _ _ _) (partN_len _ _ _) (ih (2 * i) (by omega) (by omega) (by omega)) (ih (2 * i + 1) (by omega) (by omega) (by omega)) w

theorem diff_one (va vb : Value) (a : List En) (n : Int) (w : World) (hra : RowIs w va a) (h : badL a = n) (hn : n ≠ 0) :
    Calls Tryz.prog 141 #[va, vb] w fun e w' => e = .returned (.tuple #[.slice none 0 0, .int .i64 0, .iface 85 (.int .i64 n)]) ∧ Below w.heap.size w w' := by
  have HC : Hid (Calls Tryz.prog 181 #[va] w fun e w' => e = .returned (.tuple #[ag16 (fun _ => 0), .iface 85 (.int .i64 n)]) ∧ Below w.heap.size w w') := grow_bad va a n w hra h hn
  clear h hra
  go_enter Tryz.func141, Tryz.ntmps141
  go_wp2_with fail
  refine HC.out.mono ?_
  rintro e w1 ⟨rfl, hb⟩
  have B1 : Hid (Below w.heap.size w w1) := hb
  clear hb HC
  unfold ag16
  go_upto_region 2 with fail
  show Code.wp _ _ _ _ (box16 w1 (fun _ => 0))
  have B2 : Hid (Below w.heap.size w (box16 w1 (fun _ => 0))) := B1.out.trans ((box16_below _ _).mono B1.out.size)
  generalize box16 w1 (fun _ => 0) = w2 at B2 ⊢
  go_wp2_with fail
  go_ret3
  exact ⟨rfl, B2.out⟩

set_option maxHeartbeats 4000000 in
theorem diff_other (va vb : Value) (a b : List En) (n : Int) (w : World) (hra : RowIs w va a) (hrb : RowIs w vb b) (h : badL a = 0) (h' : badL b = n) (hn : n ≠ 0) (hT : Lib.TabIs Tryz.prog w powName .u64 Lib.pow10Tab) :
    Calls Tryz.prog 141 #[va, vb] w fun e w' => e = .returned (.tuple #[.slice none 0 0, .int .i64 0, .iface 85 (.int .i64 n)]) ∧ Below w.heap.size w w' := by
  obtain ⟨O, HO⟩ : ∃ O, Hid (downTo (leafN a) 0 = O) := ⟨_, rfl⟩
  have c1 := grow_ok va a w hra h hT
  rw [HO.out] at c1
  have HC : Hid (Calls Tryz.prog 181 #[va] w fun e w' => e = .returned (.tuple #[ag16 O, .nilIface]) ∧ Below w.heap.size w w') := c1
  have HC2 : Hid (∀ w', Below w.heap.size w w' → Calls Tryz.prog 181 #[vb] w' fun e w'' => e = .returned (.tuple #[ag16 (fun _ => 0), .iface 85 (.int .i64 n)]) ∧ Below w'.heap.size w' w'') := fun w' hb => grow_bad vb b n w' (hrb.below hb) h' hn
  clear h hra hrb h' c1 HO hT
  go_enter Tryz.func141, Tryz.ntmps141
  go_wp2_with fail
  refine HC.out.mono ?_
  rintro e w1 ⟨rfl, hb⟩
  have B1 : Hid (Below w.heap.size w w1) := hb
  clear hb HC
  unfold ag16
  go_upto_region 2 with fail
  show Code.wp _ _ _ _ (box16 w1 O)
  have B2 : Hid (Below w.heap.size w (box16 w1 O)) := B1.out.trans ((box16_below _ _).mono B1.out.size)
  generalize box16 w1 O = w2 at B2 ⊢
  go_wp2_with fail
  refine (HC2.out _ B2.out).mono ?_
  rintro e w3 ⟨rfl, hb⟩
  have B3 : Hid (Below w.heap.size w w3) := B2.out.trans (hb.mono B2.out.size)
  clear hb B2 B1
  unfold ag16
  go_upto_region 5 with fail
  show Code.wp _ _ _ _ (box16 w3 (fun _ => 0))
  have B4 : Hid (Below w.heap.size w (box16 w3 (fun _ => 0))) := B3.out.trans ((box16_below _ _).mono B3.out.size)
  generalize box16 w3 (fun _ => 0) = w4 at B4 ⊢
  go_wp2_with fail
  go_ret3
  exact ⟨rfl, B4.out⟩

set_option maxHeartbeats 4000000 in
theorem diff_ok (va vb : Value) (a b : List En) (w : World) (hra : RowIs w va a) (hrb : RowIs w vb b) (h : badL a = 0) (h' : badL b = 0) (hT : Lib.TabIs Tryz.prog w powName .u64 Lib.pow10Tab) :
    Calls Tryz.prog 141 #[va, vb] w fun e w' => ∃ v', e = .returned (.tuple #[v', .int .i64 (partN (leafN a) (leafN b) 1 : Nat), .nilIface]) ∧ OwnI w.heap.size w' v' (partK (leafN a) (leafN b) 1) ∧ Below w.heap.size w w' := by
  have HT : Hid (Lib.TabBelow Tryz.prog w.heap.size w powName .u64 Lib.pow10Tab) := Lib.tabBelow_of_tabIs hT
  obtain ⟨O, HO⟩ : ∃ O, Hid (downTo (leafN a) 0 = O) := ⟨_, rfl⟩
  obtain ⟨U, HU⟩ : ∃ U, Hid (downTo (leafN b) 0 = U) := ⟨_, rfl⟩
  have c1 := grow_ok va a w hra h hT
  rw [HO.out] at c1
  have HC : Hid (Calls Tryz.prog 181 #[va] w fun e w' => e = .returned (.tuple #[ag16 O, .nilIface]) ∧ Below w.heap.size w w') := c1
  have HC2 : Hid (∀ w', Below w.heap.size w w' → Calls Tryz.prog 181 #[vb] w' fun e w'' => e = .returned (.tuple #[ag16 U, .nilIface]) ∧ Below w'.heap.size w' w'') := fun w' hb => by
    have c := grow_ok vb b w' (hrb.below hb) h' (HT.out w' hb)
    rw [HU.out] at c
    exact c
  obtain ⟨K, HK⟩ : ∃ K, Hid (partK (leafN a) (leafN b) 1 = K) := ⟨_, rfl⟩
  obtain ⟨N, HN⟩ : ∃ N, Hid (partN (leafN a) (leafN b) 1 = N) := ⟨_, rfl⟩
  have HA : Hid (∀ w, Calls Tryz.prog 182 #[ag16 O, ag16 U, .int .i64 1] w fun e w' => ∃ v', e = .returned (.tuple #[v', .int .i64 (N : Nat)]) ∧ OwnI w.heap.size w' v' K ∧ Below w.heap.size w w') := fun w => by
    have c := ask_c (leafN a) (leafN b) 3 1 rfl (by omega) (by omega) w
    rw [HO.out, HU.out, HK.out, HN.out] at c
    exact c
  rw [HK.out, HN.out]
  clear h hra hrb h' c1 HO HU hT HT HK HN
  go_enter Tryz.func141, Tryz.ntmps141
  go_wp2_with fail
  refine HC.out.mono ?_
  rintro e w1 ⟨rfl, hb⟩
  have B1 : Hid (Below w.heap.size w w1) := hb
  clear hb HC
  unfold ag16
  go_upto_region 2 with fail
  show Code.wp _ _ _ _ (box16 w1 O)
  have B2 : Hid (Below w.heap.size w (box16 w1 O)) := B1.out.trans ((box16_below _ _).mono B1.out.size)
  have S2 : Hid (SixAt (box16 w1 O) w1.heap.size O) := box16_six w1 O
  generalize box16 w1 O = w2 at B2 S2 ⊢
  obtain ⟨b1, hb1⟩ : ∃ b, w1.heap.size = b := ⟨_, rfl⟩
  rw [hb1] at S2 ⊢
  clear hb1 B1
  go_wp2_with fail
  refine (HC2.out _ B2.out).mono ?_
  rintro e w3 ⟨rfl, hb⟩
  have B3 : Hid (Below w.heap.size w w3) := B2.out.trans (hb.mono B2.out.size)
  have S3 : Hid (SixAt w3 b1 O) := S2.out.grown hb
  clear hb B2 S2
  unfold ag16
  go_upto_region 5 with fail
  show Code.wp _ _ _ _ (box16 w3 U)
  have B4 : Hid (Below w.heap.size w (box16 w3 U)) := B3.out.trans ((box16_below _ _).mono B3.out.size)
  have S4 : Hid (SixAt (box16 w3 U) b1 O) := S3.out.grown (box16_below _ _)
  have T4 : Hid (SixAt (box16 w3 U) w3.heap.size U) := box16_six w3 U
  generalize box16 w3 U = w4 at B4 S4 T4 ⊢
  obtain ⟨b2, hb2⟩ : ∃ b, w3.heap.size = b := ⟨_, rfl⟩
  rw [hb2] at T4 ⊢
  clear hb2 B3 S3
  obtain ⟨d0, d1, d2, d3, d4, d5, d6, d7, d8, d9, d10, d11, d12, d13, d14, d15⟩ := six_cells S4.out
  obtain ⟨c0, c1, c2, c3, c4, c5, c6, c7, c8, c9, c10, c11, c12, c13, c14, c15⟩ := six_cells T4.out
  go_wp2_with fail
  refine (HA.out _).mono ?_
  rintro e w5 ⟨v1, rfl, ho1, hb⟩
  have B5 : Hid (Below w.heap.size w w5) := B4.out.trans (hb.mono B4.out.size)
  have O5 : Hid (OwnI w.heap.size w5 v1 K) := ho1.base B4.out.size
  clear hb ho1 B4 S4 T4 d0 d1 d2 d3 d4 d5 d6 d7 d8 d9 d10 d11 d12 d13 d14 d15 c0 c1 c2 c3 c4 c5 c6 c7 c8 c9 c10 c11 c12 c13 c14 c15
  go_wp2_with fail
  go_ret3
  exact ⟨_, rfl, O5.out, B5.out⟩
end Go.Proofs.YtpcnfoaoajfhlaaGreatDoor

namespace Go.Proofs.YtpcnfoaoajfhlaaGreatDoor
set_option linter.unusedVariables false
set_option linter.unusedSimpArgs false
open Go.RowKit

theorem lacks_ok (va vb : Value) (a b : List En) (w : World) (hra : RowIs w va a) (hrb : RowIs w vb b) (h : badL a = 0) (h' : badL b = 0) (hT : Lib.TabIs Tryz.prog w powName .u64 Lib.pow10Tab) :
    Calls Tryz.prog 101 #[va, vb] w fun e w' => ∃ v', e = .returned (.tuple #[v', .nilIface]) ∧ OwnI w.heap.size w' v' (lackK a b) ∧ Below w.heap.size w w' := by
  have c := diff_ok va vb a b w hra hrb h h' hT
  have e0 : partK (leafN a) (leafN b) 1 = lackK a b := rfl
  rw [e0] at c
  obtain ⟨K, HK⟩ : ∃ K, Hid (lackK a b = K) := ⟨_, rfl⟩
  obtain ⟨N, HN⟩ : ∃ N, Hid (partN (leafN a) (leafN b) 1 = N) := ⟨_, rfl⟩
  rw [HK.out, HN.out] at c
  rw [HK.out]
  have HC : Hid _ := c
  clear c e0 hra hrb h h' hT HK HN
  go_enter Tryz.func101, Tryz.ntmps101
  go_wp2_with fail
  refine Calls.mono HC.out ?_
  rintro e w1 ⟨v1, rfl, ho, hb⟩
  have B1 : Hid (Below w.heap.size w w1) := hb
  have O1 : Hid (OwnI w.heap.size w1 v1 K) := ho
  clear hb ho HC
  go_wp2_with fail
  go_ret2
  exact ⟨v1, rfl, O1.out, B1.out⟩
theorem diff_bad (va vb : Value) (a b : List En) (n : Int) (w : World) (hra : RowIs w va a) (hrb : RowIs w vb b) (h : bad2 (badL a) (badL b) = n) (hn : n ≠ 0) (hT : Lib.TabIs Tryz.prog w powName .u64 Lib.pow10Tab) :
    Calls Tryz.prog 141 #[va, vb] w fun e w' => e = .returned (.tuple #[.slice none 0 0, .int .i64 0, .iface 85 (.int .i64 n)]) ∧ Below w.heap.size w w' := by
  unfold bad2 at h
  split at h
  · exact diff_other va vb a b n w hra hrb (by assumption) h hn hT
  · exact diff_one va vb a n w hra h hn
theorem lacks_bad (va vb : Value) (a b : List En) (n : Int) (w : World) (hra : RowIs w va a) (hrb : RowIs w vb b) (h : bad2 (badL a) (badL b) = n) (hn : n ≠ 0) (hT : Lib.TabIs Tryz.prog w powName .u64 Lib.pow10Tab) :
    Calls Tryz.prog 101 #[va, vb] w fun e w' => e = .returned (.tuple #[.slice none 0 0, .iface 85 (.int .i64 n)]) ∧ Below w.heap.size w w' := by
  have HC : Hid _ := diff_bad va vb a b n w hra hrb h hn hT
  clear hra hrb h hn hT
  go_enter Tryz.func101, Tryz.ntmps101
  go_wp2_with fail
  refine Calls.mono HC.out ?_
  rintro e w1 ⟨rfl, hb⟩
  have B1 : Hid (Below w.heap.size w w1) := hb
  clear hb HC
  go_wp2_with fail
  go_ret2
  exact ⟨rfl, B1.out⟩

/-- what one is given is Added -/
theorem take_o (vo vf vk : Value) (own from' : List En) (K : List Int) (R1 : List En) (R2 : Int) (w : World) (hro : RowIs w vo own) (hrf : RowIs w vf from') (hk : IntsIs w vk K) (hcap : CapOk vk K.length) (hbo : badL own = 0) (hbf : badL from' = 0) (hbk : badK K = 0) (h : giveE own from' K = (R1, R2)) :
    Calls Tryz.prog 102 #[vo, vf, vk] w fun e w' => ∃ v', e = .returned (.tuple #[v', eV R2]) ∧ RowIs w' v' R1 ∧ Below w.heap.size w w' := by
  have HC : Hid (Calls Tryz.prog 142 #[vf, vk] w fun e w' => ∃ v', e = .returned (.tuple #[v', .nilIface]) ∧ RowIs w' v' (someE from' K) ∧ Below w.heap.size w w') := give_ok vf vk from' K w hrf hk hcap hbf hbk
  have HO : Hid (RowIs w vo own) := hro
  have HG : Hid (cacheBoth own (someE from' K) = (R1, R2)) := (give_as_both (badL_good hbo) (badL_good hbf)).trans h
  clear hro hrf hk hcap hbo hbf hbk h
  obtain ⟨G, HGv⟩ : ∃ G, Hid (someE from' K = G) := ⟨_, rfl⟩
  rw [HGv.out] at HC HG
  clear HGv
  obtain ⟨E, HE⟩ : ∃ E, Hid (eV R2 = E) := ⟨_, rfl⟩
  rw [HE.out]
  go_enter Tryz.func102, Tryz.ntmps102
  go_wp2_with fail
  refine Calls.mono HC.out ?_
  rintro e w1 ⟨v1, rfl, hr, hb⟩
  have B1 : Hid (Below w.heap.size w w1) := hb
  have R1' : Hid (RowIs w1 v1 G) := hr
  clear hb hr HC
  go_wp2_with fail
  refine (both_o HG.out vo v1 _ (HO.out.below B1.out) R1'.out).mono ?_
  rintro e w2 ⟨v2, he, ho, hb⟩
  rw [HE.out] at he
  subst he
  have B2 : Hid (Below w.heap.size w w2) := B1.out.trans (hb.mono B1.out.size)
  have O2 : Hid (RowIs w2 v2 R1) := RowIs.own ho
  clear hb ho B1 R1'
  go_wp2_with fail
  go_ret2
  exact ⟨v2, rfl, O2.out, B2.out⟩
theorem take_ok (vo vf vk : Value) (own from' : List En) (K : List Int) (R1 : List En) (w : World) (hro : RowIs w vo own) (hrf : RowIs w vf from') (hk : IntsIs w vk K) (hcap : CapOk vk K.length) (hbo : badL own = 0) (hbf : badL from' = 0) (hbk : badK K = 0) (h : giveE own from' K = (R1, 0)) :
    Calls Tryz.prog 102 #[vo, vf, vk] w fun e w' => ∃ v', e = .returned (.tuple #[v', .nilIface]) ∧ RowIs w' v' R1 ∧ Below w.heap.size w w' := take_o vo vf vk own from' K R1 0 w hro hrf hk hcap hbo hbf hbk h
theorem take_err (vo vf vk : Value) (own from' : List En) (K : List Int) (R1 : List En) (n : Int) (w : World) (hro : RowIs w vo own) (hrf : RowIs w vf from') (hk : IntsIs w vk K) (hcap : CapOk vk K.length) (hbo : badL own = 0) (hbf : badL from' = 0) (hbk : badK K = 0) (h : giveE own from' K = (R1, n)) (hn : n ≠ 0) :
    Calls Tryz.prog 102 #[vo, vf, vk] w fun e w' => ∃ v', e = .returned (.tuple #[v', .iface 85 (.int .i64 n)]) ∧ Below w.heap.size w w' := by
  have c := take_o vo vf vk own from' K R1 n w hro hrf hk hcap hbo hbf hbk h
  rw [eV_err hn] at c
  refine c.mono ?_
  rintro e w' ⟨v', he, _, hb⟩
  exact ⟨v', he, hb⟩

/-- two rows and an error come back -/
def PairIs (w : World) (X Y : List En) (n : Int) (e : Ending) (w' : World) : Prop := ∃ v1 v2, e = .returned (.tuple #[v1, v2, eV n]) ∧ RowIs w' v1 X ∧ RowIs w' v2 Y ∧ Below w.heap.size w w'
theorem pair_bad (va vb : Value) (a b : List En) (n : Int) (w : World) (hra : RowIs w va a) (hrb : RowIs w vb b) (h : bad2 (badL a) (badL b) = n) (hn : n ≠ 0) (hT : Lib.TabIs Tryz.prog w powName .u64 Lib.pow10Tab) :
    Calls Tryz.prog 55 #[va, vb] w (PairIs w [] [] n) := by
  have HC : Hid _ := lacks_bad va vb a b n w hra hrb h hn hT
  clear hra hrb h hT
  go_enter Tryz.func55, Tryz.ntmps55
  go_wp2_with fail
  refine Calls.mono HC.out ?_
  rintro e w1 ⟨rfl, hb⟩
  have B1 : Hid (Below w.heap.size w w1) := hb
  clear hb HC
  go_wp2_with fail
  go_ret3
  refine ⟨.slice none 0 0, .slice none 0 0, ?_, RowIs.nil _, RowIs.nil _, B1.out⟩
  rw [eV_err hn]
  rfl
set_option maxHeartbeats 1000000 in
theorem pair_good (va vb : Value) (a b : List En) (w : World) (hra : RowIs w va a) (hrb : RowIs w vb b) (h : badL a = 0) (h' : badL b = 0) (hT : Lib.TabIs Tryz.prog w powName .u64 Lib.pow10Tab) :
    Calls Tryz.prog 55 #[va, vb] w (PairIs w (pairW a b).1 (pairW a b).2.1 (pairW a b).2.2) := by
  have HC := lacks_ok va vb a b w hra hrb h h' hT
  have HA : Hid (RowIs w va a) := hra
  have HB : Hid (RowIs w vb b) := hrb
  have HGa : Hid (badL a = 0) := h
  have HGb : Hid (badL b = 0) := h'
  have HK0 : Hid (badK (lackK a b) = 0) := lackK_right a b
  have H1 : Hid (∀ x n, giveE a b (lackK a b) = (x, n) → n ≠ 0 → pairW a b = ([], [], n)) := fun x n hx hn => pairW_one (bad2_both HGa.out HGb.out) hx hn
  have H2 : Hid (∀ x y n, giveE a b (lackK a b) = (x, 0) → giveE b a (lackK a b) = (y, n) → n ≠ 0 → pairW a b = ([], [], n)) := fun x y n hx hy hn => pairW_two (bad2_both HGa.out HGb.out) hx hy hn
  have H3 : Hid (∀ x y, giveE a b (lackK a b) = (x, 0) → giveE b a (lackK a b) = (y, 0) → pairW a b = (x, y, 0)) := fun x y hx hy => pairW_ok (bad2_both HGa.out HGb.out) hx hy
  generalize lackK a b = K at HC HK0 H1 H2 H3
  have HCh : Hid _ := HC
  obtain ⟨⟨x, n⟩, HX⟩ : ∃ R, Hid (giveE a b K = R) := ⟨_, rfl⟩
  obtain ⟨⟨y, m⟩, HY⟩ : ∃ R, Hid (giveE b a K = R) := ⟨_, rfl⟩
  clear HC hra hrb h h' hT
  by_cases hn : n = 0
  · subst hn
    by_cases hm : m = 0
    · subst hm
      rw [H3.out x y HX.out HY.out]
      go_enter Tryz.func55, Tryz.ntmps55
      go_wp2_with fail
      refine Calls.mono HCh.out ?_
      rintro e w1 ⟨vk, rfl, ho, hb⟩
      have B1 : Hid (Below w.heap.size w w1) := hb
      have K1 : Hid (OwnI w.heap.size w1 vk K) := ho
      clear hb ho HCh
      go_wp2_with fail
      refine (take_ok va vb vk a b K x _ (HA.out.below B1.out) (HB.out.below B1.out) K1.out.ints K1.out.cap HGa.out HGb.out HK0.out HX.out).mono ?_
      rintro e w2 ⟨v2, rfl, hr, hb⟩
      have B2 : Hid (Below w.heap.size w w2) := B1.out.trans (hb.mono B1.out.size)
      have K2 : Hid (OwnI w.heap.size w2 vk K) := K1.out.below hb
      have R2 : Hid (RowIs w2 v2 x) := hr
      clear hb hr B1 K1
      go_wp2_with fail
      refine (take_ok vb va vk b a K y _ (HB.out.below B2.out) (HA.out.below B2.out) K2.out.ints K2.out.cap HGb.out HGa.out HK0.out HY.out).mono ?_
      rintro e w3 ⟨v3, rfl, hr, hb⟩
      have B3 : Hid (Below w.heap.size w w3) := B2.out.trans (hb.mono B2.out.size)
      have R3 : Hid (RowIs w3 v2 x) := R2.out.below hb
      have S3 : Hid (RowIs w3 v3 y) := hr
      clear hb hr B2 K2 R2
      go_wp2_with fail
      go_ret3
      exact ⟨v2, v3, rfl, R3.out, S3.out, B3.out⟩
    · rw [H2.out x y m HX.out HY.out hm]
      go_enter Tryz.func55, Tryz.ntmps55
      go_wp2_with fail
      refine Calls.mono HCh.out ?_
      rintro e w1 ⟨vk, rfl, ho, hb⟩
      have B1 : Hid (Below w.heap.size w w1) := hb
      have K1 : Hid (OwnI w.heap.size w1 vk K) := ho
      clear hb ho HCh
      go_wp2_with fail
      refine (take_ok va vb vk a b K x _ (HA.out.below B1.out) (HB.out.below B1.out) K1.out.ints K1.out.cap HGa.out HGb.out HK0.out HX.out).mono ?_
      rintro e w2 ⟨v2, rfl, hr, hb⟩
      have B2 : Hid (Below w.heap.size w w2) := B1.out.trans (hb.mono B1.out.size)
      have K2 : Hid (OwnI w.heap.size w2 vk K) := K1.out.below hb
      clear hb hr B1 K1
      go_wp2_with fail
      refine (take_err vb va vk b a K y m _ (HB.out.below B2.out) (HA.out.below B2.out) K2.out.ints K2.out.cap HGb.out HGa.out HK0.out HY.out hm).mono ?_
      rintro e w3 ⟨v3, rfl, hb⟩
      have B3 : Hid (Below w.heap.size w w3) := B2.out.trans (hb.mono B2.out.size)
      clear hb B2 K2
      go_wp2_with fail
      go_ret3
      refine ⟨.slice none 0 0, .slice none 0 0, ?_, RowIs.nil _, RowIs.nil _, B3.out⟩
      rw [eV_err hm]
      rfl
  · rw [H1.out x n HX.out hn]
    go_enter Tryz.func55, Tryz.ntmps55
    go_wp2_with fail
    refine Calls.mono HCh.out ?_
    rintro e w1 ⟨vk, rfl, ho, hb⟩
    have B1 : Hid (Below w.heap.size w w1) := hb
    have K1 : Hid (OwnI w.heap.size w1 vk K) := ho
    clear hb ho HCh
    go_wp2_with fail
    refine (take_err va vb vk a b K x n _ (HA.out.below B1.out) (HB.out.below B1.out) K1.out.ints K1.out.cap HGa.out HGb.out HK0.out HX.out hn).mono ?_
    rintro e w2 ⟨v2, rfl, hb⟩
    have B2 : Hid (Below w.heap.size w w2) := B1.out.trans (hb.mono B1.out.size)
    clear hb B1 K1
    go_wp2_with fail
    go_ret3
    refine ⟨.slice none 0 0, .slice none 0 0, ?_, RowIs.nil _, RowIs.nil _, B2.out⟩
    rw [eV_err hn]
    rfl
theorem pair_c (va vb : Value) (a b : List En) (w : World) (hra : RowIs w va a) (hrb : RowIs w vb b) (hT : Lib.TabIs Tryz.prog w powName .u64 Lib.pow10Tab) :
    Calls Tryz.prog 55 #[va, vb] w (PairIs w (pairW a b).1 (pairW a b).2.1 (pairW a b).2.2) := by
  obtain ⟨n, hn⟩ : ∃ n, bad2 (badL a) (badL b) = n := ⟨_, rfl⟩
  by_cases h0 : n = 0
  · subst h0
    obtain ⟨h1, h2⟩ := bad2_good hn
    exact pair_good va vb a b w hra hrb h1 h2 hT
  · rw [pairW_bad hn h0]
    exact pair_bad va vb a b n w hra hrb hn h0 hT
theorem pair_o {a b X Y : List En} {n : Int} (h : pairW a b = (X, Y, n)) (va vb : Value) (w : World) (hra : RowIs w va a) (hrb : RowIs w vb b) (hT : Lib.TabIs Tryz.prog w powName .u64 Lib.pow10Tab) :
    Calls Tryz.prog 55 #[va, vb] w fun e w' => ∃ v1 v2, e = .returned (.tuple #[v1, v2, eV n]) ∧ RowIs w' v1 X ∧ RowIs w' v2 Y ∧ Below w.heap.size w w' := by
  have c := pair_c va vb a b w hra hrb hT
  rw [h] at c
  exact c
theorem pair_ok {a b X Y : List En} (h : pairW a b = (X, Y, 0)) (va vb : Value) (w : World) (hra : RowIs w va a) (hrb : RowIs w vb b) (hT : Lib.TabIs Tryz.prog w powName .u64 Lib.pow10Tab) :
    Calls Tryz.prog 55 #[va, vb] w fun e w' => ∃ v1 v2, e = .returned (.tuple #[v1, v2, .nilIface]) ∧ RowIs w' v1 X ∧ RowIs w' v2 Y ∧ Below w.heap.size w w' := pair_o h va vb w hra hrb hT
theorem pair_err {a b X Y : List En} {n : Int} (h : pairW a b = (X, Y, n)) (hn : n ≠ 0) (va vb : Value) (w : World) (hra : RowIs w va a) (hrb : RowIs w vb b) (hT : Lib.TabIs Tryz.prog w powName .u64 Lib.pow10Tab) :
    Calls Tryz.prog 55 #[va, vb] w fun e w' => ∃ v1 v2, e = .returned (.tuple #[v1, v2, .iface 85 (.int .i64 n)]) ∧ Below w.heap.size w w' := by
  have c := pair_o h va vb w hra hrb hT
  rw [eV_err hn] at c
  refine c.mono ?_
  rintro e w' ⟨v1, v2, he, _, _, hb⟩
  exact ⟨v1, v2, he, hb⟩
end Go.Proofs.YtpcnfoaoajfhlaaGreatDoor

namespace Go.Proofs.YtpcnfoaoajfhlaaGreatDoor
set_option linter.unusedVariables false
set_option linter.unusedSimpArgs false
open Go.RowKit

/-- what one is given is Added -/
theorem takeF_o (vo vf vk : Value) (own from' : List En) (K : List Int) (R1 : List En) (R2 : Int) (w : World) (hro : RowIs w vo own) (hrf : RowIs w vf from') (hk : IntsIs w vk K) (hcap : CapOk vk K.length) (hbo : badL own = 0) (hbf : badL from' = 0) (hbk : badK K = 0) (h : giveE own from' K = (R1, R2)) :
    Calls Tryz.prog 102 #[vo, vf, vk] w fun e w' => ∃ v', e = .returned (.tuple #[v', eV R2]) ∧ RowIs w' v' R1 ∧ (∀ g, v'.ownBlock = some g → w.heap.size ≤ g ∧ g < w'.heap.size ∧ CelAt w' g) ∧ Below w.heap.size w w' := by
  have HC : Hid (Calls Tryz.prog 142 #[vf, vk] w fun e w' => ∃ v', e = .returned (.tuple #[v', .nilIface]) ∧ RowIs w' v' (someE from' K) ∧ Below w.heap.size w w') := give_ok vf vk from' K w hrf hk hcap hbf hbk
  have HO : Hid (RowIs w vo own) := hro
  have HG : Hid (cacheBoth own (someE from' K) = (R1, R2)) := (give_as_both (badL_good hbo) (badL_good hbf)).trans h
  clear hro hrf hk hcap hbo hbf hbk h
  obtain ⟨G, HGv⟩ : ∃ G, Hid (someE from' K = G) := ⟨_, rfl⟩
  rw [HGv.out] at HC HG
  clear HGv
  obtain ⟨E, HE⟩ : ∃ E, Hid (eV R2 = E) := ⟨_, rfl⟩
  rw [HE.out]
  go_enter Tryz.func102, Tryz.ntmps102
  go_wp2_with fail
  refine Calls.mono HC.out ?_
  rintro e w1 ⟨v1, rfl, hr, hb⟩
  have B1 : Hid (Below w.heap.size w w1) := hb
  have R1' : Hid (RowIs w1 v1 G) := hr
  clear hb hr HC
  go_wp2_with fail
  refine (both_o HG.out vo v1 _ (HO.out.below B1.out) R1'.out).mono ?_
  rintro e w2 ⟨v2, he, ho, hb⟩
  rw [HE.out] at he
  subst he
  have B2 : Hid (Below w.heap.size w w2) := B1.out.trans (hb.mono B1.out.size)
  have O2 : Hid (RowIs w2 v2 R1) := RowIs.own ho
  have F2 : Hid (∀ g, v2.ownBlock = some g → w.heap.size ≤ g ∧ g < w2.heap.size ∧ CelAt w2 g) := fun g hg => ⟨Nat.le_trans B1.out.size (ownsRow_from ho g hg), ownsRow_lt ho g hg, own_cel ho hg⟩
  clear hb ho B1 R1'
  go_wp2_with fail
  go_ret2
  exact ⟨v2, rfl, O2.out, F2.out, B2.out⟩
set_option maxHeartbeats 1000000 in
theorem pairF_ok (va vb : Value) (a b : List En) (w : World) (hra : RowIs w va a) (hrb : RowIs w vb b) {X Y : List En} (hp : pairW a b = (X, Y, 0)) (hT : Lib.TabIs Tryz.prog w powName .u64 Lib.pow10Tab) :
    Calls Tryz.prog 55 #[va, vb] w fun e w' => ∃ v1 v2, e = .returned (.tuple #[v1, v2, .nilIface]) ∧ RowIs w' v1 X ∧ RowIs w' v2 Y ∧ (∀ g, v1.ownBlock = some g → w.heap.size ≤ g ∧ g < w'.heap.size ∧ CelAt w' g) ∧ (∀ g, v2.ownBlock = some g → w.heap.size ≤ g ∧ g < w'.heap.size ∧ CelAt w' g) ∧ Below w.heap.size w w' := by
  obtain ⟨h, h', hx, hy⟩ := pairW_fine hp
  have HC := lacks_ok va vb a b w hra hrb h h' hT
  have HA : Hid (RowIs w va a) := hra
  have HB : Hid (RowIs w vb b) := hrb
  have HGa : Hid (badL a = 0) := h
  have HGb : Hid (badL b = 0) := h'
  have HK0 : Hid (badK (lackK a b) = 0) := lackK_right a b
  have HX : Hid (giveE a b (lackK a b) = (X, 0)) := hx
  have HY : Hid (giveE b a (lackK a b) = (Y, 0)) := hy
  clear hx hy hp
  generalize lackK a b = K at HC HK0 HX HY
  have HCh : Hid _ := HC
  clear HC hra hrb h h' hT
  go_enter Tryz.func55, Tryz.ntmps55
  go_wp2_with fail
  refine Calls.mono HCh.out ?_
  rintro e w1 ⟨vk, rfl, ho, hb⟩
  have B1 : Hid (Below w.heap.size w w1) := hb
  have K1 : Hid (OwnI w.heap.size w1 vk K) := ho
  clear hb ho HCh
  go_wp2_with fail
  refine (takeF_o va vb vk a b K X 0 _ (HA.out.below B1.out) (HB.out.below B1.out) K1.out.ints K1.out.cap HGa.out HGb.out HK0.out HX.out).mono ?_
  rintro e w2 ⟨v2, rfl, hr, hf, hb⟩
  rw [eV_zero]
  have F2 : Hid (∀ g, v2.ownBlock = some g → w.heap.size ≤ g ∧ g < w2.heap.size ∧ CelAt w2 g) := fun g hg => ⟨Nat.le_trans B1.out.size (hf g hg).1, (hf g hg).2⟩
  clear hf
  have B2 : Hid (Below w.heap.size w w2) := B1.out.trans (hb.mono B1.out.size)
  have K2 : Hid (OwnI w.heap.size w2 vk K) := K1.out.below hb
  have R2 : Hid (RowIs w2 v2 X) := hr
  clear hb hr B1 K1
  go_wp2_with fail
  refine (takeF_o vb va vk b a K Y 0 _ (HB.out.below B2.out) (HA.out.below B2.out) K2.out.ints K2.out.cap HGb.out HGa.out HK0.out HY.out).mono ?_
  rintro e w3 ⟨v3, rfl, hr, hf, hb⟩
  rw [eV_zero]
  have F3 : Hid (∀ g, v3.ownBlock = some g → w.heap.size ≤ g ∧ g < w3.heap.size ∧ CelAt w3 g) := fun g hg => ⟨Nat.le_trans B2.out.size (hf g hg).1, (hf g hg).2⟩
  have F2' : Hid (∀ g, v2.ownBlock = some g → w.heap.size ≤ g ∧ g < w3.heap.size ∧ CelAt w3 g) := fun g hg => ⟨(F2.out g hg).1, Nat.lt_of_lt_of_le (F2.out g hg).2.1 hb.size, (F2.out g hg).2.2.same (hb.block g (F2.out g hg).2.1)⟩
  clear hf
  have B3 : Hid (Below w.heap.size w w3) := B2.out.trans (hb.mono B2.out.size)
  have R3 : Hid (RowIs w3 v2 X) := R2.out.below hb
  have S3 : Hid (RowIs w3 v3 Y) := hr
  clear hb hr B2 K2 R2
  go_wp2_with fail
  go_ret3
  exact ⟨v2, v3, rfl, R3.out, S3.out, F2'.out, F3.out, B3.out⟩
end Go.Proofs.YtpcnfoaoajfhlaaGreatDoor
