/-
  Package tree by its contracts: ask of any two trees, Diff.
-/
import Derived.Test.YtpcnfoaoajfhlaaGreatDoorMqbc
namespace Go.Proofs.YtpcnfoaoajfhlaaGreatDoor
set_option linter.unusedVariables false
set_option linter.unusedSimpArgs false
set_option linter.unusedVariables false
set_option linter.unusedSimpArgs false
open Go.RowKit

theorem ask_c (f g : Nat → Nat) : ∀ d i, dep i = d → 1 ≤ i → i < 16 → ∀ w,
    Calls Tryz.prog 182 #[ag16 (downTo f 0), ag16 (downTo g 0), .int .i64 (i : Nat)] w fun e w' => ∃ v', e = .returned (.tuple #[v', .int .i64 (partN f g i : Nat)]) ∧ OwnI w.heap.size w' v' (partK f g i) ∧ Below w.heap.size w w' := by
  intro d
  induction d with
  | zero =>
    intro i hd h1 h16 w
    have h8 : 8 ≤ i := by
      unfold dep at hd
      split at hd
      · omega
      · split at hd
        · omega
        · split at hd <;> omega
    have ef : downTo f 0 i = trN f i := if_pos (by omega)
    have eg : downTo g 0 i = trN g i := if_pos (by omega)
    by_cases hx : trN f i = trN g i
    · obtain ⟨e1, e2⟩ := part_alike hx
      rw [e1, e2]
      refine (ask_alike (downTo f 0) (downTo g 0) i _ h16 ef (by rw [eg, hx]) w).mono ?_
      rintro e w' ⟨rfl, hb⟩
      exact ⟨_, rfl, OwnI.nil _ _, hb⟩
    · obtain ⟨e1, e2⟩ := part_end h8 hx
      rw [e1, e2]
      exact ask_end (downTo f 0) (downTo g 0) i _ _ h16 h8 ef eg hx w
  | succ d ih =>
    intro i hd h1 h16 w
    have h8 : i < 8 := by
      unfold dep at hd
      split at hd
      · omega
      · split at hd
        · omega
        · split at hd <;> omega
    have ef : downTo f 0 i = trN f i := if_pos (by omega)
    have eg : downTo g 0 i = trN g i := if_pos (by omega)
    by_cases hx : trN f i = trN g i
    · obtain ⟨e1, e2⟩ := part_alike hx
      rw [e1, e2]
      refine (ask_alike (downTo f 0) (downTo g 0) i _ h16 ef (by rw [eg, hx]) w).mono ?_
      rintro e w' ⟨rfl, hb⟩
      exact ⟨_, rfl, OwnI.nil _ _, hb⟩
    · obtain ⟨e1, e2⟩ := part_two h1 h8 hx
      obtain ⟨d1, d2⟩ := dep_two h1 h8
      rw [e1, e2]
      exact ask_two (downTo f 0) (downTo g 0) i _ _ h1 h8 ef eg hx _ _ _ _ (partK_len _ _ _) (partK_len _ _ _) (partN_len _ _ _) (partN_len _ _ _) (ih (2 * i) (by omega) (by omega) (by omega)) (ih (2 * i + 1) (by omega) (by omega) (by omega)) w

theorem diff_one (va vb : Value) (a : List En) (n : Int) (w : World) (hra : RowIs w va a) (h : badL a = n) (hn : n ≠ 0) :
    Calls Tryz.prog 141 #[va, vb] w fun e w' => e = .returned (.tuple #[.slice none 0 0, .int .i64 0, .iface 85 (.int .i64 n)]) ∧ Below w.heap.size w w' := by
  have HC : Hid (Calls Tryz.prog 181 #[va] w fun e w' => e = .returned (.tuple #[ag16 (fun _ => 0), .iface 85 (.int .i64 n)]) ∧ Below w.heap.size w w') := grow_bad va a n w hra h hn
  clear h hra
  go_enter Tryz.func141, Tryz.ntmps141
  go_wp2_with fail
  refine HC.out.mono ?_
  rintro e w1 ⟨rfl, hb⟩
  have B1 : Hid (Below w.heap.size w w1) := hb
  clear hb HC
  unfold ag16
  go_upto_region 2 with fail
  show Code.wp _ _ _ _ (box16 w1 (fun _ => 0))
  have B2 : Hid (Below w.heap.size w (box16 w1 (fun _ => 0))) := B1.out.trans ((box16_below _ _).mono B1.out.size)
  generalize box16 w1 (fun _ => 0) = w2 at B2 ⊢
  go_wp2_with fail
  go_ret3
  exact ⟨rfl, B2.out⟩

set_option maxHeartbeats 4000000 in
theorem diff_other (va vb : Value) (a b : List En) (n : Int) (w : World) (hra : RowIs w va a) (hrb : RowIs w vb b) (h : badL a = 0) (h' : badL b = n) (hn : n ≠ 0) (hT : Lib.TabIs Tryz.prog w powName .u64 Lib.pow10Tab) :
    Calls Tryz.prog 141 #[va, vb] w fun e w' => e = .returned (.tuple #[.slice none 0 0, .int .i64 0, .iface 85 (.int .i64 n)]) ∧ Below w.heap.size w w' := by
  obtain ⟨O, HO⟩ : ∃ O, Hid (downTo (leafN a) 0 = O) := ⟨_, rfl⟩
  have c1 := grow_ok va a w hra h hT
  rw [HO.out] at c1
  have HC : Hid (Calls Tryz.prog 181 #[va] w fun e w' => e = .returned (.tuple #[ag16 O, .nilIface]) ∧ Below w.heap.size w w') := c1
  have HC2 : Hid (∀ w', Below w.heap.size w w' → Calls Tryz.prog 181 #[vb] w' fun e w'' => e = .returned (.tuple #[ag16 (fun _ => 0), .iface 85 (.int .i64 n)]) ∧ Below w'.heap.size w' w'') := fun w' hb => grow_bad vb b n w' (hrb.below hb) h' hn
  clear h hra hrb h' c1 HO hT
  go_enter Tryz.func141, Tryz.ntmps141
  go_wp2_with fail
  refine HC.out.mono ?_
  rintro e w1 ⟨rfl, hb⟩
  have B1 : Hid (Below w.heap.size w w1) := hb
  clear hb HC
  unfold ag16
  go_upto_region 2 with fail
  show Code.wp _ _ _ _ (box16 w1 O)
  have B2 : Hid (Below w.heap.size w (box16 w1 O)) := B1.out.trans ((box16_below _ _).mono B1.out.size)
  generalize box16 w1 O = w2 at B2 ⊢
  go_wp2_with fail
  refine (HC2.out _ B2.out).mono ?_
  rintro e w3 ⟨rfl, hb⟩
  have B3 : Hid (Below w.heap.size w w3) := B2.out.trans (hb.mono B2.out.size)
  clear hb B2 B1
  unfold ag16
  go_upto_region 5 with fail
  show Code.wp _ _ _ _ (box16 w3 (fun _ => 0))
  have B4 : Hid (Below w.heap.size w (box16 w3 (fun _ => 0))) := B3.out.trans ((box16_below _ _).mono B3.out.size)
  generalize box16 w3 (fun _ => 0) = w4 at B4 ⊢
  go_wp2_with fail
  go_ret3
  exact ⟨rfl, B4.out⟩

set_option maxHeartbeats 4000000 in
theorem diff_ok (va vb : Value) (a b : List En) (w : World) (hra : RowIs w va a) (hrb : RowIs w vb b) (h : badL a = 0) (h' : badL b = 0) (hT : Lib.TabIs Tryz.prog w powName .u64 Lib.pow10Tab) :
    Calls Tryz.prog 141 #[va, vb] w fun e w' => ∃ v', e = .returned (.tuple #[v', .int .i64 (partN (leafN a) (leafN b) 1 : Nat), .nilIface]) ∧ OwnI w.heap.size w' v' (partK (leafN a) (leafN b) 1) ∧ Below w.heap.size w w' := by
  have HT : Hid (Lib.TabBelow Tryz.prog w.heap.size w powName .u64 Lib.pow10Tab) := Lib.tabBelow_of_tabIs hT
  obtain ⟨O, HO⟩ : ∃ O, Hid (downTo (leafN a) 0 = O) := ⟨_, rfl⟩
  obtain ⟨U, HU⟩ : ∃ U, Hid (downTo (leafN b) 0 = U) := ⟨_, rfl⟩
  have c1 := grow_ok va a w hra h hT
  rw [HO.out] at c1
  have HC : Hid (Calls Tryz.prog 181 #[va] w fun e w' => e = .returned (.tuple #[ag16 O, .nilIface]) ∧ Below w.heap.size w w') := c1
  have HC2 : Hid (∀ w', Below w.heap.size w w' → Calls Tryz.prog 181 #[vb] w' fun e w'' => e = .returned (.tuple #[ag16 U, .nilIface]) ∧ Below w'.heap.size w' w'') := fun w' hb => by
    have c := grow_ok vb b w' (hrb.below hb) h' (HT.out w' hb)
    rw [HU.out] at c
    exact c
  obtain ⟨K, HK⟩ : ∃ K, Hid (partK (leafN a) (leafN b) 1 = K) := ⟨_, rfl⟩
  obtain ⟨N, HN⟩ : ∃ N, Hid (partN (leafN a) (leafN b) 1 = N) := ⟨_, rfl⟩
  have HA : Hid (∀ w, Calls Tryz.prog 182 #[ag16 O, ag16 U, .int .i64 1] w fun e w' => ∃ v', e = .returned (.tuple #[v', .int .i64 (N : Nat)]) ∧ OwnI w.heap.size w' v' K ∧ Below w.heap.size w w') := fun w => by
    have c := ask_c (leafN a) (leafN b) 3 1 rfl (by omega) (by omega) w
    rw [HO.out, HU.out, HK.out, HN.out] at c
    exact c
  rw [HK.out, HN.out]
  clear h hra hrb h' c1 HO HU hT HT HK HN
  go_enter Tryz.func141, Tryz.ntmps141
  go_wp2_with fail
  refine HC.out.mono ?_
  rintro e w1 ⟨rfl, hb⟩
  have B1 : Hid (Below w.heap.size w w1) := hb
  clear hb HC
  unfold ag16
  go_upto_region 2 with fail
  show Code.wp _ _ _ _ (box16 w1 O)
  have B2 : Hid (Below w.heap.size w (box16 w1 O)) := B1.out.trans ((box16_below _ _).mono B1.out.size)
  have S2 : Hid (SixAt (box16 w1 O) w1.heap.size O) := box16_six w1 O
  generalize box16 w1 O = w2 at B2 S2 ⊢
  obtain ⟨b1, hb1⟩ : ∃ b, w1.heap.size = b := ⟨_, rfl⟩
  rw [hb1] at S2 ⊢
  clear hb1 B1
  go_wp2_with fail
  refine (HC2.out _ B2.out).mono ?_
  rintro e w3 ⟨rfl, hb⟩
  have B3 : Hid (Below w.heap.size w w3) := B2.out.trans (hb.mono B2.out.size)
  have S3 : Hid (SixAt w3 b1 O) := S2.out.grown hb
  clear hb B2 S2
  unfold ag16
  go_upto_region 5 with fail
  show Code.wp _ _ _ _ (box16 w3 U)
  have B4 : Hid (Below w.heap.size w (box16 w3 U)) := B3.out.trans ((box16_below _ _).mono B3.out.size)
  have S4 : Hid (SixAt (box16 w3 U) b1 O) := S3.out.grown (box16_below _ _)
  have T4 : Hid (SixAt (box16 w3 U) w3.heap.size U) := box16_six w3 U
  generalize box16 w3 U = w4 at B4 S4 T4 ⊢
  obtain ⟨b2, hb2⟩ : ∃ b, w3.heap.size = b := ⟨_, rfl⟩
  rw [hb2] at T4 ⊢
  clear hb2 B3 S3
  obtain ⟨d0, d1, d2, d3, d4, d5, d6, d7, d8, d9, d10, d11, d12, d13, d14, d15⟩ := six_cells S4.out
  obtain ⟨c0, c1, c2, c3, c4, c5, c6, c7, c8, c9, c10, c11, c12, c13, c14, c15⟩ := six_cells T4.out
  go_wp2_with fail
  refine (HA.out _).mono ?_
  rintro e w5 ⟨v1, rfl, ho1, hb⟩
  have B5 : Hid (Below w.heap.size w w5) := B4.out.trans (hb.mono B4.out.size)
  have O5 : Hid (OwnI w.heap.size w5 v1 K) := ho1.base B4.out.size
  clear hb ho1 B4 S4 T4 d0 d1 d2 d3 d4 d5 d6 d7 d8 d9 d10 d11 d12 d13 d14 d15 c0 c1 c2 c3 c4 c5 c6 c7 c8 c9 c10 c11 c12 c13 c14 c15
  go_wp2_with fail
  go_ret3
  exact ⟨_, rfl, O5.out, B5.out⟩
end Go.Proofs.YtpcnfoaoajfhlaaGreatDoor
