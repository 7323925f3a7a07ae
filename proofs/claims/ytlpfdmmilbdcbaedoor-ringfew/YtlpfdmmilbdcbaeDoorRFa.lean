/-
  RingFew: who comes takes only for himself.
-/
import Derived.Test.YtlpfdmmilbdcbaeDoorRFe
namespace Go.Proofs.YtlpfdmmilbdcbaeDoor
set_option linter.unusedVariables false
set_option linter.unusedSimpArgs false
open Go.RowKit

set_option maxRecDepth 100000 in
set_option maxHeartbeats 16000000 in
theorem ringFew_a (vn : Value) (nodes : List Int) (each more key many : Int) (w : World) (hn : IntsCap w vn nodes) (hT : Lib.TabIs Tryd.prog w powName .u64 Lib.pow10Tab) (E1 : Int) (hE : badPts nodes each = E1) (h0 : E1 ≠ 0) :
    Calls Tryd.prog 5 #[vn, .int .i64 each, .int .i64 more, .int .i64 key, .int .i64 many] w fun e w' => e = .returned (.bool true) ∧ Below w.heap.size w w' := by
  have HTb : Hid (Lib.TabBelow Tryd.prog w.heap.size w powName .u64 Lib.pow10Tab) := Lib.tabBelow_of_tabIs hT
  have HVn : Hid (IntsCap w vn nodes) := hn
  have HB0 : Hid (Below w.heap.size w (w.alloc (.cells #[.int .i64 3] 3))) := (Below.refl _ _).alloc (Nat.le_refl _) _
  have HO : Hid (OwnI w.heap.size (w.alloc (.cells #[.int .i64 3] 3)) (.slice (some ⟨w.heap.size, 0, none⟩) 1 1) [3]) := OwnI.one (Nat.le_refl _) (alloc_at _ _ _ rfl)
  have HF : Hid _ := points_ok (.slice (some ⟨w.heap.size, 0, none⟩) 1 1) [3] 1 (w.alloc (.cells #[.int .i64 3] 3)) HO.out.ints HO.out.cap (by decide) (by omega) (by omega) (HTb.out _ HB0.out)
  obtain ⟨y, hy1, hy3⟩ := three_one
  rw [hy1] at HF
  have HE : Hid (badPts nodes each = E1) := hE
  clear hy1 hn hT hE
  go_enter Tryd.func5, Tryd.ntmps5
  go_wp2_with fail
  refine Calls.mono HF.out ?_
  rintro e w1 ⟨u1, rfl, hp, hb⟩
  have B1 : Hid (Below w.heap.size w w1) := HB0.out.trans (hb.mono HB0.out.size)
  obtain ⟨_, p1, c1, hu, hrow⟩ := hp
  obtain ⟨b1, o1, rfl, hb1, hat⟩ := hrow (by simp)
  have k1 := (hat 0 (by simp)).c1
  rw [List.getElem_cons_zero, Nat.zero_mul, Nat.add_zero, hy3] at k1
  rw [List.length_singleton] at hu
  clear hb hrow hat
  subst hu
  go_wp2_with fail
  refine (points_bad vn nodes each _ E1 (HVn.out.1.below B1.out) HVn.out.2 HE.out h0).mono ?_
  rintro e w2 ⟨rfl, hb⟩
  have B2 : Hid (Below w.heap.size w w2) := B1.out.trans (hb.mono B1.out.size)
  clear hb k1
  go_wp2_with fail
  go_ret
  exact ⟨rfl, B2.out⟩
set_option maxRecDepth 100000 in
set_option maxHeartbeats 16000000 in
theorem ringFew_b (vn : Value) (nodes : List Int) (k : Nat) (more key many : Int) (w : World) (hn : IntsCap w vn nodes) (hT : Lib.TabIs Tryd.prog w powName .u64 Lib.pow10Tab) (hg : badNodes nodes = 0) (h1 : 1 ≤ k) (h8 : k ≤ 8) (hk : inR key 0 7 = false) :
    Calls Tryd.prog 5 #[vn, .int .i64 (k : Nat), .int .i64 more, .int .i64 key, .int .i64 many] w fun e w' => e = .returned (.bool true) ∧ Below w.heap.size w w' := by
  have HTb : Hid (Lib.TabBelow Tryd.prog w.heap.size w powName .u64 Lib.pow10Tab) := Lib.tabBelow_of_tabIs hT
  have HVn : Hid (IntsCap w vn nodes) := hn
  have HB0 : Hid (Below w.heap.size w (w.alloc (.cells #[.int .i64 3] 3))) := (Below.refl _ _).alloc (Nat.le_refl _) _
  have HO : Hid (OwnI w.heap.size (w.alloc (.cells #[.int .i64 3] 3)) (.slice (some ⟨w.heap.size, 0, none⟩) 1 1) [3]) := OwnI.one (Nat.le_refl _) (alloc_at _ _ _ rfl)
  have HF : Hid _ := points_ok (.slice (some ⟨w.heap.size, 0, none⟩) 1 1) [3] 1 (w.alloc (.cells #[.int .i64 3] 3)) HO.out.ints HO.out.cap (by decide) (by omega) (by omega) (HTb.out _ HB0.out)
  obtain ⟨y, hy1, hy3⟩ := three_one
  rw [hy1] at HF
  obtain ⟨g1, g2, g3, g4⟩ := badNodes_good hg
  have HR : Hid (rightP (ptsL nodes k) = true) := pts_right g1 g2 h1 h8 g4 g3
  have HK : Hid (badFind (ptsL nodes k) key = 1) := by
    show _ = _
    unfold badFind
    rw [if_neg (by rw [HR.out]; simp), if_pos hk]
  have HGd : Hid (badNodes nodes = 0) := hg
  clear hy1 hn hT hg g1 g2 g3 g4 hk
  go_enter Tryd.func5, Tryd.ntmps5
  go_wp2_with fail
  refine Calls.mono HF.out ?_
  rintro e w1 ⟨u1, rfl, hp, hb⟩
  have B1 : Hid (Below w.heap.size w w1) := HB0.out.trans (hb.mono HB0.out.size)
  obtain ⟨_, p1, c1, hu, hrow⟩ := hp
  obtain ⟨b1, o1, rfl, hb1, hat⟩ := hrow (by simp)
  have k1 := (hat 0 (by simp)).c1
  rw [List.getElem_cons_zero, Nat.zero_mul, Nat.add_zero, hy3] at k1
  rw [List.length_singleton] at hu
  clear hb hrow hat
  subst hu
  go_wp2_with fail
  refine (points_ok vn nodes k _ (HVn.out.1.below B1.out) HVn.out.2 HGd.out h1 h8 (HTb.out _ B1.out)).mono ?_
  rintro e w2 ⟨u2, rfl, hp, hb⟩
  have P2 : Hid (PtsIs w2 u2 (ptsL nodes k)) := hp
  have B2 : Hid (Below w.heap.size w w2) := B1.out.trans (hb.mono B1.out.size)
  clear hb hp k1 B1
  go_wp2_with fail
  refine (owner_bad u2 (ptsL nodes k) key _ 1 P2.out HK.out (by omega)).mono ?_
  rintro e w3 ⟨rfl, hb⟩
  have B3 : Hid (Below w.heap.size w w3) := B2.out.trans (hb.mono B2.out.size)
  clear hb B2
  go_wp2_with fail
  go_ret
  exact ⟨rfl, B3.out⟩
end Go.Proofs.YtlpfdmmilbdcbaeDoor
