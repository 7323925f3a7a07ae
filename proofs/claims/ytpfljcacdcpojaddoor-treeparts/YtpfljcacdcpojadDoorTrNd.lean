/-
  Package tree by its contracts: Node.
-/
import Derived.Test.YtpfljcacdcpojadDoorGr1
namespace Go.Proofs.YtpfljcacdcpojadDoor
set_option linter.unusedVariables false
set_option linter.unusedSimpArgs false
open Go.RowKit

/-- sixteen numbers in a new block -/
def box16 (w : World) (o : Nat → Nat) : World := w.alloc (.cells #[.int .i64 (o 0 : Nat), .int .i64 (o 1 : Nat), .int .i64 (o 2 : Nat), .int .i64 (o 3 : Nat), .int .i64 (o 4 : Nat), .int .i64 (o 5 : Nat), .int .i64 (o 6 : Nat), .int .i64 (o 7 : Nat), .int .i64 (o 8 : Nat), .int .i64 (o 9 : Nat), .int .i64 (o 10 : Nat), .int .i64 (o 11 : Nat), .int .i64 (o 12 : Nat), .int .i64 (o 13 : Nat), .int .i64 (o 14 : Nat), .int .i64 (o 15 : Nat)] 63)
theorem box16_six (w : World) (o : Nat → Nat) : SixAt (box16 w o) w.heap.size o := six_new w _ _ rfl o
theorem box16_below (w : World) (o : Nat → Nat) : Below w.heap.size w (box16 w o) := (Below.refl _ w).alloc (Nat.le_refl _) _
theorem box16_size (w : World) (o : Nat → Nat) : (box16 w o).heap.size = w.heap.size + 1 := by simp [box16]

/-- is there such a node? -/
def isNode (i : Int) : Bool := decide (1 ≤ i) && decide (i ≤ 15)
theorem tnode_range (v : Value) (i : Int) (w : World) (h : isNode i = false) :
    Calls Tryd.prog 18 #[v, .int .i64 i] w fun e w' => e = .returned (.tuple #[.int .i64 0, .iface 54 (.int .i64 1)]) ∧ Below w.heap.size w w' := by
  by_cases h1 : i < 1
  · clear h
    go_enter Tryd.func18, Tryd.ntmps18
    go_wp2_with fail
    go_ret2
    exact ⟨rfl, Below.refl _ _⟩
  · have h2 : (16 : Int) ≤ i := by
      simp only [isNode, Bool.and_eq_false_iff, decide_eq_false_iff_not] at h
      omega
    clear h
    go_enter Tryd.func18, Tryd.ntmps18
    go_wp2_with fail
    go_ret2
    exact ⟨rfl, Below.refl _ _⟩
theorem tnode_bad (v : Value) (l : List En) (i n : Int) (w : World) (hr : RowIs w v l) (hi : isNode i = true) (h : badL l = n) (hn : n ≠ 0) :
    Calls Tryd.prog 18 #[v, .int .i64 i] w fun e w' => e = .returned (.tuple #[.int .i64 0, .iface 54 (.int .i64 n)]) ∧ Below w.heap.size w w' := by
  obtain ⟨h1, h2⟩ : 1 ≤ i ∧ i ≤ 15 := by simpa [isNode] using hi
  have i1 : ¬ i < 1 := by omega
  have i2 : ¬ (16 : Int) ≤ i := by omega
  have HC : Hid (Calls Tryd.prog 33 #[v] w fun e w' => e = .returned (.tuple #[ag16 (fun _ => 0), .iface 54 (.int .i64 n)]) ∧ Below w.heap.size w w') := grow_bad v l n w hr h hn
  clear hi h hr h1 h2
  go_enter Tryd.func18, Tryd.ntmps18
  go_wp2_with fail
  refine HC.out.mono ?_
  rintro e w1 ⟨rfl, hb⟩
  have B1 : Hid (Below w.heap.size w w1) := hb
  clear hb HC
  unfold ag16
  go_upto_region 4 with fail
  show Code.wp _ _ _ _ (box16 w1 (fun _ => 0))
  have B2 : Hid (Below w.heap.size w (box16 w1 (fun _ => 0))) := B1.out.trans ((box16_below _ _).mono B1.out.size)
  generalize box16 w1 (fun _ => 0) = w2 at B2 ⊢
  go_wp2_with fail
  go_ret2
  exact ⟨rfl, B2.out⟩
theorem tnode_ok (v : Value) (l : List En) (i : Nat) (w : World) (hr : RowIs w v l) (hi : isNode (i : Int) = true) (h : badL l = 0) (hT : Lib.TabIs Tryd.prog w powName .u64 Lib.pow10Tab) :
    Calls Tryd.prog 18 #[v, .int .i64 (i : Nat)] w fun e w' => e = .returned (.tuple #[.int .i64 (trN (leafN l) i : Nat), .nilIface]) ∧ Below w.heap.size w w' := by
  obtain ⟨h1, h2⟩ : 1 ≤ i ∧ i ≤ 15 := by
    simp only [isNode, Bool.and_eq_true, decide_eq_true_eq] at hi
    omega
  have i1 : ¬ (i : Int) < 1 := by omega
  have i2 : ¬ (16 : Int) ≤ (i : Int) := by omega
  have i3 : (i : Int) < 16 := by omega
  have i4 : (0 : Int) ≤ (i : Int) := by omega
  have i5 : i < 16 := by omega
  have HX : Hid (downTo (leafN l) 0 i = trN (leafN l) i) := if_pos (by omega)
  have HC : Hid (Calls Tryd.prog 33 #[v] w fun e w' => e = .returned (.tuple #[ag16 (downTo (leafN l) 0), .nilIface]) ∧ Below w.heap.size w w') := grow_ok v l w hr h hT
  clear hi h hr h1 h2 hT
  obtain ⟨O, HO⟩ : ∃ O, Hid (downTo (leafN l) 0 = O) := ⟨_, rfl⟩
  obtain ⟨x, HR⟩ : ∃ x, Hid (trN (leafN l) i = x) := ⟨_, rfl⟩
  rw [HO.out, HR.out] at HX
  rw [HO.out] at HC
  rw [HR.out]
  clear HO HR
  go_enter Tryd.func18, Tryd.ntmps18
  go_wp2_with fail
  refine HC.out.mono ?_
  rintro e w1 ⟨rfl, hb⟩
  have B1 : Hid (Below w.heap.size w w1) := hb
  clear hb HC
  unfold ag16
  go_upto_region 4 with fail
  show Code.wp _ _ _ _ (box16 w1 O)
  have B2 : Hid (Below w.heap.size w (box16 w1 O)) := B1.out.trans ((box16_below _ _).mono B1.out.size)
  have S2 : Hid (SixAt (box16 w1 O) w1.heap.size O) := box16_six w1 O
  generalize box16 w1 O = w2 at B2 S2 ⊢
  obtain ⟨b, hb⟩ : ∃ b, w1.heap.size = b := ⟨_, rfl⟩
  rw [hb] at S2 ⊢
  clear hb B1
  have c := S2.out.cell i i5
  have hlt := S2.out.lt
  rw [HX.out] at c
  go_wp2_with fail
  go_ret2
  exact ⟨rfl, B2.out⟩
end Go.Proofs.YtpfljcacdcpojadDoor
