/-
  Floors in memory: eight numbers at a block; what package floor does to them, as plain functions.
-/
import Derived.Test.YtbincnajklmnaaaEn2
namespace Go.Proofs.Ytbincnajklmnaaa
set_option linter.unusedVariables false
set_option linter.unusedSimpArgs false
open Go.RowKit

/-- is a number a key? -/
def flK (k : Int) : Bool := decide (0 ≤ k) && decide (k < 8)
/-- is it from 0 to 1000? -/
def flS (n : Int) : Bool := decide (0 ≤ n) && decide (n ≤ 1000)
/-- one of eight is another -/
def upd (o : Nat → Int) (k : Nat) (z : Int) : Nat → Int := fun j => if j = k then z else o j
/-- the greater one -/
def hi (x s : Int) : Int := if x < s then s else x
/-- floors behind Raise -/
def flRaise (o : Nat → Int) (k s : Int) : Nat → Int := if (flK k && flS s) = true then upd o k.toNat (hi (o k.toNat) s) else o
/-- is it another one? -/
def flRose (o : Nat → Int) (k s : Int) : Bool := (flK k && flS s) && decide (o k.toNat < s)
/-- the fault of Raise -/
def flErr (b : Bool) : Int := if b = true then 0 else 1
/-- floors behind All -/
def flAll (o : Nat → Int) (s : Int) : Nat → Int := if flS s = true then (fun k => hi (o k) s) else o
/-- a key's floor -/
def flOf (o : Nat → Int) (k : Int) : Int := if flK k = true then o k.toNat else 0

theorem flK_nat {k : Int} (h : flK k = true) : ∃ n : Nat, k = n ∧ n < 8 := by
  simp [flK] at h
  exact ⟨k.toNat, by omega, by omega⟩
theorem upd_same (o : Nat → Int) (k : Nat) (z : Int) : upd o k z k = z := by simp [upd]
theorem upd_other (o : Nat → Int) {k j : Nat} (z : Int) (h : j ≠ k) : upd o k z j = o j := by simp [upd, h]

/-- eight numbers at a block -/
structure EightAt (w : World) (b : Nat) (o : Nat → Int) : Prop where
  cell : ∀ k, k < 8 → w.cell? ⟨b, k, none⟩ = some (.int .i64 (o k))
  fz : ∀ j, w.frozen? ⟨b, j, none⟩ = false
theorem EightAt.of_block {w w' : World} {b : Nat} {o : Nat → Int} (h : EightAt w b o) (hb : w'.heap[b]? = w.heap[b]?) : EightAt w' b o :=
  ⟨fun k hk => (World.cell?_of_block (a := ⟨b, k, none⟩) hb).trans (h.cell k hk), fun j => (World.frozen?_of_block (a := ⟨b, j, none⟩) hb).trans (h.fz j)⟩
theorem EightAt.lt {w : World} {b : Nat} {o : Nat → Int} (h : EightAt w b o) : b < w.heap.size := World.block_lt_of_cell? w _ (h.cell 0 (by omega))
theorem EightAt.below {w w' : World} {b B : Nat} {o : Nat → Int} (h : EightAt w b o) (hb : Below B w w') (hB : b < B) : EightAt w' b o := h.of_block (hb.block b hB)
theorem EightAt.grown {w w' : World} {b : Nat} {o : Nat → Int} (h : EightAt w b o) (hb : Below w.heap.size w w') : EightAt w' b o := h.below hb h.lt
theorem EightAt.alloc {w : World} {b : Nat} {o : Nat → Int} (h : EightAt w b o) (x : Obj) : EightAt (w.alloc x) b o := h.of_block (Below.heap_alloc _ _ _ h.lt)
theorem EightAt.drew {w : World} {b : Nat} {o : Nat → Int} (h : EightAt w b o) : EightAt w.drew b o := h.of_block rfl
theorem EightAt.other {w : World} {b : Nat} {o : Nat → Int} (h : EightAt w b o) (a : Addr) (hc : b ≠ a.block) (u : Value) : EightAt (w.setCell a u) b o := h.of_block (Below.heap_setCell _ _ _ b hc)
theorem EightAt.set {w : World} {b : Nat} {o : Nat → Int} (h : EightAt w b o) (k : Nat) (hk : k < 8) (z : Int) : EightAt (w.setCell ⟨b, k, none⟩ (.int .i64 z)) b (upd o k z) := by
  refine ⟨fun j hj => ?_, fun j => by rw [World.frozen?_setCell]; exact h.fz j⟩
  by_cases e : j = k
  · subst e
    rw [upd_same]
    exact World.cell?_setCell_same _ _ _ (h.cell j hj)
  · rw [upd_other o z e, World.cell?_setCell_other _ _ _ _ (by simp [e])]
    exact h.cell j hj
theorem EightAt.to {w : World} {b : Nat} {o o' : Nat → Int} (h : EightAt w b o) (e : ∀ k, k < 8 → o k = o' k) : EightAt w b o' := ⟨fun k hk => by rw [← e k hk]; exact h.cell k hk, h.fz⟩
theorem eight_new (w : World) (t : TypeId) (b : Nat) (h : b = w.heap.size) : EightAt (w.alloc (.cells #[.int .i64 0, .int .i64 0, .int .i64 0, .int .i64 0, .int .i64 0, .int .i64 0, .int .i64 0, .int .i64 0] t)) b (fun _ => 0) := by
  subst h
  refine ⟨fun k hk => ?_, fun j => by simp⟩
  have h8 : k = 0 ∨ k = 1 ∨ k = 2 ∨ k = 3 ∨ k = 4 ∨ k = 5 ∨ k = 6 ∨ k = 7 := by omega
  rcases h8 with rfl | rfl | rfl | rfl | rfl | rfl | rfl | rfl <;> simp

/-- nothing old but block b has turned -/
structure Only (b : Nat) (w w' : World) : Prop where
  os : w'.os = w.os
  tape : w'.tape = w.tape
  output : w'.output = w.output
  size : w.heap.size ≤ w'.heap.size
  block : ∀ c, c < w.heap.size → c ≠ b → w'.heap[c]? = w.heap[c]?
theorem Only.refl (b : Nat) (w : World) : Only b w w := ⟨rfl, rfl, rfl, Nat.le_refl _, fun _ _ _ => rfl⟩
theorem Only.trans {b : Nat} {x y z : World} (h : Only b x y) (k : Only b y z) : Only b x z :=
  ⟨k.os.trans h.os, k.tape.trans h.tape, k.output.trans h.output, Nat.le_trans h.size k.size, fun c hc hb => (k.block c (Nat.lt_of_lt_of_le hc h.size) hb).trans (h.block c hc hb)⟩
theorem Only.of_below {b : Nat} {w w' : World} (h : Below w.heap.size w w') : Only b w w' := ⟨h.os, h.tape, h.output, h.size, fun c hc _ => h.block c hc⟩
theorem Only.below {b B : Nat} {w w' : World} (h : Only b w w') (hB : B ≤ w.heap.size) (hb : B ≤ b) : Below B w w' :=
  ⟨h.os, h.tape, h.output, h.size, fun c hc => h.block c (Nat.lt_of_lt_of_le hc hB) (by omega)⟩
theorem Only.set {b : Nat} {w w' : World} (h : Only b w w') (k : Nat) (u : Value) : Only b w (w'.setCell ⟨b, k, none⟩ u) :=
  ⟨h.os, h.tape, h.output, by rw [World.size_setCell]; exact h.size, fun c hc hb => (Below.heap_setCell _ _ _ c hb).trans (h.block c hc hb)⟩
theorem Only.drew {b : Nat} {w w' : World} (h : Only b w w') : Only b w w'.drew := ⟨h.os, h.tape, h.output, h.size, h.block⟩
theorem Only.alloc {b : Nat} {w w' : World} (h : Only b w w') (x : Obj) : Only b w (w'.alloc x) :=
  ⟨h.os, h.tape, h.output, by simp; have := h.size; omega, fun c hc hb => (Below.heap_alloc _ _ c (Nat.lt_of_lt_of_le hc h.size)).trans (h.block c hc hb)⟩
theorem Only.eight {b c : Nat} {w w' : World} {o : Nat → Int} (h : Only b w w') (k : EightAt w c o) (hc : c ≠ b) : EightAt w' c o := k.of_block (h.block c k.lt hc)
theorem Only.box {b c : Nat} {w w' : World} {x0 x1 x2 : Int} {x3 : Bool} {x4 : ByteArray} (h : Only b w w') (k : BoxAt w c x0 x1 x2 x3 x4) (hc : c ≠ b) : BoxAt w' c x0 x1 x2 x3 x4 := k.of_block (h.block c k.lt hc)
theorem Only.cell {b : Nat} {w w' : World} (h : Only b w w') {a : Addr} {v : Value} (hc : w.cell? a = some v) (ha : a.block ≠ b) : w'.cell? a = some v :=
  (World.cell?_of_block (h.block a.block (World.block_lt_of_cell? w a hc) ha)).trans hc
end Go.Proofs.Ytbincnajklmnaaa
