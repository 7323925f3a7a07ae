/-
  meresame.Ints and mereref1.In by their contracts.
  What is put is told: the law's closed fact; floors beside a mesh.
  Floors in memory: eight numbers at a block; what package floor does to them, as plain functions.
  What a law is told of a [][]int that came in.
  What a law is told of a []string that came in.
-/
import Derived.Test.YtpcnfoaoajfhlaaDoorTqad
import Derived.BigQuiet
import Derived.Test.YtpcnfoaoajfhlaaDoorTqaz
import Derived.Test.YtpcnfoaoajfhlaaDoorTqbj
import Derived.BigRegion
import Derived.WalkSmall
import Derived.Test.YtpcnfoaoajfhlaaDoorTqaa
namespace Go.Proofs.YtpcnfoaoajfhlaaDoor
set_option linter.unusedVariables false
set_option linter.unusedSimpArgs false
set_option linter.unusedVariables false
set_option linter.unusedSimpArgs false
open Go.RowKit

theorem eqI_step {a b : List Int} {j : Nat} (ha : j < a.length) (hb : j < b.length) : (a.drop j == b.drop j) = ((a[j] == b[j]) && (a.drop (j + 1) == b.drop (j + 1))) := by
  rw [List.drop_eq_getElem_cons ha, List.drop_eq_getElem_cons hb]
  rfl
theorem eqI_len {a b : List Int} (h : a.length ≠ b.length) : (a == b) = false := by
  rw [beq_eq_false_iff_ne]
  intro h'
  exact h (by rw [h'])


theorem hasI_hit {a : List Int} {x : Int} {j : Nat} (h : j < a.length) (hx : a[j] = x) : (a.drop j).contains x = true := by
  rw [List.drop_eq_getElem_cons h, List.contains_cons, hx]
  simp
theorem hasI_miss {a : List Int} {x : Int} {j : Nat} (h : j < a.length) (hx : ¬ a[j] = x) : (a.drop j).contains x = (a.drop (j + 1)).contains x := by
  rw [List.drop_eq_getElem_cons h, List.contains_cons]
  have : (x == a[j]) = false := by simp; exact fun h => hx h.symm
  rw [this, Bool.false_or]

set_option maxHeartbeats 4000000 in
theorem in_c (va : Value) (a : List Int) (x : Int) (w : World) (hra : IntsIs w va a) :
    Calls Tryd.prog 13 #[va, .int .i64 x] w fun e w' => e = .returned (.bool (a.contains x)) ∧ Below w.heap.size w w' := by
  obtain ⟨hla, pa, capa, rfl, hrowa⟩ := hra
  have HRA : Hid (a ≠ [] → ∃ bb o, pa = some ⟨bb, o, none⟩ ∧ bb < w.heap.size ∧ ∀ j (h : j < a.length), w.cell? ⟨bb, o + j, none⟩ = some (.int .i64 a[j])) := hrowa
  clear hrowa
  obtain ⟨n, HN⟩ : ∃ n, Hid (a.length = n) := ⟨_, rfl⟩
  rw [HN.out] at hla ⊢
  have hn63 : n ≤ 9223372036854775807 := hla
  obtain ⟨R, HR⟩ : ∃ R, Hid (a.contains x = R) := ⟨_, rfl⟩
  rw [HR.out]
  go_enter Tryd.func13, Tryd.ntmps13
  go_wp2_with fail
  go_loopw [5] (fun i wr => ∃ j : Nat, j ≤ n ∧ i = .int .i64 j ∧ Hid (R = (a.drop j).contains x) ∧ Hid (Below w.heap.size w wr)) (fun i _ => n - (intOf i).toNat)
  case atStart => exact ⟨0, Nat.zero_le _, rfl, by rw [List.drop_zero]; exact HR.out.symm, Below.refl _ _⟩
  case round =>
    obtain ⟨j, hj, rfl, HE, HB⟩ := hrel
    by_cases hlt : j < n
    · have hja : j < a.length := by rw [HN.out]; exact hlt
      obtain ⟨ba, oa, rfl, hbwa, hata⟩ := HRA.out (fun h => by simp [h] at hja)
      have c0 : wr.cell? ⟨ba, oa + j, none⟩ = some (.int .i64 a[j]) := (World.cell?_of_block (a := ⟨ba, oa + j, none⟩) (HB.out.block ba hbwa)).trans (hata j hja)
      clear hata
      have HHit : Hid (a[j] = x → R = true) := fun h => HE.out.trans (hasI_hit hja h)
      have HMiss : Hid (¬ a[j] = x → R = (a.drop (j + 1)).contains x) := fun h => HE.out.trans (hasI_miss hja h)
      obtain ⟨y, HY⟩ : ∃ y, Hid (a[j] = y) := ⟨a[j], show a[j] = a[j] from rfl⟩
      rw [HY.out] at c0 HHit HMiss
      have hlti : (j : Int) < (n : Int) := by omega
      by_cases hs : y = x
      · have HRt : Hid (R = true) := HHit.out hs
        go_wp2_with fail
        go_ret
        exact ⟨by rw [HRt.out]; rfl, by have hb := HB.out; go_grown⟩
      · have HRt : Hid (R = (a.drop (j + 1)).contains x) := HMiss.out hs
        go_wp2_with fail
        go_roundw
        case rel => exact ⟨j + 1, by omega, by go_num, HRt, HB⟩
        case measure => simp [intOf]; omega
    · obtain rfl : j = n := by omega
      have HR0 : Hid (R = false) := by
        show R = false
        rw [HE.out, List.drop_eq_nil_of_le (by rw [HN.out]; exact Nat.le_refl _)]
        rfl
      go_wp2_with fail
      go_ret
      exact ⟨by rw [HR0.out]; rfl, HB.out⟩
end Go.Proofs.YtpcnfoaoajfhlaaDoor

namespace Go.Proofs.YtpcnfoaoajfhlaaDoor
set_option linter.unusedVariables false
set_option linter.unusedSimpArgs false
open Go.RowKit

theorem one_put : (mPut [] (List.replicate 1 []) 0 2 ⟨#[121]⟩).num = 1 ∧ (mPut [] (List.replicate 1 []) 0 2 ⟨#[121]⟩).err = 0 := ⟨by kernel_rfl, by kernel_rfl⟩
theorem one_get : (mGet (mPut [] (List.replicate 1 []) 0 2 ⟨#[121]⟩).done (mPut [] (List.replicate 1 []) 0 2 ⟨#[121]⟩).cs 0 2 1).2 = (⟨2, 1, 1, false, ⟨#[121]⟩⟩, true, 0) := by kernel_rfl
set_option maxHeartbeats 4000000 in
theorem topOne_c (w : World) : Calls Tryd.prog 5 #[] w fun e w' => e = .returned (.bool true) ∧ Below w.heap.size w w' := by
  go_enter Tryd.func5, Tryd.ntmps5
  go_wp2_with fail
  refine (mNew_ok 1 w (by omega) (by omega)).mono ?_
  rintro e w1 ⟨m0, rfl, ⟨S, hm, hS⟩, hb⟩
  have H1 : Hid (Mh (fun _ => False) w.heap.size w w1 m0 [] (List.replicate 1 [])) := ⟨⟨S, hm, fun c hc => ⟨hS c hc, id⟩⟩, hb, hb.size, fun c hc => hc.elim⟩
  have HGM : Hid (GoodM [] (List.replicate 1 [])) := goodM_new 1
  clear hm hS hb
  obtain ⟨R, HR⟩ : ∃ R, Hid (mPut [] (List.replicate 1 []) 0 2 ⟨#[121]⟩ = R) := ⟨_, rfl⟩
  have HP1 : Hid (R.num = 1 ∧ R.err = 0) := by have := one_put; rw [HR.out] at this; exact this
  have HP2 : Hid (GoodM R.done R.cs) := by have := mPut_good HGM.out 0 2 ⟨#[121]⟩; rw [HR.out] at this; exact this
  have HP3 : Hid ((mGet R.done R.cs 0 2 1).2 = (⟨2, 1, 1, false, ⟨#[121]⟩⟩, true, 0)) := by have := one_get; rw [HR.out] at this; exact this
  obtain ⟨R1, R2, R3, R4⟩ := R
  dsimp only at HP1 HP2 HP3
  obtain ⟨rfl, rfl⟩ := HP1.out
  obtain ⟨S, h1', h2'⟩ := H1.out.call
  have HS : Hid _ := h1'
  have HC : Hid _ := h2'
  clear h1' h2' HP1
  go_wp2_with fail
  refine (mPut_c HS.out HGM.out 0 2 ⟨#[121]⟩ (by unfold maxLen; decide)).mono ?_
  rw [HR.out]
  rintro e w2 ⟨rfl, hto⟩
  dsimp only at hto ⊢
  have H2 : Hid (Mh (fun _ => False) w.heap.size w w2 m0 R1 R2) := (HC.out _ _ _ hto).1
  clear hto HS HC H1 HGM HR
  rw [eV_zeroN]
  obtain ⟨cs2, HG2⟩ : ∃ cs2, Hid (mGet R1 R2 0 2 1 = (cs2, ⟨2, 1, 1, false, ⟨#[121]⟩⟩, true, 0)) := ⟨_, Prod.ext rfl HP3.out⟩
  obtain ⟨S, h1', h2'⟩ := H2.out.call
  have HS : Hid _ := h1'
  have HC : Hid _ := h2'
  clear h1' h2'
  go_wp2_with fail
  refine (mGet_o HS.out HP2.out HG2.out).mono ?_
  rintro e w3 ⟨rfl, hto⟩
  have B3 : Hid (Below w.heap.size w w3) := (HC.out _ _ _ hto).1.bel
  clear hto HS HC H2 HP2 HP3 HG2
  rw [eV_zeroN]
  go_wp2_with fail
  go_ret
  exact ⟨rfl, B3.out.alloc B3.out.size _⟩
/-- three numbers at a block -/
structure Z3 (w : World) (A : Nat) (z0 z1 z2 : Int) : Prop where
  c0 : w.cell? ⟨A, 0, none⟩ = some (.int .i64 z0)
  c1 : w.cell? ⟨A, 1, none⟩ = some (.int .i64 z1)
  c2 : w.cell? ⟨A, 2, none⟩ = some (.int .i64 z2)
theorem Z3.of_block {w w' : World} {A : Nat} {z0 z1 z2 : Int} (h : Z3 w A z0 z1 z2) (hb : w'.heap[A]? = w.heap[A]?) : Z3 w' A z0 z1 z2 :=
  ⟨(World.cell?_of_block (a := ⟨A, 0, none⟩) hb).trans h.c0, (World.cell?_of_block (a := ⟨A, 1, none⟩) hb).trans h.c1, (World.cell?_of_block (a := ⟨A, 2, none⟩) hb).trans h.c2⟩
theorem Z3.lt {w : World} {A : Nat} {z0 z1 z2 : Int} (h : Z3 w A z0 z1 z2) : A < w.heap.size := World.block_lt_of_cell? w _ h.c0
theorem Z3.grown {w w' : World} {A : Nat} {z0 z1 z2 : Int} (h : Z3 w A z0 z1 z2) (hb : Below w.heap.size w w') : Z3 w' A z0 z1 z2 := h.of_block (hb.block A h.lt)
end Go.Proofs.YtpcnfoaoajfhlaaDoor

namespace Go.Proofs.YtpcnfoaoajfhlaaDoor
set_option linter.unusedVariables false
set_option linter.unusedSimpArgs false
open Go.RowKit

/-- is a number a key? -/
def flK (k : Int) : Bool := decide (0 ≤ k) && decide (k < 8)
/-- is it from 0 to 1000? -/
def flS (n : Int) : Bool := decide (0 ≤ n) && decide (n ≤ 1000)
/-- one of eight is another -/
def upd (o : Nat → Int) (k : Nat) (z : Int) : Nat → Int := fun j => if j = k then z else o j
/-- the greater one -/
def hi (x s : Int) : Int := if x < s then s else x
/-- floors behind Raise -/
def flRaise (o : Nat → Int) (k s : Int) : Nat → Int := if (flK k && flS s) = true then upd o k.toNat (hi (o k.toNat) s) else o
/-- is it another one? -/
def flRose (o : Nat → Int) (k s : Int) : Bool := (flK k && flS s) && decide (o k.toNat < s)
/-- the fault of Raise -/
def flErr (b : Bool) : Int := if b = true then 0 else 1
/-- floors behind All -/
def flAll (o : Nat → Int) (s : Int) : Nat → Int := if flS s = true then (fun k => hi (o k) s) else o
/-- a key's floor -/
def flOf (o : Nat → Int) (k : Int) : Int := if flK k = true then o k.toNat else 0

theorem flK_nat {k : Int} (h : flK k = true) : ∃ n : Nat, k = n ∧ n < 8 := by
  simp [flK] at h
  exact ⟨k.toNat, by omega, by omega⟩
theorem upd_same (o : Nat → Int) (k : Nat) (z : Int) : upd o k z k = z := by simp [upd]
theorem upd_other (o : Nat → Int) {k j : Nat} (z : Int) (h : j ≠ k) : upd o k z j = o j := by simp [upd, h]

/-- eight numbers at a block -/
structure EightAt (w : World) (b : Nat) (o : Nat → Int) : Prop where
  cell : ∀ k, k < 8 → w.cell? ⟨b, k, none⟩ = some (.int .i64 (o k))
  fz : ∀ j, w.frozen? ⟨b, j, none⟩ = false
theorem EightAt.of_block {w w' : World} {b : Nat} {o : Nat → Int} (h : EightAt w b o) (hb : w'.heap[b]? = w.heap[b]?) : EightAt w' b o :=
  ⟨fun k hk => (World.cell?_of_block (a := ⟨b, k, none⟩) hb).trans (h.cell k hk), fun j => (World.frozen?_of_block (a := ⟨b, j, none⟩) hb).trans (h.fz j)⟩
theorem EightAt.lt {w : World} {b : Nat} {o : Nat → Int} (h : EightAt w b o) : b < w.heap.size := World.block_lt_of_cell? w _ (h.cell 0 (by omega))
theorem EightAt.below {w w' : World} {b B : Nat} {o : Nat → Int} (h : EightAt w b o) (hb : Below B w w') (hB : b < B) : EightAt w' b o := h.of_block (hb.block b hB)
theorem EightAt.grown {w w' : World} {b : Nat} {o : Nat → Int} (h : EightAt w b o) (hb : Below w.heap.size w w') : EightAt w' b o := h.below hb h.lt
theorem EightAt.alloc {w : World} {b : Nat} {o : Nat → Int} (h : EightAt w b o) (x : Obj) : EightAt (w.alloc x) b o := h.of_block (Below.heap_alloc _ _ _ h.lt)
theorem EightAt.drew {w : World} {b : Nat} {o : Nat → Int} (h : EightAt w b o) : EightAt w.drew b o := h.of_block rfl
theorem EightAt.other {w : World} {b : Nat} {o : Nat → Int} (h : EightAt w b o) (a : Addr) (hc : b ≠ a.block) (u : Value) : EightAt (w.setCell a u) b o := h.of_block (Below.heap_setCell _ _ _ b hc)
theorem EightAt.set {w : World} {b : Nat} {o : Nat → Int} (h : EightAt w b o) (k : Nat) (hk : k < 8) (z : Int) : EightAt (w.setCell ⟨b, k, none⟩ (.int .i64 z)) b (upd o k z) := by
  refine ⟨fun j hj => ?_, fun j => by rw [World.frozen?_setCell]; exact h.fz j⟩
  by_cases e : j = k
  · subst e
    rw [upd_same]
    exact World.cell?_setCell_same _ _ _ (h.cell j hj)
  · rw [upd_other o z e, World.cell?_setCell_other _ _ _ _ (by simp [e])]
    exact h.cell j hj
theorem EightAt.to {w : World} {b : Nat} {o o' : Nat → Int} (h : EightAt w b o) (e : ∀ k, k < 8 → o k = o' k) : EightAt w b o' := ⟨fun k hk => by rw [← e k hk]; exact h.cell k hk, h.fz⟩
theorem eight_new (w : World) (t : TypeId) (b : Nat) (h : b = w.heap.size) : EightAt (w.alloc (.cells #[.int .i64 0, .int .i64 0, .int .i64 0, .int .i64 0, .int .i64 0, .int .i64 0, .int .i64 0, .int .i64 0] t)) b (fun _ => 0) := by
  subst h
  refine ⟨fun k hk => ?_, fun j => by simp⟩
  have h8 : k = 0 ∨ k = 1 ∨ k = 2 ∨ k = 3 ∨ k = 4 ∨ k = 5 ∨ k = 6 ∨ k = 7 := by omega
  rcases h8 with rfl | rfl | rfl | rfl | rfl | rfl | rfl | rfl <;> simp

/-- nothing old but block b has turned -/
structure Only (b : Nat) (w w' : World) : Prop where
  os : w'.os = w.os
  tape : w'.tape = w.tape
  output : w'.output = w.output
  size : w.heap.size ≤ w'.heap.size
  block : ∀ c, c < w.heap.size → c ≠ b → w'.heap[c]? = w.heap[c]?
theorem Only.refl (b : Nat) (w : World) : Only b w w := ⟨rfl, rfl, rfl, Nat.le_refl _, fun _ _ _ => rfl⟩
theorem Only.trans {b : Nat} {x y z : World} (h : Only b x y) (k : Only b y z) : Only b x z :=
  ⟨k.os.trans h.os, k.tape.trans h.tape, k.output.trans h.output, Nat.le_trans h.size k.size, fun c hc hb => (k.block c (Nat.lt_of_lt_of_le hc h.size) hb).trans (h.block c hc hb)⟩
theorem Only.of_below {b : Nat} {w w' : World} (h : Below w.heap.size w w') : Only b w w' := ⟨h.os, h.tape, h.output, h.size, fun c hc _ => h.block c hc⟩
theorem Only.below {b B : Nat} {w w' : World} (h : Only b w w') (hB : B ≤ w.heap.size) (hb : B ≤ b) : Below B w w' :=
  ⟨h.os, h.tape, h.output, h.size, fun c hc => h.block c (Nat.lt_of_lt_of_le hc hB) (by omega)⟩
theorem Only.set {b : Nat} {w w' : World} (h : Only b w w') (k : Nat) (u : Value) : Only b w (w'.setCell ⟨b, k, none⟩ u) :=
  ⟨h.os, h.tape, h.output, by rw [World.size_setCell]; exact h.size, fun c hc hb => (Below.heap_setCell _ _ _ c hb).trans (h.block c hc hb)⟩
theorem Only.drew {b : Nat} {w w' : World} (h : Only b w w') : Only b w w'.drew := ⟨h.os, h.tape, h.output, h.size, h.block⟩
theorem Only.alloc {b : Nat} {w w' : World} (h : Only b w w') (x : Obj) : Only b w (w'.alloc x) :=
  ⟨h.os, h.tape, h.output, by simp; have := h.size; omega, fun c hc hb => (Below.heap_alloc _ _ c (Nat.lt_of_lt_of_le hc h.size)).trans (h.block c hc hb)⟩
theorem Only.eight {b c : Nat} {w w' : World} {o : Nat → Int} (h : Only b w w') (k : EightAt w c o) (hc : c ≠ b) : EightAt w' c o := k.of_block (h.block c k.lt hc)
theorem Only.box {b c : Nat} {w w' : World} {x0 x1 x2 : Int} {x3 : Bool} {x4 : ByteArray} (h : Only b w w') (k : BoxAt w c x0 x1 x2 x3 x4) (hc : c ≠ b) : BoxAt w' c x0 x1 x2 x3 x4 := k.of_block (h.block c k.lt hc)
theorem Only.cell {b : Nat} {w w' : World} (h : Only b w w') {a : Addr} {v : Value} (hc : w.cell? a = some v) (ha : a.block ≠ b) : w'.cell? a = some v :=
  (World.cell?_of_block (h.block a.block (World.block_lt_of_cell? w a hc) ha)).trans hc
end Go.Proofs.YtpcnfoaoajfhlaaDoor

namespace Go.Proofs.YtpcnfoaoajfhlaaDoor
set_option linter.unusedVariables false
set_option linter.unusedSimpArgs false
open Go.RowKit

/-- a slice of ints -/
def IsInts (w : World) (v : Value) (m : Nat) : Prop :=
  ∃ a cap, v = .slice a m cap ∧ m ≤ maxLen ∧ ∀ j, j < m → ∃ b o z, a = some ⟨b, o, none⟩ ∧ w.cell? ⟨b, o + j, none⟩ = some (.int .i64 z)
/-- a slice of slices of ints -/
def IsSteps (w : World) (v : Value) (n : Nat) : Prop :=
  ∃ a cap, v = .slice a n cap ∧ n ≤ maxLen ∧ ∀ i, i < n → ∃ b o u m, a = some ⟨b, o, none⟩ ∧ w.cell? ⟨b, o + i, none⟩ = some u ∧ IsInts w u m
theorem old_cell {w w' : World} {a : Addr} {v : Value} (hb : Below w.heap.size w w') (h : w.cell? a = some v) : w'.cell? a = some v :=
  (hb.cell (World.block_lt_of_cell? w a h)).trans h
theorem IsInts.below {w w' : World} {v : Value} {m : Nat} (h : IsInts w v m) (hb : Below w.heap.size w w') : IsInts w' v m := by
  obtain ⟨a, cap, rfl, hm, hj⟩ := h
  exact ⟨a, cap, rfl, hm, fun j hlt => by obtain ⟨b, o, z, e, hc⟩ := hj j hlt; exact ⟨b, o, z, e, old_cell hb hc⟩⟩
theorem IsSteps.below {w w' : World} {v : Value} {n : Nat} (h : IsSteps w v n) (hb : Below w.heap.size w w') : IsSteps w' v n := by
  obtain ⟨a, cap, rfl, hm, hj⟩ := h
  exact ⟨a, cap, rfl, hm, fun j hlt => by obtain ⟨b, o, u, m, e, hc, hu⟩ := hj j hlt; exact ⟨b, o, u, m, e, old_cell hb hc, hu.below hb⟩⟩
end Go.Proofs.YtpcnfoaoajfhlaaDoor

namespace Go.Proofs.YtpcnfoaoajfhlaaDoor
set_option linter.unusedVariables false
set_option linter.unusedSimpArgs false
open Go.RowKit

/-- a slice of strings -/
def IsTexts (w : World) (v : Value) (n : Nat) : Prop :=
  ∃ a cap, v = .slice a n cap ∧ n ≤ maxLen ∧ ∀ i, i < n → ∃ b o s, a = some ⟨b, o, none⟩ ∧ w.cell? ⟨b, o + i, none⟩ = some (.string s) ∧ s.size ≤ maxLen

theorem IsTexts.below {w w' : World} {v : Value} {n : Nat} (h : IsTexts w v n) (hb : Below w.heap.size w w') : IsTexts w' v n := by
  obtain ⟨a, cap, rfl, hm, hj⟩ := h
  exact ⟨a, cap, rfl, hm, fun j hlt => by obtain ⟨b, o, s, e, hc, hs⟩ := hj j hlt; exact ⟨b, o, s, e, old_cell hb hc, hs⟩⟩
end Go.Proofs.YtpcnfoaoajfhlaaDoor
