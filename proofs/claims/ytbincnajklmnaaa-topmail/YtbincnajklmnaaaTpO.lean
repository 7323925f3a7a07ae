/-
  What is put is told: the law's closed fact; floors beside a mesh.
-/
import Derived.Test.YtbincnajklmnaaaMsH
import Derived.Test.YtbincnajklmnaaaMsQ
import Derived.BigRegion
import Derived.BigQuiet
import Derived.WalkSmall
namespace Go.Proofs.Ytbincnajklmnaaa
set_option linter.unusedVariables false
set_option linter.unusedSimpArgs false
open Go.RowKit

theorem one_put : (mPut [] (List.replicate 1 []) 0 2 ⟨#[121]⟩).num = 1 ∧ (mPut [] (List.replicate 1 []) 0 2 ⟨#[121]⟩).err = 0 := ⟨by kernel_rfl, by kernel_rfl⟩
theorem one_get : (mGet (mPut [] (List.replicate 1 []) 0 2 ⟨#[121]⟩).done (mPut [] (List.replicate 1 []) 0 2 ⟨#[121]⟩).cs 0 2 1).2 = (⟨2, 1, 1, false, ⟨#[121]⟩⟩, true, 0) := by kernel_rfl
set_option maxHeartbeats 4000000 in
theorem topOne_c (w : World) : Calls Try.prog 5 #[] w fun e w' => e = .returned (.bool true) ∧ Below w.heap.size w w' := by
  go_enter Try.func5, Try.ntmps5
  go_wp2_with fail
  refine (mNew_ok 1 w (by omega) (by omega)).mono ?_
  rintro e w1 ⟨m0, rfl, ⟨S, hm, hS⟩, hb⟩
  have H1 : Hid (Mh (fun _ => False) w.heap.size w w1 m0 [] (List.replicate 1 [])) := ⟨⟨S, hm, fun c hc => ⟨hS c hc, id⟩⟩, hb, hb.size, fun c hc => hc.elim⟩
  have HGM : Hid (GoodM [] (List.replicate 1 [])) := goodM_new 1
  clear hm hS hb
  obtain ⟨R, HR⟩ : ∃ R, Hid (mPut [] (List.replicate 1 []) 0 2 ⟨#[121]⟩ = R) := ⟨_, rfl⟩
  have HP1 : Hid (R.num = 1 ∧ R.err = 0) := by have := one_put; rw [HR.out] at this; exact this
  have HP2 : Hid (GoodM R.done R.cs) := by have := mPut_good HGM.out 0 2 ⟨#[121]⟩; rw [HR.out] at this; exact this
  have HP3 : Hid ((mGet R.done R.cs 0 2 1).2 = (⟨2, 1, 1, false, ⟨#[121]⟩⟩, true, 0)) := by have := one_get; rw [HR.out] at this; exact this
  obtain ⟨R1, R2, R3, R4⟩ := R
  dsimp only at HP1 HP2 HP3
  obtain ⟨rfl, rfl⟩ := HP1.out
  obtain ⟨S, h1', h2'⟩ := H1.out.call
  have HS : Hid _ := h1'
  have HC : Hid _ := h2'
  clear h1' h2' HP1
  go_wp2_with fail
  refine (mPut_c HS.out HGM.out 0 2 ⟨#[121]⟩ (by unfold maxLen; decide)).mono ?_
  rw [HR.out]
  rintro e w2 ⟨rfl, hto⟩
  dsimp only at hto ⊢
  have H2 : Hid (Mh (fun _ => False) w.heap.size w w2 m0 R1 R2) := (HC.out _ _ _ hto).1
  clear hto HS HC H1 HGM HR
  rw [eV_zeroN]
  obtain ⟨cs2, HG2⟩ : ∃ cs2, Hid (mGet R1 R2 0 2 1 = (cs2, ⟨2, 1, 1, false, ⟨#[121]⟩⟩, true, 0)) := ⟨_, Prod.ext rfl HP3.out⟩
  obtain ⟨S, h1', h2'⟩ := H2.out.call
  have HS : Hid _ := h1'
  have HC : Hid _ := h2'
  clear h1' h2'
  go_wp2_with fail
  refine (mGet_o HS.out HP2.out HG2.out).mono ?_
  rintro e w3 ⟨rfl, hto⟩
  have B3 : Hid (Below w.heap.size w w3) := (HC.out _ _ _ hto).1.bel
  clear hto HS HC H2 HP2 HP3 HG2
  rw [eV_zeroN]
  go_wp2_with fail
  go_ret
  exact ⟨rfl, B3.out.alloc B3.out.size _⟩
/-- three numbers at a block -/
structure Z3 (w : World) (A : Nat) (z0 z1 z2 : Int) : Prop where
  c0 : w.cell? ⟨A, 0, none⟩ = some (.int .i64 z0)
  c1 : w.cell? ⟨A, 1, none⟩ = some (.int .i64 z1)
  c2 : w.cell? ⟨A, 2, none⟩ = some (.int .i64 z2)
theorem Z3.of_block {w w' : World} {A : Nat} {z0 z1 z2 : Int} (h : Z3 w A z0 z1 z2) (hb : w'.heap[A]? = w.heap[A]?) : Z3 w' A z0 z1 z2 :=
  ⟨(World.cell?_of_block (a := ⟨A, 0, none⟩) hb).trans h.c0, (World.cell?_of_block (a := ⟨A, 1, none⟩) hb).trans h.c1, (World.cell?_of_block (a := ⟨A, 2, none⟩) hb).trans h.c2⟩
theorem Z3.lt {w : World} {A : Nat} {z0 z1 z2 : Int} (h : Z3 w A z0 z1 z2) : A < w.heap.size := World.block_lt_of_cell? w _ h.c0
theorem Z3.grown {w w' : World} {A : Nat} {z0 z1 z2 : Int} (h : Z3 w A z0 z1 z2) (hb : Below w.heap.size w w') : Z3 w' A z0 z1 z2 := h.of_block (hb.block A h.lt)
end Go.Proofs.Ytbincnajklmnaaa
