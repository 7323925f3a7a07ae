/-
  Package log: Crash, by its contract.
-/
import Derived.Test.YtpcnfoaoajfhlaaDoorLgK
import Derived.Test.YtpcnfoaoajfhlaaDoorLgF
namespace Go.Proofs.YtpcnfoaoajfhlaaDoor
set_option linter.unusedVariables false
set_option linter.unusedSimpArgs false
open Go.RowKit

/-- how many bytes are left behind a crash -/
def keepN (keep : Int) (sf n : Nat) : Nat := if keep ≤ 0 then sf else if keep ≤ ((n - sf : Nat) : Int) then sf + keep.toNat else n
theorem keepN_le {keep : Int} {sf n : Nat} (h : sf ≤ n) : sf ≤ keepN keep sf n ∧ keepN keep sf n ≤ n := by
  unfold keepN
  split
  · omega
  · split <;> omega
/-- five cells at a block turn -/
theorem Lq.reset {S F : Nat → Prop} {w : World} {j b : Nat} {v : Value} {l : List Deed} {bs : List Nat} {sf : Nat} {lf : Int} {st : Bool} (h : Lq S F w j b v l bs sf lf st) {F2 : Nat → Prop} {b2 : Nat} {v2 : Value} {l2 : List Deed} {bs2 : List Nat} {sf2 : Nat} {lf2 : Int} {st2 : Bool}
    (hs : StoreIs w b2 l2 F2) (hF : ∀ x, F2 x → x ≠ j) (hr : OwnB w v2 bs2) (hv : ∀ g, v2.ownBlock = some g → S g ∧ ¬ F2 g ∧ g ≠ j) :
    Lq (fun x => S x ∨ F2 x) F2 (((((w.setCell ⟨j, 0, none⟩ (.pointer (some ⟨b2, 0, none⟩))).setCell ⟨j, 1, none⟩ v2).setCell ⟨j, 2, none⟩ (.int .i64 sf2)).setCell ⟨j, 3, none⟩ (.int .i64 lf2)).setCell ⟨j, 4, none⟩ (.bool st2)) j b2 v2 l2 bs2 sf2 lf2 st2 := by
  obtain ⟨w5, hw⟩ : ∃ w5, w5 = (((((w.setCell ⟨j, 0, none⟩ (.pointer (some ⟨b2, 0, none⟩))).setCell ⟨j, 1, none⟩ v2).setCell ⟨j, 2, none⟩ (.int .i64 sf2)).setCell ⟨j, 3, none⟩ (.int .i64 lf2)).setCell ⟨j, 4, none⟩ (.bool st2)) := ⟨_, rfl⟩
  have hsz : w5.heap.size = w.heap.size := by rw [hw]; simp only [World.size_setCell]
  have hb : ∀ x, x ≠ j → w5.heap[x]? = w.heap[x]? := fun x hx => by
    rw [hw, Below.heap_setCell _ _ _ x hx, Below.heap_setCell _ _ _ x hx, Below.heap_setCell _ _ _ x hx, Below.heap_setCell _ _ _ x hx, Below.heap_setCell _ _ _ x hx]
  have e0 : w5.cell? ⟨j, 0, none⟩ = some (.pointer (some ⟨b2, 0, none⟩)) := by
    rw [hw, World.cell?_setCell_other _ _ _ _ (by simp), World.cell?_setCell_other _ _ _ _ (by simp), World.cell?_setCell_other _ _ _ _ (by simp), World.cell?_setCell_other _ _ _ _ (by simp)]
    exact World.cell?_setCell_same _ _ _ h.c0
  have e1 : w5.cell? ⟨j, 1, none⟩ = some v2 := by
    rw [hw, World.cell?_setCell_other _ _ _ _ (by simp), World.cell?_setCell_other _ _ _ _ (by simp), World.cell?_setCell_other _ _ _ _ (by simp)]
    exact World.cell?_setCell_same _ _ _ ((World.cell?_setCell_other _ _ _ _ (by simp)).trans h.c1)
  have e2 : w5.cell? ⟨j, 2, none⟩ = some (.int .i64 sf2) := by
    rw [hw, World.cell?_setCell_other _ _ _ _ (by simp), World.cell?_setCell_other _ _ _ _ (by simp)]
    refine World.cell?_setCell_same _ _ _ (u := .int .i64 sf) ?_
    rw [World.cell?_setCell_other _ _ _ _ (by simp), World.cell?_setCell_other _ _ _ _ (by simp)]
    exact h.c2
  have e3 : w5.cell? ⟨j, 3, none⟩ = some (.int .i64 lf2) := by
    rw [hw, World.cell?_setCell_other _ _ _ _ (by simp)]
    refine World.cell?_setCell_same _ _ _ (u := .int .i64 lf) ?_
    rw [World.cell?_setCell_other _ _ _ _ (by simp), World.cell?_setCell_other _ _ _ _ (by simp), World.cell?_setCell_other _ _ _ _ (by simp)]
    exact h.c3
  have e4 : w5.cell? ⟨j, 4, none⟩ = some (.bool st2) := by
    rw [hw]
    refine World.cell?_setCell_same _ _ _ (u := .bool st) ?_
    rw [World.cell?_setCell_other _ _ _ _ (by simp), World.cell?_setCell_other _ _ _ _ (by simp), World.cell?_setCell_other _ _ _ _ (by simp), World.cell?_setCell_other _ _ _ _ (by simp)]
    exact h.c4
  have ef : ∀ k, w5.frozen? ⟨j, k, none⟩ = false := fun k => by rw [hw]; simp only [World.frozen?_setCell]; exact h.fz k
  rw [← hw]
  exact ⟨e0, e1, e2, e3, e4, ef, hs.blocks (by rw [hsz]; exact Nat.le_refl _) (fun x hx => hb x (hF x hx)), hr.blocks (fun g hg => hb g (hv g hg).2.2), .inl h.sj, fun x hx => ⟨.inr hx, hF x hx⟩, fun g hg => ⟨.inl (hv g hg).1, (hv g hg).2⟩, fun x hx => by
    rw [hsz]
    rcases hx with hx | hx
    · exact h.lt x hx
    · exact hs.2.2.2.2.1 x hx⟩
end Go.Proofs.YtpcnfoaoajfhlaaDoor
