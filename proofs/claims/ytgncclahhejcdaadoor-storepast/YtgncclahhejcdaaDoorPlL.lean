/-
  Two stores side by side: what a pair of calls leaves.
-/
import Derived.Test.YtgncclahhejcdaaDoorPl0
import Derived.WalkSmall
namespace Go.Proofs.YtgncclahhejcdaaDoor
set_option linter.unusedVariables false
set_option linter.unusedSimpArgs false
open Go.RowKit

/-- both stores hold the same, apart from each other, in new memory -/
def Both (B : Nat) (w : World) (s m : Nat) (l : List Deed) (F G : Nat → Prop) : Prop :=
  StoreIs w s l F ∧ RefIs w m l G ∧ (∀ c, F c → ¬ G c) ∧ (∀ c, F c → B ≤ c) ∧ (∀ c, G c → B ≤ c)
theorem both_start (w : World) : Both w.heap.size ((w.alloc (.cells #[.int .i64 0, .slice none 0 0, .slice none 0 0, .slice none 0 0, .slice none 0 0, .slice none 0 0, .slice none 0 0, .slice none 0 0, .slice none 0 0] 66)).alloc (.cells #[.slice none 0 0] 41)) w.heap.size (w.heap.size + 1) [] (fun c => c = w.heap.size) (fun c => c = w.heap.size + 1) := by
  refine ⟨(new_is w).below ((Below.refl _ _).alloc (Nat.le_refl _) _), ⟨.slice none 0 0, by simp, by simp, World.ownsRow_nil _ _ _ _, by simp [Value.ownBlock], fun c hc => by simp [Value.ownBlock] at hc, rfl, fun c hc => by subst hc; simp, by simp⟩, fun c hc hd => by omega, fun c hc => by omega, fun c hc => by omega⟩
theorem Both.below {B : Nat} {w w' : World} {s m : Nat} {l : List Deed} {F G : Nat → Prop} (h : Both B w s m l F G) (hb : Below w.heap.size w w') : Both B w' s m l F G := by
  obtain ⟨h1, h2, h3⟩ := h
  exact ⟨h1.below hb, h2.below hb, h3⟩
theorem Both.ltF {B : Nat} {w : World} {s m : Nat} {l : List Deed} {F G : Nat → Prop} (h : Both B w s m l F G) : ∀ c, F c → c < w.heap.size := h.1.2.2.2.2.1
theorem Both.ltG {B : Nat} {w : World} {s m : Nat} {l : List Deed} {F G : Nat → Prop} (h : Both B w s m l F G) : ∀ c, G c → c < w.heap.size := h.2.1.lt

/-- the world behind a pair of calls -/
structure Step (B : Nat) (s m : Nat) (F G : Nat → Prop) (w w' : World) (l : List Deed) : Prop where
  both : ∃ F' G', Both B w' s m l F' G'
  below : Below B w w'
  block : ∀ c, c < w.heap.size → ¬ F c → ¬ G c → w'.heap[c]? = w.heap[c]?
theorem Step.cell {B s m : Nat} {F G : Nat → Prop} {w w' : World} {l : List Deed} (h : Step B s m F G w w' l) {a : Addr} {v : Value} (hF : ¬ F a.block) (hG : ¬ G a.block) (hc : w.cell? a = some v) : w'.cell? a = some v :=
  (World.cell?_of_block (h.block a.block (World.block_lt_of_cell? w a hc) hF hG)).trans hc

theorem pair_step {B s m : Nat} {F G : Nat → Prop} {w w1 w2 : World} {l : List Deed} {o : Out} {e1 e2 : Ending} (hB : B ≤ w.heap.size) (h : Both B w s m l F G) (h1 : LeftR m G w o e1 w1) (h2 : Left s F w1 o e2 w2) : Step B s m F G w w2 o.done := by
  obtain ⟨hs, hr, hd, hF, hG⟩ := h
  obtain ⟨_, G', r1, g1, k1⟩ := h1
  obtain ⟨_, F', s2, f2, k2⟩ := h2
  have dis : ∀ c, G' c → ¬ F c := fun c hg hf => by
    rcases g1 c hg with h | h
    · exact hd c hf h
    · have := hs.2.2.2.2.1 c hf; omega
  refine ⟨⟨F', G', s2, r1.kept k2 dis, fun c hf hg => ?_, fun c hf => ?_, fun c hg => ?_⟩, ?_, fun c hc nf ng => ?_⟩
  · rcases f2 c hf with h | h
    · exact dis c hg h
    · have := r1.lt c hg; omega
  · rcases f2 c hf with h | h
    · exact hF c h
    · exact Nat.le_trans hB (Nat.le_trans k1.size h)
  · rcases g1 c hg with h | h
    · exact hG c h
    · exact Nat.le_trans hB h
  · exact (k1.below hB hG).trans (k2.below (Nat.le_trans hB k1.size) hF)
  · rw [k2.block c (Nat.lt_of_lt_of_le hc k1.size) nf, k1.block c hc ng]
/-- the store is as it was while the document's is called -/
theorem pair_mid {B s m : Nat} {F G : Nat → Prop} {w w1 : World} {l : List Deed} {o : Out} {e1 : Ending} (h : Both B w s m l F G) (h1 : LeftR m G w o e1 w1) : StoreIs w1 s l F := by
  obtain ⟨hs, hr, hd, hF, hG⟩ := h
  obtain ⟨_, G', r1, g1, k1⟩ := h1
  exact hs.kept k1 hd
theorem pair_midCell {m : Nat} {G : Nat → Prop} {w w1 : World} {o : Out} {e1 : Ending} (h1 : LeftR m G w o e1 w1) {a : Addr} {v : Value} (hG : ¬ G a.block) (hc : w.cell? a = some v) : w1.cell? a = some v := by
  obtain ⟨_, G', r1, g1, k1⟩ := h1
  exact (k1.cell a (World.block_lt_of_cell? w a hc) hG).trans hc
theorem below_same (w : World) (o : Obj) (n : Nat) : Below (w.heap.size + 1) (w.alloc o) ((w.alloc o).drewN n) := ⟨rfl, rfl, rfl, Nat.le_refl _, fun _ _ => rfl⟩
theorem HasErr.drew {w : World} (h : HasErr w) : HasErr w.drew := h
theorem error_same (n : Int) (w : World) (hg : HasErr w) : Calls Tryd.prog 10 #[errV n, .int .i64 n] w fun e w' => e = .returned (.bool true) ∧ Below w.heap.size w w' :=
  (error_any n n w hg).mono fun e w' h => ⟨by rw [h.1]; simp, h.2⟩
/-- is there an entry of the key at the number? -/
def atY (l : List Deed) (k s : Int) : Bool := isK k && decide (0 ≤ s) && decide (s ≤ l.length)
theorem atO_yes {l : List Deed} {k s : Int} (h : atY l k s = true) : atO l k s = (entAt l k s.toNat, 0) ∧ isK k = true ∧ 0 ≤ s ∧ s ≤ l.length := by
  simp only [atY, Bool.and_eq_true, decide_eq_true_eq] at h
  exact ⟨by simp only [atO, h.1.1, h.1.2, h.2, true_and, and_self, if_true], h.1.1, h.1.2, h.2⟩
theorem atO_no {l : List Deed} {k s : Int} (h : atY l k s = false) : atO l k s = (Ent.zero, 1) := by
  unfold atO
  rw [if_neg]
  rintro ⟨h1, h2, h3⟩
  simp [atY, h1, h2, h3] at h
theorem ent_cells (e : Ent) : ∃ x0 x1 x2 x3 x4, e.val = .agg #[.int .i64 x0, .int .i64 x1, .int .i64 x2, .bool x3, .string x4] := ⟨_, _, _, _, _, rfl⟩
/-- an entry's five cells at a block -/
structure EntAt (w : World) (b : Nat) (v : Value) : Prop where
  cells : ∃ x0 x1 x2 x3 x4, v = .agg #[.int .i64 x0, .int .i64 x1, .int .i64 x2, .bool x3, .string x4] ∧ w.cell? ⟨b, 0, none⟩ = some (.int .i64 x0) ∧ w.cell? ⟨b, 1, none⟩ = some (.int .i64 x1) ∧ w.cell? ⟨b, 2, none⟩ = some (.int .i64 x2) ∧ w.cell? ⟨b, 3, none⟩ = some (.bool x3) ∧ w.cell? ⟨b, 4, none⟩ = some (.string x4)
  frozen : ∀ j, w.frozen? ⟨b, j, none⟩ = false
theorem entAt_set {w : World} {b : Nat} {v : Value} (h : EntAt w b v) (x0 x1 x2 : Int) (x3 : Bool) (x4 : ByteArray) :
    EntAt (((((w.setCell ⟨b, 0, none⟩ (.int .i64 x0)).setCell ⟨b, 1, none⟩ (.int .i64 x1)).setCell ⟨b, 2, none⟩ (.int .i64 x2)).setCell ⟨b, 3, none⟩ (.bool x3)).setCell ⟨b, 4, none⟩ (.string x4)) b (.agg #[.int .i64 x0, .int .i64 x1, .int .i64 x2, .bool x3, .string x4]) := by
  obtain ⟨⟨y0, y1, y2, y3, y4, e, h0, h1, h2, h3, h4⟩, hf⟩ := h
  refine ⟨⟨x0, x1, x2, x3, x4, rfl, ?_, ?_, ?_, ?_, ?_⟩, fun j => by simp only [World.frozen?_setCell]; exact hf j⟩
  · rw [World.cell?_setCell_other _ _ _ _ (by simp), World.cell?_setCell_other _ _ _ _ (by simp), World.cell?_setCell_other _ _ _ _ (by simp), World.cell?_setCell_other _ _ _ _ (by simp), World.cell?_setCell_same _ _ _ h0]
  · rw [World.cell?_setCell_other _ _ _ _ (by simp), World.cell?_setCell_other _ _ _ _ (by simp), World.cell?_setCell_other _ _ _ _ (by simp)]
    exact World.cell?_setCell_same _ _ _ ((World.cell?_setCell_other _ _ _ _ (by simp)).trans h1)
  · rw [World.cell?_setCell_other _ _ _ _ (by simp), World.cell?_setCell_other _ _ _ _ (by simp)]
    exact World.cell?_setCell_same _ _ _ ((World.cell?_setCell_other _ _ _ _ (by simp)).trans ((World.cell?_setCell_other _ _ _ _ (by simp)).trans h2))
  · rw [World.cell?_setCell_other _ _ _ _ (by simp)]
    exact World.cell?_setCell_same _ _ _ ((World.cell?_setCell_other _ _ _ _ (by simp)).trans ((World.cell?_setCell_other _ _ _ _ (by simp)).trans ((World.cell?_setCell_other _ _ _ _ (by simp)).trans h3)))
  · exact World.cell?_setCell_same _ _ _ ((World.cell?_setCell_other _ _ _ _ (by simp)).trans ((World.cell?_setCell_other _ _ _ _ (by simp)).trans ((World.cell?_setCell_other _ _ _ _ (by simp)).trans ((World.cell?_setCell_other _ _ _ _ (by simp)).trans h4))))
theorem below_set5 {w w' : World} {B b : Nat} (h : Below B w w') (hb : B ≤ b) (x0 x1 x2 x3 x4 : Value) :
    Below B w (((((w'.setCell ⟨b, 0, none⟩ x0).setCell ⟨b, 1, none⟩ x1).setCell ⟨b, 2, none⟩ x2).setCell ⟨b, 3, none⟩ x3).setCell ⟨b, 4, none⟩ x4) :=
  ((((h.setCell hb _).setCell hb _).setCell hb _).setCell hb _).setCell hb _
theorem set5_block (w : World) (b c : Nat) (x0 x1 x2 x3 x4 : Value) (h : c ≠ b) :
    (((((w.setCell ⟨b, 0, none⟩ x0).setCell ⟨b, 1, none⟩ x1).setCell ⟨b, 2, none⟩ x2).setCell ⟨b, 3, none⟩ x3).setCell ⟨b, 4, none⟩ x4).heap[c]? = w.heap[c]? := by
  rw [Below.heap_setCell _ _ _ c h, Below.heap_setCell _ _ _ c h, Below.heap_setCell _ _ _ c h, Below.heap_setCell _ _ _ c h, Below.heap_setCell _ _ _ c h]
theorem set5_size (w : World) (b : Nat) (x0 x1 x2 x3 x4 : Value) :
    (((((w.setCell ⟨b, 0, none⟩ x0).setCell ⟨b, 1, none⟩ x1).setCell ⟨b, 2, none⟩ x2).setCell ⟨b, 3, none⟩ x3).setCell ⟨b, 4, none⟩ x4).heap.size = w.heap.size := by
  simp only [World.size_setCell]
theorem entAt_new (w : World) (x0 x1 x2 : Int) (x3 : Bool) (x4 : ByteArray) : EntAt (w.alloc (.cells #[.int .i64 x0, .int .i64 x1, .int .i64 x2, .bool x3, .string x4] 25)) w.heap.size (.agg #[.int .i64 x0, .int .i64 x1, .int .i64 x2, .bool x3, .string x4]) :=
  ⟨⟨x0, x1, x2, x3, x4, rfl, by simp, by simp, by simp, by simp, by simp⟩, fun j => by simp⟩
theorem EntAt.of_block {w w' : World} {b : Nat} {v : Value} (h : EntAt w b v) (hb : w'.heap[b]? = w.heap[b]?) : EntAt w' b v := by
  obtain ⟨⟨x0, x1, x2, x3, x4, e, h0, h1, h2, h3, h4⟩, hf⟩ := h
  exact ⟨⟨x0, x1, x2, x3, x4, e, (World.cell?_of_block (a := ⟨b, 0, none⟩) hb).trans h0, (World.cell?_of_block (a := ⟨b, 1, none⟩) hb).trans h1, (World.cell?_of_block (a := ⟨b, 2, none⟩) hb).trans h2, (World.cell?_of_block (a := ⟨b, 3, none⟩) hb).trans h3, (World.cell?_of_block (a := ⟨b, 4, none⟩) hb).trans h4⟩, fun j => (World.frozen?_of_block (a := ⟨b, j, none⟩) hb).trans (hf j)⟩
theorem EntAt.below {w w' : World} {b B : Nat} {v : Value} (h : EntAt w b v) (hb : Below B w w') (hB : b < B) : EntAt w' b v := h.of_block (hb.block b hB)
theorem EntAt.lt {w : World} {b : Nat} {v : Value} (h : EntAt w b v) : b < w.heap.size := by
  obtain ⟨⟨y0, y1, y2, y3, y4, _, q0, _⟩, _⟩ := h
  exact World.block_lt_of_cell? w _ q0
theorem EntAt.all {w : World} {b : Nat} {x0 x1 x2 : Int} {x3 : Bool} {x4 : ByteArray} (h : EntAt w b (.agg #[.int .i64 x0, .int .i64 x1, .int .i64 x2, .bool x3, .string x4])) :
    w.cell? ⟨b, 0, none⟩ = some (.int .i64 x0) ∧ w.cell? ⟨b, 1, none⟩ = some (.int .i64 x1) ∧ w.cell? ⟨b, 2, none⟩ = some (.int .i64 x2) ∧ w.cell? ⟨b, 3, none⟩ = some (.bool x3) ∧ w.cell? ⟨b, 4, none⟩ = some (.string x4) := by
  obtain ⟨⟨y0, y1, y2, y3, y4, he, q0, q1, q2, q3, q4⟩, _⟩ := h
  simp at he
  obtain ⟨rfl, rfl, rfl, rfl, rfl⟩ := he
  exact ⟨q0, q1, q2, q3, q4⟩
theorem readO_no {l : List Deed} {k : Int} (h : isK k = false) : readO l k = (Ent.zero, 1) := by simp [readO, atO, h]
theorem readO_yes {l : List Deed} {k : Int} (h : isK k = true) : readO l k = (entAt l k l.length, 0) := by simp [readO, atO, h]
end Go.Proofs.YtgncclahhejcdaaDoor
