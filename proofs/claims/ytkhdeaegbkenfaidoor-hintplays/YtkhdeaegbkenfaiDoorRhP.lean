/-
  The document's hints in memory (mereref2.Hints): a row and a number behind a pointer.
-/
import Derived.Test.YtkhdeaegbkenfaiDoorHiP
namespace Go.Proofs.YtkhdeaegbkenfaiDoor
set_option linter.unusedVariables false
set_option linter.unusedSimpArgs false
open Go.RowKit

/-- the document's hints behind a pointer; all of it lies in S -/
structure Rh (S : Nat → Prop) (w : World) (b : Nat) (v : Value) (l : List Hn) (n : Nat) : Prop where
  c0 : w.cell? ⟨b, 0, none⟩ = some v
  c1 : w.cell? ⟨b, 1, none⟩ = some (.int .i64 n)
  fz : ∀ j, w.frozen? ⟨b, j, none⟩ = false
  row : HnsIs w v l
  n0 : v.ownBlock ≠ some b
  s0 : S b
  s2 : ∀ c, v.ownBlock = some c → S c
  lt : ∀ c, S c → c < w.heap.size
def RhAt (S : Nat → Prop) (w : World) (b : Nat) (l : List Hn) (n : Nat) : Prop := ∃ v, Rh S w b v l n
def RhTo (S : Nat → Prop) (w w' : World) (b : Nat) (l : List Hn) (n : Nat) : Prop := Turn S w w' ∧ ∃ S', RhAt S' w' b l n ∧ ∀ c, S' c → S c ∨ w.heap.size ≤ c
theorem Rh.blocks {S : Nat → Prop} {w w' : World} {b : Nat} {v : Value} {l : List Hn} {n : Nat} (h : Rh S w b v l n) (hs : w.heap.size ≤ w'.heap.size) (hb : ∀ c, S c → w'.heap[c]? = w.heap[c]?) : Rh S w' b v l n :=
  ⟨(World.cell?_of_block (a := ⟨b, 0, none⟩) (hb b h.s0)).trans h.c0, (World.cell?_of_block (a := ⟨b, 1, none⟩) (hb b h.s0)).trans h.c1, fun j => (World.frozen?_of_block (a := ⟨b, j, none⟩) (hb b h.s0)).trans (h.fz j), h.row.blocks hs (fun c hc _ => hb c (h.s2 c hc)), h.n0, h.s0, h.s2, fun c hc => Nat.lt_of_lt_of_le (h.lt c hc) hs⟩
theorem RhAt.blocks {S : Nat → Prop} {w w' : World} {b : Nat} {l : List Hn} {n : Nat} (h : RhAt S w b l n) (hs : w.heap.size ≤ w'.heap.size) (hb : ∀ c, S c → w'.heap[c]? = w.heap[c]?) : RhAt S w' b l n := by
  obtain ⟨v, h1⟩ := h
  exact ⟨v, h1.blocks hs hb⟩
theorem RhAt.lt {S : Nat → Prop} {w : World} {b : Nat} {l : List Hn} {n : Nat} (h : RhAt S w b l n) : ∀ c, S c → c < w.heap.size := by
  obtain ⟨v, h1⟩ := h
  exact h1.lt
theorem RhAt.grown {S : Nat → Prop} {w w' : World} {b : Nat} {l : List Hn} {n : Nat} (h : RhAt S w b l n) (hb : Below w.heap.size w w') : RhAt S w' b l n := h.blocks hb.size fun c hc => hb.block c (h.lt c hc)
theorem RhAt.turn {S T : Nat → Prop} {w w' : World} {b : Nat} {l : List Hn} {n : Nat} (h : RhAt S w b l n) (ht : Turn T w w') (hd : ∀ c, S c → ¬ T c) : RhAt S w' b l n := h.blocks ht.size fun c hc => ht.block c (h.lt c hc) (hd c hc)
theorem RhAt.to {S : Nat → Prop} {w w' : World} {b : Nat} {l : List Hn} {n : Nat} (h : RhAt S w b l n) (hb : Below w.heap.size w w') : RhTo S w w' b l n := ⟨Turn.of_below hb, S, h.grown hb, fun _ hc => .inl hc⟩
theorem RhTo.after {S : Nat → Prop} {w w1 w' : World} {b : Nat} {l : List Hn} {n : Nat} (hb : Below w.heap.size w w1) (h : RhTo S w1 w' b l n) : RhTo S w w' b l n := by
  obtain ⟨ht, S', h1, h2⟩ := h
  have hs := hb.size
  refine ⟨(Turn.of_below hb).trans ht (fun c hc => .inl hc), S', h1, fun c hc => ?_⟩
  rcases h2 c hc with h | h
  · exact .inl h
  · exact .inr (by omega)
/-- another row, and another number, are stored -/
theorem Rh.stored {S : Nat → Prop} {w w1 : World} {b : Nat} {v v' : Value} {l l' : List Hn} {n n' : Nat} (h : Rh S w b v l n) (hb : Below w.heap.size w w1) (hr : HnsIs w1 v' l') (hv : ∀ c, v'.ownBlock = some c → w.heap.size ≤ c) (hv' : ∀ c, v'.ownBlock = some c → c < w1.heap.size) :
    RhTo S w ((w1.setCell ⟨b, 1, none⟩ (.int .i64 n')).setCell ⟨b, 0, none⟩ v') b l' n' := by
  have lb := h.lt b h.s0
  have hs := hb.size
  have b1 := hb.block b lb
  have e0 : w1.cell? ⟨b, 0, none⟩ = some v := (World.cell?_of_block (a := ⟨b, 0, none⟩) b1).trans h.c0
  have e1 : w1.cell? ⟨b, 1, none⟩ = some (.int .i64 n) := (World.cell?_of_block (a := ⟨b, 1, none⟩) b1).trans h.c1
  have off : ∀ c, c ≠ b → ((w1.setCell ⟨b, 1, none⟩ (.int .i64 n')).setCell ⟨b, 0, none⟩ v').heap[c]? = w1.heap[c]? := fun c hc => (Below.heap_setCell _ _ _ c hc).trans (Below.heap_setCell _ _ _ c hc)
  have sz : ((w1.setCell ⟨b, 1, none⟩ (.int .i64 n')).setCell ⟨b, 0, none⟩ v').heap.size = w1.heap.size := by rw [World.size_setCell, World.size_setCell]
  refine ⟨((Turn.of_below (S := S) hb).set b 1 h.s0 _).set b 0 h.s0 _, fun c => c = b ∨ v'.ownBlock = some c, ⟨v', World.cell?_setCell_same _ _ _ ((World.cell?_setCell_other _ _ _ _ (by simp)).trans e0), (World.cell?_setCell_other _ _ _ _ (by simp)).trans (World.cell?_setCell_same _ _ _ e1), fun j => ?_, hr.blocks (by rw [sz]; exact Nat.le_refl _) (fun c hc _ => off c (fun e => ?_)), fun e => ?_, .inl rfl, fun c hc => .inr hc, fun c hc => ?_⟩, fun c hc => ?_⟩
  · rw [World.frozen?_setCell, World.frozen?_setCell]
    exact (World.frozen?_of_block (a := ⟨b, j, none⟩) b1).trans (h.fz j)
  · have := hv c hc
    omega
  · have := hv b e
    omega
  · rw [sz]
    rcases hc with hc | hc
    · omega
    · exact hv' c hc
  · rcases hc with hc | hc
    · exact .inl (by rw [hc]; exact h.s0)
    · exact .inr (hv c hc)
/-- another row is stored -/
theorem Rh.storedS {S : Nat → Prop} {w w1 : World} {b : Nat} {v v' : Value} {l l' : List Hn} {n : Nat} (h : Rh S w b v l n) (hb : Below w.heap.size w w1) (hr : HnsIs w1 v' l') (hv : ∀ c, v'.ownBlock = some c → w.heap.size ≤ c) (hv' : ∀ c, v'.ownBlock = some c → c < w1.heap.size) :
    Turn S w (w1.setCell ⟨b, 0, none⟩ v') ∧ RhAt (fun c => c = b ∨ v'.ownBlock = some c) (w1.setCell ⟨b, 0, none⟩ v') b l' n := by
  have lb := h.lt b h.s0
  have hs := hb.size
  have b1 := hb.block b lb
  have e0 : w1.cell? ⟨b, 0, none⟩ = some v := (World.cell?_of_block (a := ⟨b, 0, none⟩) b1).trans h.c0
  have e1 : w1.cell? ⟨b, 1, none⟩ = some (.int .i64 n) := (World.cell?_of_block (a := ⟨b, 1, none⟩) b1).trans h.c1
  have off : ∀ c, c ≠ b → (w1.setCell ⟨b, 0, none⟩ v').heap[c]? = w1.heap[c]? := fun c hc => Below.heap_setCell _ _ _ c hc
  refine ⟨(Turn.of_below (S := S) hb).set b 0 h.s0 _, v', World.cell?_setCell_same _ _ _ e0, (World.cell?_setCell_other _ _ _ _ (by simp)).trans e1, fun j => ?_, hr.blocks (by rw [World.size_setCell]; exact Nat.le_refl _) (fun c hc _ => off c (fun e => ?_)), fun e => ?_, .inl rfl, fun c hc => .inr hc, fun c hc => ?_⟩
  · rw [World.frozen?_setCell]
    exact (World.frozen?_of_block (a := ⟨b, j, none⟩) b1).trans (h.fz j)
  · have := hv c hc
    omega
  · have := hv b e
    omega
  · rw [World.size_setCell]
    rcases hc with hc | hc
    · omega
    · exact hv' c hc
theorem Rh.stored' {S : Nat → Prop} {w w1 : World} {b : Nat} {v v' : Value} {l l' : List Hn} {n : Nat} (h : Rh S w b v l n) (hb : Below w.heap.size w w1) (hr : HnsIs w1 v' l') (hv : ∀ c, v'.ownBlock = some c → w.heap.size ≤ c) (hv' : ∀ c, v'.ownBlock = some c → c < w1.heap.size) :
    RhTo S w (w1.setCell ⟨b, 0, none⟩ v') b l' n := by
  obtain ⟨h1, h2⟩ := h.storedS hb hr hv hv'
  refine ⟨h1, _, h2, fun c hc => ?_⟩
  rcases hc with hc | hc
  · exact .inl (by rw [hc]; exact h.s0)
  · exact .inr (hv c hc)
/-- none at first -/
theorem rh_new (w : World) (b : Nat) (h : b = w.heap.size) : RhAt (fun c => c = b) (w.alloc (.cells #[.slice none 0 0, .int .i64 0] 28)) b [] 0 := by
  subst h
  exact ⟨.slice none 0 0, by simp, by simp, fun j => by simp, HnsIs.nil _, by simp [Value.ownBlock], rfl, fun c hc => by simp [Value.ownBlock] at hc, fun c hc => by rw [hc]; simp⟩
end Go.Proofs.YtkhdeaegbkenfaiDoor
