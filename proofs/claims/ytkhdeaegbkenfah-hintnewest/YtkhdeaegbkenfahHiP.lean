/-
  Hints behind a pointer: a row and a number; all of it lies in S; beside blocks that it has not.
-/
import Derived.Test.YtkhdeaegbkenfahHnM
namespace Go.Proofs.Ytkhdeaegbkenfah
set_option linter.unusedVariables false
set_option linter.unusedSimpArgs false
open Go.RowKit Go.Lib

/-- nothing old but what is in S has turned -/
structure Turn (S : Nat → Prop) (w w' : World) : Prop where
  os : w'.os = w.os
  tape : w'.tape = w.tape
  output : w'.output = w.output
  size : w.heap.size ≤ w'.heap.size
  block : ∀ c, c < w.heap.size → ¬ S c → w'.heap[c]? = w.heap[c]?
theorem Turn.refl (S : Nat → Prop) (w : World) : Turn S w w := ⟨rfl, rfl, rfl, Nat.le_refl _, fun _ _ _ => rfl⟩
theorem Turn.trans {S S' : Nat → Prop} {x y z : World} (h : Turn S x y) (k : Turn S' y z) (hs : ∀ c, S' c → S c ∨ x.heap.size ≤ c) : Turn S x z :=
  ⟨k.os.trans h.os, k.tape.trans h.tape, k.output.trans h.output, Nat.le_trans h.size k.size, fun c hc hb => (k.block c (Nat.lt_of_lt_of_le hc h.size) (fun h' => by rcases hs c h' with h1 | h1; exact hb h1; omega)).trans (h.block c hc hb)⟩
theorem Turn.of_below {S : Nat → Prop} {w w' : World} (h : Below w.heap.size w w') : Turn S w w' := ⟨h.os, h.tape, h.output, h.size, fun c hc _ => h.block c hc⟩
theorem Turn.of_grown {S : Nat → Prop} {w w' : World} {v : Value} (h : w.grownBy w' v.ownBlock) (hv : ∀ c, v.ownBlock = some c → S c) : Turn S w w' :=
  ⟨h.os, h.tape, h.output, h.size, fun c hc hb => h.block c hc (fun e => hb (hv c e.symm))⟩
theorem Turn.below {S : Nat → Prop} {B : Nat} {w w' : World} (h : Turn S w w') (hB : B ≤ w.heap.size) (hS : ∀ c, S c → B ≤ c) : Below B w w' :=
  ⟨h.os, h.tape, h.output, h.size, fun c hc => h.block c (Nat.lt_of_lt_of_le hc hB) (fun hs => by have := hS c hs; omega)⟩
theorem Turn.set {S : Nat → Prop} {w w' : World} (h : Turn S w w') (b k : Nat) (hb : S b) (u : Value) : Turn S w (w'.setCell ⟨b, k, none⟩ u) :=
  ⟨h.os, h.tape, h.output, by rw [World.size_setCell]; exact h.size, fun c hc hs => (Below.heap_setCell _ _ _ c (fun e => hs (by rw [e]; exact hb))).trans (h.block c hc hs)⟩
theorem Turn.mono {S S' : Nat → Prop} {w w' : World} (h : Turn S w w') (hs : ∀ c, S c → S' c) : Turn S' w w' :=
  ⟨h.os, h.tape, h.output, h.size, fun c hc hb => h.block c hc (fun h' => hb (hs c h'))⟩
theorem Turn.cell {S : Nat → Prop} {w w' : World} (h : Turn S w w') {a : Addr} {v : Value} (hc : w.cell? a = some v) (ha : ¬ S a.block) : w'.cell? a = some v :=
  (World.cell?_of_block (h.block a.block (World.block_lt_of_cell? w a hc) ha)).trans hc
/-- hints behind a pointer: the row, how many were lost -/
structure Hi (S : Nat → Prop) (w : World) (b : Nat) (v : Value) (l : List Hn) (n : Nat) : Prop where
  c0 : w.cell? ⟨b, 0, none⟩ = some v
  c1 : w.cell? ⟨b, 1, none⟩ = some (.int .i64 n)
  fz : ∀ j, w.frozen? ⟨b, j, none⟩ = false
  own : OwnH 0 w v l
  n0 : v.ownBlock ≠ some b
  s0 : S b
  s2 : ∀ c, v.ownBlock = some c → S c
  lt : ∀ c, S c → c < w.heap.size
def HiAt (S : Nat → Prop) (w : World) (b : Nat) (l : List Hn) (n : Nat) : Prop := ∃ v, Hi S w b v l n
def HiTo (S : Nat → Prop) (w w' : World) (b : Nat) (l : List Hn) (n : Nat) : Prop := Turn S w w' ∧ ∃ S', HiAt S' w' b l n ∧ ∀ c, S' c → S c ∨ w.heap.size ≤ c
theorem OwnH.blocks {w w' : World} {v : Value} {l : List Hn} (h : OwnH 0 w v l) (hb : ∀ c, v.ownBlock = some c → w'.heap[c]? = w.heap[c]?) : OwnH 0 w' v l := by
  refine ⟨h.1, ?_⟩
  rcases h.2 with ⟨e1, e2⟩ | ⟨g, cap, cur, rfl, h1, h2, h3⟩
  · exact .inl ⟨e1, e2⟩
  · exact .inr ⟨g, cap, cur, rfl, h1, (hb g rfl).trans h2, h3⟩
theorem Hi.blocks {S : Nat → Prop} {w w' : World} {b : Nat} {v : Value} {l : List Hn} {n : Nat} (h : Hi S w b v l n) (hs : w.heap.size ≤ w'.heap.size) (hb : ∀ c, S c → w'.heap[c]? = w.heap[c]?) : Hi S w' b v l n :=
  ⟨(World.cell?_of_block (a := ⟨b, 0, none⟩) (hb b h.s0)).trans h.c0, (World.cell?_of_block (a := ⟨b, 1, none⟩) (hb b h.s0)).trans h.c1, fun j => (World.frozen?_of_block (a := ⟨b, j, none⟩) (hb b h.s0)).trans (h.fz j), h.own.blocks (fun c hc => hb c (h.s2 c hc)), h.n0, h.s0, h.s2, fun c hc => Nat.lt_of_lt_of_le (h.lt c hc) hs⟩
theorem HiAt.blocks {S : Nat → Prop} {w w' : World} {b : Nat} {l : List Hn} {n : Nat} (h : HiAt S w b l n) (hs : w.heap.size ≤ w'.heap.size) (hb : ∀ c, S c → w'.heap[c]? = w.heap[c]?) : HiAt S w' b l n := by
  obtain ⟨v, h1⟩ := h
  exact ⟨v, h1.blocks hs hb⟩
theorem HiAt.lt {S : Nat → Prop} {w : World} {b : Nat} {l : List Hn} {n : Nat} (h : HiAt S w b l n) : ∀ c, S c → c < w.heap.size := by
  obtain ⟨v, h1⟩ := h
  exact h1.lt
theorem HiAt.grown {S : Nat → Prop} {w w' : World} {b : Nat} {l : List Hn} {n : Nat} (h : HiAt S w b l n) (hb : Below w.heap.size w w') : HiAt S w' b l n := h.blocks hb.size fun c hc => hb.block c (h.lt c hc)
theorem HiAt.turn {S T : Nat → Prop} {w w' : World} {b : Nat} {l : List Hn} {n : Nat} (h : HiAt S w b l n) (ht : Turn T w w') (hd : ∀ c, S c → ¬ T c) : HiAt S w' b l n := h.blocks ht.size fun c hc => ht.block c (h.lt c hc) (hd c hc)
theorem HiAt.to {S : Nat → Prop} {w w' : World} {b : Nat} {l : List Hn} {n : Nat} (h : HiAt S w b l n) (hb : Below w.heap.size w w') : HiTo S w w' b l n := ⟨Turn.of_below hb, S, h.grown hb, fun _ hc => .inl hc⟩
theorem HiTo.after {S : Nat → Prop} {w w1 w' : World} {b : Nat} {l : List Hn} {n : Nat} (hb : Below w.heap.size w w1) (h : HiTo S w1 w' b l n) : HiTo S w w' b l n := by
  obtain ⟨ht, S', h1, h2⟩ := h
  have hs := hb.size
  refine ⟨(Turn.of_below hb).trans ht (fun c hc => .inl hc), S', h1, fun c hc => ?_⟩
  rcases h2 c hc with h | h
  · exact .inl h
  · exact .inr (by omega)
/-- hints at b, apart from the blocks in P; nothing older than N has turned -/
structure Hb (P : Nat → Prop) (N : Nat) (w0 wc : World) (b : Nat) (l : List Hn) (n : Nat) : Prop where
  s : ∃ S, HiAt S wc b l n ∧ ∀ c, S c → N ≤ c ∧ ¬ P c
  bel : Below N w0 wc
  hN : N ≤ wc.heap.size
  hP : ∀ c, P c → c < wc.heap.size
theorem Hb.grown {P : Nat → Prop} {N : Nat} {w0 wc w' : World} {b : Nat} {l : List Hn} {n : Nat} (h : Hb P N w0 wc b l n) (hb : Below wc.heap.size wc w') : Hb P N w0 w' b l n := by
  obtain ⟨S, h1, h2⟩ := h.s
  exact ⟨⟨S, h1.grown hb, h2⟩, h.bel.trans (hb.mono h.hN), Nat.le_trans h.hN hb.size, fun c hc => Nat.lt_of_lt_of_le (h.hP c hc) hb.size⟩
theorem Hb.less {P P' : Nat → Prop} {N : Nat} {w0 wc : World} {b : Nat} {l : List Hn} {n : Nat} (h : Hb P N w0 wc b l n) (hp : ∀ c, P' c → P c) : Hb P' N w0 wc b l n := by
  obtain ⟨S, h1, h2⟩ := h.s
  exact ⟨⟨S, h1, fun c hc => ⟨(h2 c hc).1, fun h' => (h2 c hc).2 (hp c h')⟩⟩, h.bel, h.hN, fun c hc => h.hP c (hp c hc)⟩
/-- a new block is not its own -/
theorem Hb.more {P P' : Nat → Prop} {N : Nat} {w0 wc w' : World} {b : Nat} {l : List Hn} {n : Nat} (h : Hb P N w0 wc b l n) (hb : Below wc.heap.size wc w') (hp : ∀ c, P' c → P c ∨ wc.heap.size ≤ c) (hl : ∀ c, P' c → c < w'.heap.size) : Hb P' N w0 w' b l n := by
  obtain ⟨S, h1, h2⟩ := h.s
  refine ⟨⟨S, h1.grown hb, fun c hc => ⟨(h2 c hc).1, fun h' => ?_⟩⟩, h.bel.trans (hb.mono h.hN), Nat.le_trans h.hN hb.size, hl⟩
  rcases hp c h' with h' | h'
  · exact (h2 c hc).2 h'
  · have := h1.lt c hc
    omega
theorem Hb.call {P : Nat → Prop} {N : Nat} {w0 wc : World} {b : Nat} {l : List Hn} {n : Nat} (h : Hb P N w0 wc b l n) :
    ∃ S, HiAt S wc b l n ∧ ∀ w' l' n', HiTo S wc w' b l' n' → Hb P N w0 w' b l' n' ∧ (∀ c, P c → w'.heap[c]? = wc.heap[c]?) ∧ wc.heap.size ≤ w'.heap.size := by
  obtain ⟨S, h1, h2⟩ := h.s
  refine ⟨S, h1, fun w' l' n' ht => ?_⟩
  obtain ⟨ht, S', g1, g2⟩ := ht
  have hN := h.hN
  refine ⟨⟨⟨S', g1, fun c hc => ?_⟩, h.bel.trans (ht.below h.hN (fun c hc => (h2 c hc).1)), Nat.le_trans h.hN ht.size, fun c hc => Nat.lt_of_lt_of_le (h.hP c hc) ht.size⟩, fun c hc => ht.block c (h.hP c hc) (fun h' => (h2 c h').2 hc), ht.size⟩
  rcases g2 c hc with h' | h'
  · exact h2 c h'
  · refine ⟨by omega, fun hp => ?_⟩
    have := h.hP c hp
    omega
/-- a store into a block of P -/
theorem Hb.set {P : Nat → Prop} {N : Nat} {w0 wc : World} {b : Nat} {l : List Hn} {n : Nat} (h : Hb P N w0 wc b l n) (A k : Nat) (hA : P A) (hAN : N ≤ A) (u : Value) : Hb P N w0 (wc.setCell ⟨A, k, none⟩ u) b l n := by
  obtain ⟨S, h1, h2⟩ := h.s
  have hb : ∀ c, c ≠ A → (wc.setCell ⟨A, k, none⟩ u).heap[c]? = wc.heap[c]? := fun c hc => Below.heap_setCell _ _ _ c hc
  refine ⟨⟨S, h1.blocks (by rw [World.size_setCell]; exact Nat.le_refl _) (fun c hc => hb c (fun e => (h2 c hc).2 (by rw [e]; exact hA))), h2⟩, ?_, by rw [World.size_setCell]; exact h.hN, fun c hc => by rw [World.size_setCell]; exact h.hP c hc⟩
  exact h.bel.trans ⟨rfl, rfl, rfl, by rw [World.size_setCell]; exact Nat.le_refl _, fun c hc => hb c (by omega)⟩
end Go.Proofs.Ytkhdeaegbkenfah
