/-
  Hints and the document's hints side by side, beside blocks that neither has.
-/
import Derived.Test.YtkhdeaegbkenfaiDoorHiF
import Derived.Test.YtkhdeaegbkenfaiDoorRhT
namespace Go.Proofs.YtkhdeaegbkenfaiDoor
set_option linter.unusedVariables false
set_option linter.unusedSimpArgs false
open Go.RowKit

/-- hints at b, the document's at K, apart from each other and from the blocks in P; nothing older than N has turned -/
structure Th (P : Nat → Prop) (N : Nat) (w0 wc : World) (b K : Nat) (l : List Hn) (n : Nat) (l2 : List Hn) (n2 : Nat) : Prop where
  s : ∃ S1 S2, HiAt S1 wc b l n ∧ RhAt S2 wc K l2 n2 ∧ (∀ c, S1 c → N ≤ c ∧ ¬ S2 c ∧ ¬ P c) ∧ (∀ c, S2 c → N ≤ c ∧ ¬ P c)
  bel : Below N w0 wc
  hN : N ≤ wc.heap.size
  hP : ∀ c, P c → c < wc.heap.size
theorem Th.grown {P : Nat → Prop} {N : Nat} {w0 wc w' : World} {b K : Nat} {l l2 : List Hn} {n n2 : Nat} (h : Th P N w0 wc b K l n l2 n2) (hb : Below wc.heap.size wc w') : Th P N w0 w' b K l n l2 n2 := by
  obtain ⟨S1, S2, h1, h2, h3, h4⟩ := h.s
  exact ⟨⟨S1, S2, h1.grown hb, h2.grown hb, h3, h4⟩, h.bel.trans (hb.mono h.hN), Nat.le_trans h.hN hb.size, fun c hc => Nat.lt_of_lt_of_le (h.hP c hc) hb.size⟩
theorem Th.less {P P' : Nat → Prop} {N : Nat} {w0 wc : World} {b K : Nat} {l l2 : List Hn} {n n2 : Nat} (h : Th P N w0 wc b K l n l2 n2) (hp : ∀ c, P' c → P c) : Th P' N w0 wc b K l n l2 n2 := by
  obtain ⟨S1, S2, h1, h2, h3, h4⟩ := h.s
  exact ⟨⟨S1, S2, h1, h2, fun c hc => ⟨(h3 c hc).1, (h3 c hc).2.1, fun h' => (h3 c hc).2.2 (hp c h')⟩, fun c hc => ⟨(h4 c hc).1, fun h' => (h4 c hc).2 (hp c h')⟩⟩, h.bel, h.hN, fun c hc => h.hP c (hp c hc)⟩
/-- new blocks are neither's -/
theorem Th.more {P P' : Nat → Prop} {N : Nat} {w0 wc w' : World} {b K : Nat} {l l2 : List Hn} {n n2 : Nat} (h : Th P N w0 wc b K l n l2 n2) (hb : Below wc.heap.size wc w') (hp : ∀ c, P' c → P c ∨ wc.heap.size ≤ c) (hl : ∀ c, P' c → c < w'.heap.size) : Th P' N w0 w' b K l n l2 n2 := by
  obtain ⟨S1, S2, h1, h2, h3, h4⟩ := h.s
  refine ⟨⟨S1, S2, h1.grown hb, h2.grown hb, fun c hc => ⟨(h3 c hc).1, (h3 c hc).2.1, fun h' => ?_⟩, fun c hc => ⟨(h4 c hc).1, fun h' => ?_⟩⟩, h.bel.trans (hb.mono h.hN), Nat.le_trans h.hN hb.size, hl⟩
  · rcases hp c h' with h' | h'
    · exact (h3 c hc).2.2 h'
    · have := h1.lt c hc
      omega
  · rcases hp c h' with h' | h'
    · exact (h4 c hc).2 h'
    · have := h2.lt c hc
      omega
/-- a call of the hints' own, which may give a row beside -/
theorem Th.callH {P : Nat → Prop} {N : Nat} {w0 wc : World} {b K : Nat} {l l2 : List Hn} {n n2 : Nat} (h : Th P N w0 wc b K l n l2 n2) :
    ∃ S, HiAt S wc b l n ∧ ∀ (w' : World) (l' : List Hn) (n' : Nat) (S' U : Nat → Prop), Turn S wc w' → HiAt S' w' b l' n' → (∀ c, S' c → (S c ∨ wc.heap.size ≤ c) ∧ ¬ U c) → (∀ c, U c → wc.heap.size ≤ c ∧ c < w'.heap.size) → Th (fun c => P c ∨ U c) N w0 w' b K l' n' l2 n2 ∧ ∀ c, P c → w'.heap[c]? = wc.heap[c]? := by
  obtain ⟨S1, S2, h1, h2, h3, h4⟩ := h.s
  refine ⟨S1, h1, fun w' l' n' S' U ht g1 g2 hU => ?_⟩
  have hN := h.hN
  refine ⟨⟨⟨S', S2, g1, h2.turn ht (fun c hc h' => (h3 c h').2.1 hc), fun c hc => ?_, fun c hc => ⟨(h4 c hc).1, fun h' => ?_⟩⟩, h.bel.trans (ht.below h.hN (fun c hc => (h3 c hc).1)), Nat.le_trans h.hN ht.size, fun c hc => ?_⟩, fun c hc => ht.block c (h.hP c hc) (fun h' => (h3 c h').2.2 hc)⟩
  · obtain ⟨g3, g4⟩ := g2 c hc
    rcases g3 with h' | h'
    · exact ⟨(h3 c h').1, (h3 c h').2.1, fun hp => by rcases hp with hp | hp; exact (h3 c h').2.2 hp; exact g4 hp⟩
    · refine ⟨by omega, fun hs => ?_, fun hp => ?_⟩
      · have := h2.lt c hs
        omega
      · rcases hp with hp | hp
        · have := h.hP c hp
          omega
        · exact g4 hp
  · rcases h' with h' | h'
    · exact (h4 c hc).2 h'
    · have := h2.lt c hc
      have := (hU c h').1
      omega
  · rcases hc with hc | hc
    · exact Nat.lt_of_lt_of_le (h.hP c hc) ht.size
    · exact (hU c hc).2
/-- a call of the document's, which may give a row beside -/
theorem Th.callK {P : Nat → Prop} {N : Nat} {w0 wc : World} {b K : Nat} {l l2 : List Hn} {n n2 : Nat} (h : Th P N w0 wc b K l n l2 n2) :
    ∃ S, RhAt S wc K l2 n2 ∧ ∀ (w' : World) (l' : List Hn) (n' : Nat) (S' U : Nat → Prop), Turn S wc w' → RhAt S' w' K l' n' → (∀ c, S' c → (S c ∨ wc.heap.size ≤ c) ∧ ¬ U c) → (∀ c, U c → wc.heap.size ≤ c ∧ c < w'.heap.size) → Th (fun c => P c ∨ U c) N w0 w' b K l n l' n' ∧ ∀ c, P c → w'.heap[c]? = wc.heap[c]? := by
  obtain ⟨S1, S2, h1, h2, h3, h4⟩ := h.s
  refine ⟨S2, h2, fun w' l' n' S' U ht g1 g2 hU => ?_⟩
  have hN := h.hN
  refine ⟨⟨⟨S1, S', h1.turn ht (fun c hc h' => (h3 c hc).2.1 h'), g1, fun c hc => ⟨(h3 c hc).1, fun hs => ?_, fun hp => ?_⟩, fun c hc => ?_⟩, h.bel.trans (ht.below h.hN (fun c hc => (h4 c hc).1)), Nat.le_trans h.hN ht.size, fun c hc => ?_⟩, fun c hc => ht.block c (h.hP c hc) (fun h' => (h4 c h').2 hc)⟩
  · rcases (g2 c hs).1 with h' | h'
    · exact (h3 c hc).2.1 h'
    · have := h1.lt c hc
      omega
  · rcases hp with hp | hp
    · exact (h3 c hc).2.2 hp
    · have := h1.lt c hc
      have := (hU c hp).1
      omega
  · obtain ⟨g3, g4⟩ := g2 c hc
    rcases g3 with h' | h'
    · exact ⟨(h4 c h').1, fun hp => by rcases hp with hp | hp; exact (h4 c h').2 hp; exact g4 hp⟩
    · refine ⟨by omega, fun hp => ?_⟩
      rcases hp with hp | hp
      · have := h.hP c hp
        omega
      · exact g4 hp
  · rcases hc with hc | hc
    · exact Nat.lt_of_lt_of_le (h.hP c hc) ht.size
    · exact (hU c hc).2
theorem Th.cellK {P : Nat → Prop} {N : Nat} {w0 wc : World} {b K : Nat} {l l2 : List Hn} {n n2 : Nat} (h : Th P N w0 wc b K l n l2 n2) : ∃ p cap, wc.cell? ⟨K, 0, none⟩ = some (.slice p l2.length cap) ∧ wc.cell? ⟨K, 1, none⟩ = some (.int .i64 n2) ∧ HnsIs wc (.slice p l2.length cap) l2 ∧ ¬ P K := by
  obtain ⟨S1, S2, h1, ⟨v, h2⟩, h3, h4⟩ := h.s
  obtain ⟨p, cap, rfl, _⟩ := h2.row.slice
  exact ⟨p, cap, h2.c0, h2.c1, h2.row, (h4 K h2.s0).2⟩
/-- the numbers of a step -/
structure Z4 (w : World) (A : Nat) (z0 z1 z2 z3 : Int) : Prop where
  c0 : w.cell? ⟨A, 0, none⟩ = some (.int .i64 z0)
  c1 : w.cell? ⟨A, 1, none⟩ = some (.int .i64 z1)
  c2 : w.cell? ⟨A, 2, none⟩ = some (.int .i64 z2)
  c3 : w.cell? ⟨A, 3, none⟩ = some (.int .i64 z3)
theorem Z4.of_block {w w' : World} {A : Nat} {z0 z1 z2 z3 : Int} (h : Z4 w A z0 z1 z2 z3) (hb : w'.heap[A]? = w.heap[A]?) : Z4 w' A z0 z1 z2 z3 :=
  ⟨(World.cell?_of_block (a := ⟨A, 0, none⟩) hb).trans h.c0, (World.cell?_of_block (a := ⟨A, 1, none⟩) hb).trans h.c1, (World.cell?_of_block (a := ⟨A, 2, none⟩) hb).trans h.c2, (World.cell?_of_block (a := ⟨A, 3, none⟩) hb).trans h.c3⟩
theorem Z4.lt {w : World} {A : Nat} {z0 z1 z2 z3 : Int} (h : Z4 w A z0 z1 z2 z3) : A < w.heap.size := World.block_lt_of_cell? w _ h.c0
theorem Z4.grown {w w' : World} {A : Nat} {z0 z1 z2 z3 : Int} (h : Z4 w A z0 z1 z2 z3) (hb : Below w.heap.size w w') : Z4 w' A z0 z1 z2 z3 := h.of_block (hb.block A h.lt)
end Go.Proofs.YtkhdeaegbkenfaiDoor
