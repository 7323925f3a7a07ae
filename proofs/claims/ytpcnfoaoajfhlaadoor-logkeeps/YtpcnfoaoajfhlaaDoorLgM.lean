/-
  A log behind a pointer: its store, its bytes, what is safe; all of it lies in S.
-/
import Derived.Test.YtpcnfoaoajfhlaaDoorLgB
namespace Go.Proofs.YtpcnfoaoajfhlaaDoor
set_option linter.unusedVariables false
set_option linter.unusedSimpArgs false
open Go.RowKit

/-- a log at j: its store at b (in F), its bytes the records of l and p behind them -/
structure Lg (S F : Nat → Prop) (w : World) (j b : Nat) (v : Value) (l : List Deed) (p : List Nat) (sf : Nat) (lf : Int) (st : Bool) : Prop where
  c0 : w.cell? ⟨j, 0, none⟩ = some (.pointer (some ⟨b, 0, none⟩))
  c1 : w.cell? ⟨j, 1, none⟩ = some v
  c2 : w.cell? ⟨j, 2, none⟩ = some (.int .i64 sf)
  c3 : w.cell? ⟨j, 3, none⟩ = some (.int .i64 lf)
  c4 : w.cell? ⟨j, 4, none⟩ = some (.bool st)
  fz : ∀ k, w.frozen? ⟨j, k, none⟩ = false
  sto : StoreIs w b l F
  row : OwnB w v (flatD l ++ p)
  sj : S j
  sF : ∀ x, F x → S x ∧ x ≠ j
  sv : ∀ g, v.ownBlock = some g → S g ∧ ¬ F g ∧ g ≠ j
  lt : ∀ x, S x → x < w.heap.size
theorem Lg.blocks {S F : Nat → Prop} {w w' : World} {j b : Nat} {v : Value} {l : List Deed} {p : List Nat} {sf : Nat} {lf : Int} {st : Bool} (h : Lg S F w j b v l p sf lf st) (hs : w.heap.size ≤ w'.heap.size) (hb : ∀ x, S x → w'.heap[x]? = w.heap[x]?) : Lg S F w' j b v l p sf lf st :=
  ⟨(World.cell?_of_block (a := ⟨j, 0, none⟩) (hb j h.sj)).trans h.c0, (World.cell?_of_block (a := ⟨j, 1, none⟩) (hb j h.sj)).trans h.c1, (World.cell?_of_block (a := ⟨j, 2, none⟩) (hb j h.sj)).trans h.c2, (World.cell?_of_block (a := ⟨j, 3, none⟩) (hb j h.sj)).trans h.c3, (World.cell?_of_block (a := ⟨j, 4, none⟩) (hb j h.sj)).trans h.c4,
   fun k => (World.frozen?_of_block (a := ⟨j, k, none⟩) (hb j h.sj)).trans (h.fz k), h.sto.blocks hs (fun x hx => hb x (h.sF x hx).1), h.row.blocks (fun g hg => hb g (h.sv g hg).1), h.sj, h.sF, h.sv, fun x hx => Nat.lt_of_lt_of_le (h.lt x hx) hs⟩
theorem Lg.grown {S F : Nat → Prop} {w w' : World} {j b : Nat} {v : Value} {l : List Deed} {p : List Nat} {sf : Nat} {lf : Int} {st : Bool} (h : Lg S F w j b v l p sf lf st) (hb : Below w.heap.size w w') : Lg S F w' j b v l p sf lf st :=
  h.blocks hb.size (fun x hx => hb.block x (h.lt x hx))
/-- the store has done something; the bytes do not know of it yet -/
structure Lq (S F : Nat → Prop) (w : World) (j b : Nat) (v : Value) (l : List Deed) (bs : List Nat) (sf : Nat) (lf : Int) (st : Bool) : Prop where
  c0 : w.cell? ⟨j, 0, none⟩ = some (.pointer (some ⟨b, 0, none⟩))
  c1 : w.cell? ⟨j, 1, none⟩ = some v
  c2 : w.cell? ⟨j, 2, none⟩ = some (.int .i64 sf)
  c3 : w.cell? ⟨j, 3, none⟩ = some (.int .i64 lf)
  c4 : w.cell? ⟨j, 4, none⟩ = some (.bool st)
  fz : ∀ k, w.frozen? ⟨j, k, none⟩ = false
  sto : StoreIs w b l F
  row : OwnB w v bs
  sj : S j
  sF : ∀ x, F x → S x ∧ x ≠ j
  sv : ∀ g, v.ownBlock = some g → S g ∧ ¬ F g ∧ g ≠ j
  lt : ∀ x, S x → x < w.heap.size
theorem Lg.q {S F : Nat → Prop} {w : World} {j b : Nat} {v : Value} {l : List Deed} {p : List Nat} {sf : Nat} {lf : Int} {st : Bool} (h : Lg S F w j b v l p sf lf st) : Lq S F w j b v l (flatD l ++ p) sf lf st :=
  ⟨h.c0, h.c1, h.c2, h.c3, h.c4, h.fz, h.sto, h.row, h.sj, h.sF, h.sv, h.lt⟩
theorem Lq.g {S F : Nat → Prop} {w : World} {j b : Nat} {v : Value} {l : List Deed} {bs p : List Nat} {sf : Nat} {lf : Int} {st : Bool} (h : Lq S F w j b v l bs sf lf st) (e : bs = flatD l ++ p) : Lg S F w j b v l p sf lf st := by
  subst e
  exact ⟨h.c0, h.c1, h.c2, h.c3, h.c4, h.fz, h.sto, h.row, h.sj, h.sF, h.sv, h.lt⟩
theorem Lq.blocks {S F : Nat → Prop} {w w' : World} {j b : Nat} {v : Value} {l : List Deed} {bs : List Nat} {sf : Nat} {lf : Int} {st : Bool} (h : Lq S F w j b v l bs sf lf st) (hs : w.heap.size ≤ w'.heap.size) (hb : ∀ x, S x → w'.heap[x]? = w.heap[x]?) : Lq S F w' j b v l bs sf lf st :=
  ⟨(World.cell?_of_block (a := ⟨j, 0, none⟩) (hb j h.sj)).trans h.c0, (World.cell?_of_block (a := ⟨j, 1, none⟩) (hb j h.sj)).trans h.c1, (World.cell?_of_block (a := ⟨j, 2, none⟩) (hb j h.sj)).trans h.c2, (World.cell?_of_block (a := ⟨j, 3, none⟩) (hb j h.sj)).trans h.c3, (World.cell?_of_block (a := ⟨j, 4, none⟩) (hb j h.sj)).trans h.c4,
   fun k => (World.frozen?_of_block (a := ⟨j, k, none⟩) (hb j h.sj)).trans (h.fz k), h.sto.blocks hs (fun x hx => hb x (h.sF x hx).1), h.row.blocks (fun g hg => hb g (h.sv g hg).1), h.sj, h.sF, h.sv, fun x hx => Nat.lt_of_lt_of_le (h.lt x hx) hs⟩
theorem Lq.grown {S F : Nat → Prop} {w w' : World} {j b : Nat} {v : Value} {l : List Deed} {bs : List Nat} {sf : Nat} {lf : Int} {st : Bool} (h : Lq S F w j b v l bs sf lf st) (hb : Below w.heap.size w w') : Lq S F w' j b v l bs sf lf st :=
  h.blocks hb.size (fun x hx => hb.block x (h.lt x hx))
/-- the store has turned -/
theorem Lq.store {S F F' : Nat → Prop} {w w' : World} {j b : Nat} {v : Value} {l l' : List Deed} {bs : List Nat} {sf : Nat} {lf : Int} {st : Bool} (h : Lq S F w j b v l bs sf lf st) (hs : StoreIs w' b l' F') (hF : ∀ x, F' x → F x ∨ w.heap.size ≤ x) (hk : Kept F w w') : Lq (fun x => S x ∨ F' x) F' w' j b v l' bs sf lf st := by
  have hj : w'.heap[j]? = w.heap[j]? := hk.block j (h.lt j h.sj) (fun hf => (h.sF j hf).2 rfl)
  refine ⟨(World.cell?_of_block (a := ⟨j, 0, none⟩) hj).trans h.c0, (World.cell?_of_block (a := ⟨j, 1, none⟩) hj).trans h.c1, (World.cell?_of_block (a := ⟨j, 2, none⟩) hj).trans h.c2, (World.cell?_of_block (a := ⟨j, 3, none⟩) hj).trans h.c3, (World.cell?_of_block (a := ⟨j, 4, none⟩) hj).trans h.c4,
   fun k => (World.frozen?_of_block (a := ⟨j, k, none⟩) hj).trans (h.fz k), hs, h.row.blocks (fun g hg => hk.block g (h.row.lt g hg) (h.sv g hg).2.1), .inl h.sj, fun x hx => ⟨.inr hx, fun e => ?_⟩, fun g hg => ⟨.inl (h.sv g hg).1, fun hf => ?_, (h.sv g hg).2.2⟩, fun x hx => ?_⟩
  · rcases hF x hx with hf | hf
    · exact (h.sF x hf).2 e
    · have := h.lt j h.sj
      omega
  · rcases hF g hf with hf | hf
    · exact (h.sv g hg).2.1 hf
    · have := h.row.lt g hg
      omega
  · rcases hx with hx | hx
    · exact Nat.lt_of_lt_of_le (h.lt x hx) hk.size
    · exact hs.2.2.2.2.1 x hx
/-- a cell of its own turns -/
theorem Lq.set {S F : Nat → Prop} {w : World} {j b : Nat} {v : Value} {l : List Deed} {bs : List Nat} {sf : Nat} {lf : Int} {st : Bool} (h : Lq S F w j b v l bs sf lf st) (k : Nat) (u : Value) :
    ∀ {b' : Nat} {v' : Value} {sf' : Nat} {lf' : Int} {st' : Bool} {F' S' : Nat → Prop} {l' : List Deed} {bs' : List Nat},
    (w.setCell ⟨j, k, none⟩ u).cell? ⟨j, 0, none⟩ = some (.pointer (some ⟨b', 0, none⟩)) → (w.setCell ⟨j, k, none⟩ u).cell? ⟨j, 1, none⟩ = some v' → (w.setCell ⟨j, k, none⟩ u).cell? ⟨j, 2, none⟩ = some (.int .i64 sf') → (w.setCell ⟨j, k, none⟩ u).cell? ⟨j, 3, none⟩ = some (.int .i64 lf') → (w.setCell ⟨j, k, none⟩ u).cell? ⟨j, 4, none⟩ = some (.bool st') →
    StoreIs w b' l' F' → OwnB w v' bs' → S' j → (∀ x, F' x → S' x ∧ x ≠ j) → (∀ g, v'.ownBlock = some g → S' g ∧ ¬ F' g ∧ g ≠ j) → (∀ x, S' x → x < w.heap.size) → Lq S' F' (w.setCell ⟨j, k, none⟩ u) j b' v' l' bs' sf' lf' st' := by
  intro b' v' sf' lf' st' F' S' l' bs' h0 h1 h2 h3 h4 hs hr sj sF sv lt
  have hb : ∀ x, x ≠ j → (w.setCell ⟨j, k, none⟩ u).heap[x]? = w.heap[x]? := fun x hx => Below.heap_setCell _ _ _ x hx
  have hsz : (w.setCell ⟨j, k, none⟩ u).heap.size = w.heap.size := World.size_setCell _ _ _
  exact ⟨h0, h1, h2, h3, h4, fun i => by rw [World.frozen?_setCell]; exact h.fz i, hs.blocks (by rw [hsz]; exact Nat.le_refl _) (fun x hx => hb x (sF x hx).2), hr.blocks (fun g hg => hb g (sv g hg).2.2), sj, sF, sv, fun x hx => by rw [hsz]; exact lt x hx⟩
theorem Lq.setSt {S F : Nat → Prop} {w : World} {j b : Nat} {v : Value} {l : List Deed} {bs : List Nat} {sf : Nat} {lf : Int} {st : Bool} (h : Lq S F w j b v l bs sf lf st) (st' : Bool) : Lq S F (w.setCell ⟨j, 4, none⟩ (.bool st')) j b v l bs sf lf st' :=
  h.set 4 _ ((World.cell?_setCell_other _ _ _ _ (by simp)).trans h.c0) ((World.cell?_setCell_other _ _ _ _ (by simp)).trans h.c1) ((World.cell?_setCell_other _ _ _ _ (by simp)).trans h.c2) ((World.cell?_setCell_other _ _ _ _ (by simp)).trans h.c3) (World.cell?_setCell_same _ _ _ h.c4) h.sto h.row h.sj h.sF h.sv h.lt
theorem Lq.setLf {S F : Nat → Prop} {w : World} {j b : Nat} {v : Value} {l : List Deed} {bs : List Nat} {sf : Nat} {lf : Int} {st : Bool} (h : Lq S F w j b v l bs sf lf st) (lf' : Int) : Lq S F (w.setCell ⟨j, 3, none⟩ (.int .i64 lf')) j b v l bs sf lf' st :=
  h.set 3 _ ((World.cell?_setCell_other _ _ _ _ (by simp)).trans h.c0) ((World.cell?_setCell_other _ _ _ _ (by simp)).trans h.c1) ((World.cell?_setCell_other _ _ _ _ (by simp)).trans h.c2) (World.cell?_setCell_same _ _ _ h.c3) ((World.cell?_setCell_other _ _ _ _ (by simp)).trans h.c4) h.sto h.row h.sj h.sF h.sv h.lt
theorem Lq.setSf {S F : Nat → Prop} {w : World} {j b : Nat} {v : Value} {l : List Deed} {bs : List Nat} {sf : Nat} {lf : Int} {st : Bool} (h : Lq S F w j b v l bs sf lf st) (sf' : Nat) : Lq S F (w.setCell ⟨j, 2, none⟩ (.int .i64 sf')) j b v l bs sf' lf st :=
  h.set 2 _ ((World.cell?_setCell_other _ _ _ _ (by simp)).trans h.c0) ((World.cell?_setCell_other _ _ _ _ (by simp)).trans h.c1) (World.cell?_setCell_same _ _ _ h.c2) ((World.cell?_setCell_other _ _ _ _ (by simp)).trans h.c3) ((World.cell?_setCell_other _ _ _ _ (by simp)).trans h.c4) h.sto h.row h.sj h.sF h.sv h.lt
/-- the bytes have grown: another row -/
theorem Lq.setRow {S F : Nat → Prop} {w w1 : World} {j b : Nat} {v v' : Value} {l : List Deed} {bs bs' : List Nat} {sf : Nat} {lf : Int} {st : Bool} (h : Lq S F w j b v l bs sf lf st) (hg : w.grownBy w1 v.ownBlock) (ho : OwnB w1 v' bs') (hat : v'.ownBlock = v.ownBlock ∨ ∀ g, v'.ownBlock = some g → w.heap.size ≤ g) :
    Lq (fun x => S x ∨ v'.ownBlock = some x) F (w1.setCell ⟨j, 1, none⟩ v') j b v' l bs' sf lf st := by
  have hb : ∀ x, S x → v.ownBlock ≠ some x → w1.heap[x]? = w.heap[x]? := fun x hx hv => hg.block x (h.lt x hx) (fun e => hv e.symm)
  have hj := hb j h.sj (fun e => (h.sv j e).2.2 rfl)
  have hq : ∀ g, v'.ownBlock = some g → ¬ F g ∧ g ≠ j := fun g hv => by
    rcases hat with e | e
    · exact (h.sv g (e ▸ hv)).2
    · have h1 := e g hv
      exact ⟨fun hf => by have := h.lt g (h.sF g hf).1; omega, fun he => by have := h.lt j h.sj; omega⟩
  have hsz : (w1.setCell ⟨j, 1, none⟩ v').heap.size = w1.heap.size := World.size_setCell _ _ _
  have hbj : ∀ x, x ≠ j → (w1.setCell ⟨j, 1, none⟩ v').heap[x]? = w1.heap[x]? := fun x hx => Below.heap_setCell _ _ _ x hx
  have c1 := (World.cell?_of_block (a := ⟨j, 1, none⟩) hj).trans h.c1
  refine ⟨(World.cell?_setCell_other _ _ _ _ (by simp)).trans ((World.cell?_of_block (a := ⟨j, 0, none⟩) hj).trans h.c0), World.cell?_setCell_same _ _ _ c1, (World.cell?_setCell_other _ _ _ _ (by simp)).trans ((World.cell?_of_block (a := ⟨j, 2, none⟩) hj).trans h.c2), (World.cell?_setCell_other _ _ _ _ (by simp)).trans ((World.cell?_of_block (a := ⟨j, 3, none⟩) hj).trans h.c3), (World.cell?_setCell_other _ _ _ _ (by simp)).trans ((World.cell?_of_block (a := ⟨j, 4, none⟩) hj).trans h.c4),
   fun k => by rw [World.frozen?_setCell]; exact (World.frozen?_of_block (a := ⟨j, k, none⟩) hj).trans (h.fz k),
   h.sto.blocks (by rw [hsz]; exact hg.size) (fun x hx => (hbj x (h.sF x hx).2).trans (hb x (h.sF x hx).1 (fun e => (h.sv x e).2.1 hx))), ho.blocks (fun g hv => hbj g (hq g hv).2), .inl h.sj, fun x hx => ⟨.inl (h.sF x hx).1, (h.sF x hx).2⟩, fun g hv => ⟨.inr hv, hq g hv⟩, fun x hx => ?_⟩
  rw [hsz]
  rcases hx with hx | hx
  · exact Nat.lt_of_lt_of_le (h.lt x hx) hg.size
  · exact ho.lt x hx
def LgAt (S : Nat → Prop) (w : World) (j : Nat) (l : List Deed) (p : List Nat) (sf : Nat) (lf : Int) (st : Bool) : Prop := ∃ F b v, Lg S F w j b v l p sf lf st
/-- behind a call: nothing old but what is in S has turned -/
def LgTo (S : Nat → Prop) (w w' : World) (j : Nat) (l : List Deed) (p : List Nat) (sf : Nat) (lf : Int) (st : Bool) : Prop := Kept S w w' ∧ ∃ S', LgAt S' w' j l p sf lf st ∧ ∀ x, S' x → S x ∨ w.heap.size ≤ x
theorem LgAt.lt {S : Nat → Prop} {w : World} {j : Nat} {l : List Deed} {p : List Nat} {sf : Nat} {lf : Int} {st : Bool} (h : LgAt S w j l p sf lf st) : ∀ x, S x → x < w.heap.size := by
  obtain ⟨F, b, v, h⟩ := h
  exact h.lt
theorem LgAt.grown {S : Nat → Prop} {w w' : World} {j : Nat} {l : List Deed} {p : List Nat} {sf : Nat} {lf : Int} {st : Bool} (h : LgAt S w j l p sf lf st) (hb : Below w.heap.size w w') : LgAt S w' j l p sf lf st := by
  obtain ⟨F, b, v, h⟩ := h
  exact ⟨F, b, v, h.grown hb⟩
theorem LgAt.to {S : Nat → Prop} {w w' : World} {j : Nat} {l : List Deed} {p : List Nat} {sf : Nat} {lf : Int} {st : Bool} (h : LgAt S w j l p sf lf st) (hb : Below w.heap.size w w') : LgTo S w w' j l p sf lf st := ⟨Kept.of_below hb, S, h.grown hb, fun _ hx => .inl hx⟩
/-- a log alone, behind what was there -/
structure Lh (N : Nat) (w0 wc : World) (j : Nat) (l : List Deed) (p : List Nat) (sf : Nat) (lf : Int) (st : Bool) : Prop where
  s : ∃ S, LgAt S wc j l p sf lf st ∧ ∀ c, S c → N ≤ c
  bel : Below N w0 wc
  hN : N ≤ wc.heap.size
theorem Lh.grown {N : Nat} {w0 wc w' : World} {j : Nat} {l : List Deed} {p : List Nat} {sf : Nat} {lf : Int} {st : Bool} (h : Lh N w0 wc j l p sf lf st) (hb : Below wc.heap.size wc w') : Lh N w0 w' j l p sf lf st := by
  obtain ⟨S, h1, h2⟩ := h.s
  exact ⟨⟨S, h1.grown hb, h2⟩, h.bel.trans (hb.mono h.hN), Nat.le_trans h.hN hb.size⟩
theorem Lh.call {N : Nat} {w0 wc : World} {j : Nat} {l : List Deed} {p : List Nat} {sf : Nat} {lf : Int} {st : Bool} (h : Lh N w0 wc j l p sf lf st) :
    ∃ S, LgAt S wc j l p sf lf st ∧ ∀ w' l' p' sf' lf' st', LgTo S wc w' j l' p' sf' lf' st' → Lh N w0 w' j l' p' sf' lf' st' := by
  obtain ⟨S, h1, h2⟩ := h.s
  refine ⟨S, h1, fun w' l' p' sf' lf' st' ht => ?_⟩
  obtain ⟨ht, S', g1, g2⟩ := ht
  have hN := h.hN
  refine ⟨⟨S', g1, fun c hc => ?_⟩, h.bel.trans (ht.below h.hN h2), Nat.le_trans h.hN ht.size⟩
  rcases g2 c hc with h' | h'
  · exact h2 c h'
  · omega
end Go.Proofs.YtpcnfoaoajfhlaaDoor
