/-
  The document's mesh behind a pointer: its store, and a row of caches; all of it lies in S (as the mesh itself).
-/
import Derived.Test.YtpcnfoaoajfhlaaGreatDoorRaag
import Derived.Test.YtpcnfoaoajfhlaaGreatDoorRaai
import Derived.Test.YtpcnfoaoajfhlaaGreatDoorRabg
namespace Go.Proofs.YtpcnfoaoajfhlaaGreatDoor
set_option linter.unusedVariables false
set_option linter.unusedSimpArgs false
set_option linter.unusedVariables false
set_option linter.unusedSimpArgs false
open Go.RowKit

theorem RowIs.part {w w' : World} {v : Value} {l : List En} (h : RowIs w v l) (hs : w.heap.size ≤ w'.heap.size) (hb : l ≠ [] → ∀ g, v.ownBlock = some g → w'.heap[g]? = w.heap[g]?) : RowIs w' v l := by
  by_cases h0 : l = []
  · subst h0
    obtain ⟨h1, p, cap, h2, _⟩ := h
    exact ⟨h1, p, cap, h2, fun h => absurd rfl h⟩
  · exact h.blocks hs (fun g hg _ => hb h0 g hg)
theorem RowIs.own_lt {w : World} {v : Value} {l : List En} (h : RowIs w v l) (h0 : l ≠ []) (g : Nat) (hg : v.ownBlock = some g) : g < w.heap.size := by
  obtain ⟨_, p, cap, rfl, hr⟩ := h
  obtain ⟨b, o, rfl, hb, _⟩ := hr h0
  have : b = g := by simpa [Value.ownBlock] using hg
  omega
/-- a mesh at m: its store at b (in F), the row of its caches at c -/
structure Rc (S F : Nat → Prop) (w : World) (m b c : Nat) (l : List Deed) (cs : List (List En)) : Prop where
  c0 : w.cell? ⟨m, 0, none⟩ = some (.pointer (some ⟨b, 0, none⟩))
  c1 : w.cell? ⟨m, 1, none⟩ = some (.slice (some ⟨c, 0, none⟩) cs.length cs.length)
  len : cs.length ≤ 6
  fz : ∀ j, w.frozen? ⟨c, j, none⟩ = false
  mc : m ≠ c
  sm : S m
  sc : S c
  st : RefIs w b l F
  sF : ∀ x, F x → S x ∧ x ≠ m ∧ x ≠ c
  rows : ∀ j (h : j < cs.length), ∃ v, w.cell? ⟨c, j, none⟩ = some v ∧ RowIs w v cs[j] ∧ (cs[j] ≠ [] → ∀ g, v.ownBlock = some g → S g ∧ ¬ F g ∧ g ≠ m ∧ g ≠ c)
  lt : ∀ x, S x → x < w.heap.size
theorem Rc.blocks {S F : Nat → Prop} {w w' : World} {m b c : Nat} {l : List Deed} {cs : List (List En)} (h : Rc S F w m b c l cs) (hs : w.heap.size ≤ w'.heap.size) (hb : ∀ x, S x → w'.heap[x]? = w.heap[x]?) : Rc S F w' m b c l cs :=
  ⟨(World.cell?_of_block (a := ⟨m, 0, none⟩) (hb m h.sm)).trans h.c0, (World.cell?_of_block (a := ⟨m, 1, none⟩) (hb m h.sm)).trans h.c1, h.len, fun j => (World.frozen?_of_block (a := ⟨c, j, none⟩) (hb c h.sc)).trans (h.fz j), h.mc, h.sm, h.sc,
   h.st.blocks hs (fun x hx => hb x (h.sF x hx).1), h.sF, fun j hj => by
    obtain ⟨v, h1, h2, h3⟩ := h.rows j hj
    exact ⟨v, (World.cell?_of_block (a := ⟨c, j, none⟩) (hb c h.sc)).trans h1, h2.part hs (fun h0 g hg => hb g (h3 h0 g hg).1), h3⟩, fun x hx => Nat.lt_of_lt_of_le (h.lt x hx) hs⟩
/-- the store has turned -/
theorem Rc.store {S F F' : Nat → Prop} {w w' : World} {m b c : Nat} {l l' : List Deed} {cs : List (List En)} (h : Rc S F w m b c l cs) (hs : RefIs w' b l' F') (hF : ∀ x, F' x → F x ∨ w.heap.size ≤ x) (hk : Kept F w w') : Rc (fun x => S x ∨ F' x) F' w' m b c l' cs := by
  have hm : w'.heap[m]? = w.heap[m]? := hk.block m (h.lt m h.sm) (fun hf => (h.sF m hf).2.1 rfl)
  have hc : w'.heap[c]? = w.heap[c]? := hk.block c (h.lt c h.sc) (fun hf => (h.sF c hf).2.2 rfl)
  have hn : ∀ x, F' x → x ≠ m ∧ x ≠ c := fun x hx => by
    rcases hF x hx with hf | hf
    · exact (h.sF x hf).2
    · have h1 := h.lt m h.sm
      have h2 := h.lt c h.sc
      omega
  refine ⟨(World.cell?_of_block (a := ⟨m, 0, none⟩) hm).trans h.c0, (World.cell?_of_block (a := ⟨m, 1, none⟩) hm).trans h.c1, h.len, fun j => (World.frozen?_of_block (a := ⟨c, j, none⟩) hc).trans (h.fz j), h.mc, .inl h.sm, .inl h.sc, hs, fun x hx => ⟨.inr hx, hn x hx⟩, fun j hj => ?_, fun x hx => ?_⟩
  · obtain ⟨v, h1, h2, h3⟩ := h.rows j hj
    refine ⟨v, (World.cell?_of_block (a := ⟨c, j, none⟩) hc).trans h1, h2.part hk.size (fun h0 g hg => hk.block g (h2.own_lt h0 g hg) (h3 h0 g hg).2.1), fun h0 g hg => ?_⟩
    obtain ⟨g1, g2, g3⟩ := h3 h0 g hg
    refine ⟨.inl g1, fun hf => ?_, g3⟩
    rcases hF g hf with h' | h'
    · exact g2 h'
    · have := h.lt g g1
      omega
  · rcases hx with hx | hx
    · exact Nat.lt_of_lt_of_le (h.lt x hx) hk.size
    · exact hs.lt x hx
/-- a node's cache has turned -/
theorem Rc.row {S F : Nat → Prop} {w : World} {m b c : Nat} {l : List Deed} {cs : List (List En)} (h : Rc S F w m b c l cs) (i : Nat) (hi : i < cs.length) {v : Value} {x : List En} (hv : RowIs w v x) (hg : x ≠ [] → ∀ g, v.ownBlock = some g → (¬ F g ∧ g ≠ m ∧ g ≠ c) ∧ g < w.heap.size) :
    Rc (fun y => S y ∨ (x ≠ [] ∧ v.ownBlock = some y)) F (w.setCell ⟨c, i, none⟩ v) m b c l (cs.set i x) := by
  have hb : ∀ y, y ≠ c → (w.setCell ⟨c, i, none⟩ v).heap[y]? = w.heap[y]? := fun y hy => Below.heap_setCell _ _ _ y hy
  have hsz : (w.setCell ⟨c, i, none⟩ v).heap.size = w.heap.size := World.size_setCell _ _ _
  have hvc : x ≠ [] → ∀ g, v.ownBlock = some g → g ≠ c := fun h0 g hgg => (hg h0 g hgg).1.2.2
  refine ⟨(World.cell?_of_block (a := ⟨m, 0, none⟩) (hb m h.mc)).trans h.c0, by rw [List.length_set]; exact (World.cell?_of_block (a := ⟨m, 1, none⟩) (hb m h.mc)).trans h.c1, by rw [List.length_set]; exact h.len, fun j => by rw [World.frozen?_setCell]; exact h.fz j, h.mc, .inl h.sm, .inl h.sc,
    h.st.blocks (by rw [hsz]; exact Nat.le_refl _) (fun y hy => hb y (h.sF y hy).2.2), fun y hy => ⟨.inl (h.sF y hy).1, (h.sF y hy).2⟩, fun j hj => ?_, fun y hy => by
      rw [hsz]
      rcases hy with hy | hy
      · exact h.lt y hy
      · exact (hg hy.1 y hy.2).2⟩
  rw [List.length_set] at hj
  obtain ⟨u, h1, h2, h3⟩ := h.rows j hj
  rw [List.getElem_set]
  by_cases hij : i = j
  · subst hij
    rw [if_pos rfl]
    refine ⟨v, World.cell?_setCell_same _ _ _ h1, hv.part (by rw [hsz]; exact Nat.le_refl _) (fun h0 g hgg => hb g (hvc h0 g hgg)), fun h0 g hgg => ⟨.inr ⟨h0, hgg⟩, (hg h0 g hgg).1⟩⟩
  · rw [if_neg hij]
    refine ⟨u, (World.cell?_setCell_other _ _ _ _ (by simp <;> omega)).trans h1, h2.part (by rw [hsz]; exact Nat.le_refl _) (fun h0 g hgg => hb g (h3 h0 g hgg).2.2.2), fun h0 g hgg => ⟨.inl (h3 h0 g hgg).1, (h3 h0 g hgg).2⟩⟩

/-- what S does not hold may be a row's block -/
theorem Rc.out {S F : Nat → Prop} {w : World} {m b c : Nat} {l : List Deed} {cs : List (List En)} (h : Rc S F w m b c l cs) {g : Nat} (hg : ¬ S g) : ¬ F g ∧ g ≠ m ∧ g ≠ c :=
  ⟨fun hf => hg (h.sF g hf).1, fun e => hg (by rw [e]; exact h.sm), fun e => hg (by rw [e]; exact h.sc)⟩
def RkAt (S : Nat → Prop) (w : World) (m : Nat) (l : List Deed) (cs : List (List En)) : Prop := ∃ F b c, Rc S F w m b c l cs
/-- behind a call: nothing old but what is in S has turned -/
def RkTo (S : Nat → Prop) (w w' : World) (m : Nat) (l : List Deed) (cs : List (List En)) : Prop := Kept S w w' ∧ ∃ S', RkAt S' w' m l cs ∧ ∀ x, S' x → S x ∨ w.heap.size ≤ x
theorem RkAt.lt {S : Nat → Prop} {w : World} {m : Nat} {l : List Deed} {cs : List (List En)} (h : RkAt S w m l cs) : ∀ x, S x → x < w.heap.size := by
  obtain ⟨F, b, c, h⟩ := h
  exact h.lt
theorem RkAt.len {S : Nat → Prop} {w : World} {m : Nat} {l : List Deed} {cs : List (List En)} (h : RkAt S w m l cs) : cs.length ≤ 6 := by
  obtain ⟨F, b, c, h⟩ := h
  exact h.len
theorem RkAt.blocks {S : Nat → Prop} {w w' : World} {m : Nat} {l : List Deed} {cs : List (List En)} (h : RkAt S w m l cs) (hs : w.heap.size ≤ w'.heap.size) (hb : ∀ x, S x → w'.heap[x]? = w.heap[x]?) : RkAt S w' m l cs := by
  obtain ⟨F, b, c, h⟩ := h
  exact ⟨F, b, c, h.blocks hs hb⟩
theorem RkAt.grown {S : Nat → Prop} {w w' : World} {m : Nat} {l : List Deed} {cs : List (List En)} (h : RkAt S w m l cs) (hb : Below w.heap.size w w') : RkAt S w' m l cs := h.blocks hb.size (fun x hx => hb.block x (h.lt x hx))
theorem RkAt.to {S : Nat → Prop} {w w' : World} {m : Nat} {l : List Deed} {cs : List (List En)} (h : RkAt S w m l cs) (hb : Below w.heap.size w w') : RkTo S w w' m l cs := ⟨Kept.of_below hb, S, h.grown hb, fun _ hx => .inl hx⟩
theorem RkTo.after {S : Nat → Prop} {w w1 w' : World} {m : Nat} {l : List Deed} {cs : List (List En)} (hb : Below w.heap.size w w1) (h : RkTo S w1 w' m l cs) : RkTo S w w' m l cs := by
  obtain ⟨hk, S', h1, h2⟩ := h
  have hs := hb.size
  refine ⟨(Kept.of_below (F := S) hb).trans hk (fun _ _ h => h), S', h1, fun x hx => ?_⟩
  rcases h2 x hx with h | h
  · exact .inl h
  · exact .inr (by omega)
/-- a mesh at m, apart from the blocks in P; nothing older than N has turned -/
structure Rkh (P : Nat → Prop) (N : Nat) (w0 wc : World) (m : Nat) (l : List Deed) (cs : List (List En)) : Prop where
  s : ∃ S, RkAt S wc m l cs ∧ ∀ c, S c → N ≤ c ∧ ¬ P c
  bel : Below N w0 wc
  hN : N ≤ wc.heap.size
  hP : ∀ c, P c → c < wc.heap.size
theorem Rkh.grown {P : Nat → Prop} {N : Nat} {w0 wc w' : World} {m : Nat} {l : List Deed} {cs : List (List En)} (h : Rkh P N w0 wc m l cs) (hb : Below wc.heap.size wc w') : Rkh P N w0 w' m l cs := by
  obtain ⟨S, h1, h2⟩ := h.s
  exact ⟨⟨S, h1.grown hb, h2⟩, h.bel.trans (hb.mono h.hN), Nat.le_trans h.hN hb.size, fun c hc => Nat.lt_of_lt_of_le (h.hP c hc) hb.size⟩
theorem Rkh.less {P P' : Nat → Prop} {N : Nat} {w0 wc : World} {m : Nat} {l : List Deed} {cs : List (List En)} (h : Rkh P N w0 wc m l cs) (hp : ∀ c, P' c → P c) : Rkh P' N w0 wc m l cs := by
  obtain ⟨S, h1, h2⟩ := h.s
  exact ⟨⟨S, h1, fun c hc => ⟨(h2 c hc).1, fun h' => (h2 c hc).2 (hp c h')⟩⟩, h.bel, h.hN, fun c hc => h.hP c (hp c hc)⟩
/-- a new block is not its own -/
theorem Rkh.more {P P' : Nat → Prop} {N : Nat} {w0 wc w' : World} {m : Nat} {l : List Deed} {cs : List (List En)} (h : Rkh P N w0 wc m l cs) (hb : Below wc.heap.size wc w') (hp : ∀ c, P' c → P c ∨ wc.heap.size ≤ c) (hl : ∀ c, P' c → c < w'.heap.size) : Rkh P' N w0 w' m l cs := by
  obtain ⟨S, h1, h2⟩ := h.s
  refine ⟨⟨S, h1.grown hb, fun c hc => ⟨(h2 c hc).1, fun h' => ?_⟩⟩, h.bel.trans (hb.mono h.hN), Nat.le_trans h.hN hb.size, hl⟩
  rcases hp c h' with h' | h'
  · exact (h2 c hc).2 h'
  · have := h1.lt c hc
    omega
theorem Rkh.call {P : Nat → Prop} {N : Nat} {w0 wc : World} {m : Nat} {l : List Deed} {cs : List (List En)} (h : Rkh P N w0 wc m l cs) :
    ∃ S, RkAt S wc m l cs ∧ ∀ w' l' cs', RkTo S wc w' m l' cs' → Rkh P N w0 w' m l' cs' ∧ (∀ c, P c → w'.heap[c]? = wc.heap[c]?) ∧ wc.heap.size ≤ w'.heap.size := by
  obtain ⟨S, h1, h2⟩ := h.s
  refine ⟨S, h1, fun w' l' cs' ht => ?_⟩
  obtain ⟨ht, S', g1, g2⟩ := ht
  have hN := h.hN
  refine ⟨⟨⟨S', g1, fun c hc => ?_⟩, h.bel.trans (ht.below h.hN (fun c hc => (h2 c hc).1)), Nat.le_trans h.hN ht.size, fun c hc => Nat.lt_of_lt_of_le (h.hP c hc) ht.size⟩, fun c hc => ht.block c (h.hP c hc) (fun h' => (h2 c h').2 hc), ht.size⟩
  rcases g2 c hc with h' | h'
  · exact h2 c h'
  · refine ⟨by omega, fun hp => ?_⟩
    have := h.hP c hp
    omega
/-- a store into a block of P -/
theorem Rkh.set {P : Nat → Prop} {N : Nat} {w0 wc : World} {m : Nat} {l : List Deed} {cs : List (List En)} (h : Rkh P N w0 wc m l cs) (A k : Nat) (hA : P A) (hAN : N ≤ A) (u : Value) : Rkh P N w0 (wc.setCell ⟨A, k, none⟩ u) m l cs := by
  obtain ⟨S, h1, h2⟩ := h.s
  have hb : ∀ c, c ≠ A → (wc.setCell ⟨A, k, none⟩ u).heap[c]? = wc.heap[c]? := fun c hc => Below.heap_setCell _ _ _ c hc
  refine ⟨⟨S, h1.blocks (by rw [World.size_setCell]; exact Nat.le_refl _) (fun c hc => hb c (fun e => (h2 c hc).2 (by rw [e]; exact hA))), h2⟩, ?_, by rw [World.size_setCell]; exact h.hN, fun c hc => by rw [World.size_setCell]; exact h.hP c hc⟩
  exact h.bel.trans ⟨rfl, rfl, rfl, by rw [World.size_setCell]; exact Nat.le_refl _, fun c hc => hb c (by omega)⟩
theorem rc_new {w2 : World} {b c n m : Nat} (hm : m = w2.heap.size) (hs : RefIs w2 b [] (fun x => x = b)) (hl : ∀ k, k < n → w2.cell? ⟨c, k, none⟩ = some (.slice none 0 0)) (hf : ∀ k, w2.frozen? ⟨c, k, none⟩ = false) (hc : c < w2.heap.size) (hbc : b ≠ c) (hn : n ≤ 6) :
    Rc (fun x => x = b ∨ x = c ∨ x = m) (fun x => x = b) (w2.alloc (.cells #[.pointer (some ⟨b, 0, none⟩), .slice (some ⟨c, 0, none⟩) n n] 37)) m b c [] (List.replicate n []) := by
  subst hm
  have hb : b < w2.heap.size := hs.lt b rfl
  have hB : Below w2.heap.size w2 (w2.alloc (.cells #[.pointer (some ⟨b, 0, none⟩), .slice (some ⟨c, 0, none⟩) n n] 37)) := (Below.refl _ _).alloc (Nat.le_refl _) _
  refine ⟨by simp, by simp, by simpa using hn, fun j => (World.frozen?_of_block (a := ⟨c, j, none⟩) (hB.block c hc)).trans (hf j), by omega, .inr (.inr rfl), .inr (.inl rfl), hs.below hB, fun x hx => ⟨.inl hx, by omega, by omega⟩, fun j hj => ?_, fun x hx => ?_⟩
  · refine ⟨.slice none 0 0, (World.cell?_of_block (a := ⟨c, j, none⟩) (hB.block c hc)).trans (hl j (by simpa using hj)), ?_, fun h0 => absurd (List.getElem_replicate ..) h0⟩
    rw [List.getElem_replicate]
    exact RowIs.nil _
  · have : (w2.alloc (.cells #[.pointer (some ⟨b, 0, none⟩), .slice (some ⟨c, 0, none⟩) n n] 37)).heap.size = w2.heap.size + 1 := by simp
    omega
end Go.Proofs.YtpcnfoaoajfhlaaGreatDoor
