/-
  A mesh behind a pointer: its store, and a row of caches; all of it lies in S.
  Package fresh by its contracts: Get.
  Package mesh by its contracts: isNode, isKey, Seq, At, Cache.
-/
import Derived.Test.YtpcnfoaoajfhlaaGreatDoorRaag
import Derived.Test.YtpcnfoaoajfhlaaGreatDoorRaai
import Derived.Test.YtpcnfoaoajfhlaaGreatDoorRaae
import Derived.Test.YtpcnfoaoajfhlaaGreatDoorRaaf
import Derived.BigRegion
import Derived.BigQuiet
namespace Go.Proofs.YtpcnfoaoajfhlaaGreatDoor
set_option linter.unusedVariables false
set_option linter.unusedSimpArgs false
set_option linter.unusedVariables false
set_option linter.unusedSimpArgs false
open Go.RowKit

/-- a store's own blocks are cells -/
theorem store_tight {W : World} {b : Nat} {l : List Deed} {F : Nat → Prop} (h : StoreIs W b l F) : ∃ F', StoreIs W b l F' ∧ ∀ x, F' x → F x ∧ ∃ cur e fz, W.heap[x]? = some (.cells cur e fz) := by
  obtain ⟨c0, f0, hl, Fb, Fl, V, hV, hd⟩ := h
  have hF : ∀ x, (x = b ∨ ∃ k, k < 8 ∧ (V k).ownBlock = some x) → F x := fun x hx => by
    rcases hx with rfl | ⟨k, hk, hx⟩
    · exact Fb
    · exact (hV k hk).2.2.2.2 x hx
  refine ⟨fun x => x = b ∨ ∃ k, k < 8 ∧ (V k).ownBlock = some x, ⟨c0, f0, hl, .inl rfl, fun c hc => Fl c (hF c hc), V, fun k hk => ?_, hd⟩, fun x hx => ⟨hF x hx, ?_⟩⟩
  · obtain ⟨a1, a2, a3, a4, a5⟩ := hV k hk
    exact ⟨a1, a2, a3, a4, fun c hc => .inr ⟨k, hk, hc⟩⟩
  · rcases hx with rfl | ⟨k, hk, hx⟩
    · unfold World.cell? at c0
      split at c0
      · rename_i hh
        exact ⟨_, _, _, hh⟩
      · cases c0
    · obtain ⟨a1, a2, a3, a4, a5⟩ := hV k hk
      rcases a3.2 with ⟨e, _⟩ | ⟨g, cap, cur, e, _, hg, _⟩
      · rw [e] at hx; simp [Value.ownBlock] at hx
      · rw [e] at hx
        obtain rfl : g = x := by simpa [Value.ownBlock] using hx
        exact ⟨_, _, _, hg⟩
/-- a block of cells -/
def CelAt (w : World) (x : Nat) : Prop := ∃ cur e fz, w.heap[x]? = some (.cells cur e fz)
theorem cel_of {w : World} {b o : Nat} {v : Value} (h : w.cell? ⟨b, o, none⟩ = some v) : CelAt w b := by
  unfold World.cell? at h
  split at h
  · rename_i hh
    exact ⟨_, _, _, hh⟩
  · cases h
theorem CelAt.same {w w' : World} {x : Nat} (h : CelAt w x) (hb : w'.heap[x]? = w.heap[x]?) : CelAt w' x := by
  obtain ⟨cur, e, fz, hx⟩ := h
  exact ⟨cur, e, fz, hb.trans hx⟩
theorem CelAt.set {w : World} {x : Nat} (h : CelAt w x) (a : Addr) (v : Value) : CelAt (w.setCell a v) x := by
  obtain ⟨cur, e, fz, hx⟩ := h
  by_cases hc : x = a.block
  · subst hc
    obtain ⟨b, o, q⟩ := a
    have e1 : (w.setCell ⟨b, o, q⟩ v).heap[b]? = some (.cells (if q.isSome then cur else cur.setIfInBounds o v) e fz) := by
      unfold World.setCell
      rw [Array.getElem?_modify, if_pos rfl, hx]
      rfl
    exact ⟨_, _, _, e1⟩
  · exact ⟨cur, e, fz, (Below.heap_setCell _ _ _ x hc).trans hx⟩
theorem own_cel {w : World} {B : Nat} {e : TypeId} {size : Nat} {v : Value} {n : Nat} {xs : List Value} (h : w.ownsRow B e size v n xs) {g : Nat} (hg : v.ownBlock = some g) : CelAt w g := by
  rcases h.2 with ⟨rfl, _⟩ | ⟨g', cap, cur, rfl, _, hx, _⟩
  · simp [Value.ownBlock] at hg
  · obtain rfl : g' = g := by simpa [Value.ownBlock] using hg
    exact ⟨_, _, _, hx⟩
/-- a mesh at m: its store at b (in F), the row of its caches at c -/
structure Mc (S F : Nat → Prop) (w : World) (m b c : Nat) (l : List Deed) (cs : List (List En)) : Prop where
  c0 : w.cell? ⟨m, 0, none⟩ = some (.pointer (some ⟨b, 0, none⟩))
  c1 : w.cell? ⟨m, 1, none⟩ = some (.slice (some ⟨c, 0, none⟩) cs.length cs.length)
  len : cs.length ≤ 6
  fz : ∀ j, w.frozen? ⟨c, j, none⟩ = false
  mc : m ≠ c
  sm : S m
  sc : S c
  st : StoreIs w b l F
  sF : ∀ x, F x → S x ∧ x ≠ m ∧ x ≠ c
  rows : ∀ j (h : j < cs.length), ∃ v, w.cell? ⟨c, j, none⟩ = some v ∧ RowIs w v cs[j] ∧ ∀ g, v.ownBlock = some g → S g ∧ ¬ F g ∧ g ≠ m ∧ g ≠ c
  lt : ∀ x, S x → x < w.heap.size
  tg : ∀ x, S x → CelAt w x
theorem Mc.blocks {S F : Nat → Prop} {w w' : World} {m b c : Nat} {l : List Deed} {cs : List (List En)} (h : Mc S F w m b c l cs) (hs : w.heap.size ≤ w'.heap.size) (hb : ∀ x, S x → w'.heap[x]? = w.heap[x]?) : Mc S F w' m b c l cs :=
  ⟨(World.cell?_of_block (a := ⟨m, 0, none⟩) (hb m h.sm)).trans h.c0, (World.cell?_of_block (a := ⟨m, 1, none⟩) (hb m h.sm)).trans h.c1, h.len, fun j => (World.frozen?_of_block (a := ⟨c, j, none⟩) (hb c h.sc)).trans (h.fz j), h.mc, h.sm, h.sc,
   h.st.blocks hs (fun x hx => hb x (h.sF x hx).1), h.sF, fun j hj => by
    obtain ⟨v, h1, h2, h3⟩ := h.rows j hj
    exact ⟨v, (World.cell?_of_block (a := ⟨c, j, none⟩) (hb c h.sc)).trans h1, h2.blocks hs (fun g hg _ => hb g (h3 g hg).1), h3⟩, fun x hx => Nat.lt_of_lt_of_le (h.lt x hx) hs, fun x hx => (h.tg x hx).same (hb x hx)⟩
/-- the store has turned -/
theorem Mc.store {S F F' : Nat → Prop} {w w' : World} {m b c : Nat} {l l' : List Deed} {cs : List (List En)} (h : Mc S F w m b c l cs) (hs : StoreIs w' b l' F') (hF : ∀ x, F' x → F x ∨ w.heap.size ≤ x) (hk : Kept F w w') (ht : ∀ x, F' x → CelAt w' x) : Mc (fun x => (S x ∧ ¬ F x) ∨ F' x) F' w' m b c l' cs := by
  have hm : w'.heap[m]? = w.heap[m]? := hk.block m (h.lt m h.sm) (fun hf => (h.sF m hf).2.1 rfl)
  have hc : w'.heap[c]? = w.heap[c]? := hk.block c (h.lt c h.sc) (fun hf => (h.sF c hf).2.2 rfl)
  have hn : ∀ x, F' x → x ≠ m ∧ x ≠ c := fun x hx => by
    rcases hF x hx with hf | hf
    · exact (h.sF x hf).2
    · have h1 := h.lt m h.sm
      have h2 := h.lt c h.sc
      omega
  refine ⟨(World.cell?_of_block (a := ⟨m, 0, none⟩) hm).trans h.c0, (World.cell?_of_block (a := ⟨m, 1, none⟩) hm).trans h.c1, h.len, fun j => (World.frozen?_of_block (a := ⟨c, j, none⟩) hc).trans (h.fz j), h.mc, .inl ⟨h.sm, fun hf => (h.sF m hf).2.1 rfl⟩, .inl ⟨h.sc, fun hf => (h.sF c hf).2.2 rfl⟩, hs, fun x hx => ⟨.inr hx, hn x hx⟩, fun j hj => ?_, fun x hx => ?_, fun x hx => ?_⟩
  · obtain ⟨v, h1, h2, h3⟩ := h.rows j hj
    refine ⟨v, (World.cell?_of_block (a := ⟨c, j, none⟩) hc).trans h1, h2.blocks hk.size (fun g hg hl => hk.block g hl (h3 g hg).2.1), fun g hg => ?_⟩
    obtain ⟨g1, g2, g3⟩ := h3 g hg
    refine ⟨.inl ⟨g1, g2⟩, fun hf => ?_, g3⟩
    rcases hF g hf with h' | h'
    · exact g2 h'
    · have := h.lt g g1
      omega
  · rcases hx with hx | hx
    · exact Nat.lt_of_lt_of_le (h.lt x hx.1) hk.size
    · exact hs.2.2.2.2.1 x hx
  · rcases hx with hx | hx
    · exact (h.tg x hx.1).same (hk.block x (h.lt x hx.1) hx.2)
    · exact ht x hx
/-- a node's cache has turned -/
theorem Mc.row {S F : Nat → Prop} {w : World} {m b c : Nat} {l : List Deed} {cs : List (List En)} (h : Mc S F w m b c l cs) (i : Nat) (hi : i < cs.length) {v : Value} {x : List En} (hv : RowIs w v x) (hg : ∀ g, v.ownBlock = some g → (¬ F g ∧ g ≠ m ∧ g ≠ c) ∧ g < w.heap.size) (hcl : ∀ g, v.ownBlock = some g → CelAt w g) :
    Mc (fun y => S y ∨ v.ownBlock = some y) F (w.setCell ⟨c, i, none⟩ v) m b c l (cs.set i x) := by
  have hb : ∀ y, y ≠ c → (w.setCell ⟨c, i, none⟩ v).heap[y]? = w.heap[y]? := fun y hy => Below.heap_setCell _ _ _ y hy
  have hsz : (w.setCell ⟨c, i, none⟩ v).heap.size = w.heap.size := World.size_setCell _ _ _
  have hvc : ∀ g, v.ownBlock = some g → g ≠ c := fun g hgg => (hg g hgg).1.2.2
  refine ⟨(World.cell?_of_block (a := ⟨m, 0, none⟩) (hb m h.mc)).trans h.c0, by rw [List.length_set]; exact (World.cell?_of_block (a := ⟨m, 1, none⟩) (hb m h.mc)).trans h.c1, by rw [List.length_set]; exact h.len, fun j => by rw [World.frozen?_setCell]; exact h.fz j, h.mc, .inl h.sm, .inl h.sc,
    h.st.blocks (by rw [hsz]; exact Nat.le_refl _) (fun y hy => hb y (h.sF y hy).2.2), fun y hy => ⟨.inl (h.sF y hy).1, (h.sF y hy).2⟩, fun j hj => ?_, fun y hy => by
      rw [hsz]
      rcases hy with hy | hy
      · exact h.lt y hy
      · exact (hg y hy).2, fun y hy => by
      rcases hy with hy | hy
      · exact (h.tg y hy).set _ _
      · exact (hcl y hy).set _ _⟩
  rw [List.length_set] at hj
  obtain ⟨u, h1, h2, h3⟩ := h.rows j hj
  rw [List.getElem_set]
  by_cases hij : i = j
  · subst hij
    rw [if_pos rfl]
    refine ⟨v, World.cell?_setCell_same _ _ _ h1, hv.blocks (by rw [hsz]; exact Nat.le_refl _) (fun g hgg _ => hb g (hvc g hgg)), fun g hgg => ⟨.inr hgg, (hg g hgg).1⟩⟩
  · rw [if_neg hij]
    refine ⟨u, (World.cell?_setCell_other _ _ _ _ (by simp <;> omega)).trans h1, h2.blocks (by rw [hsz]; exact Nat.le_refl _) (fun g hgg _ => hb g (h3 g hgg).2.2.2), fun g hgg => ⟨.inl (h3 g hgg).1, (h3 g hgg).2⟩⟩

/-- what S does not hold may be a row's block -/
theorem Mc.out {S F : Nat → Prop} {w : World} {m b c : Nat} {l : List Deed} {cs : List (List En)} (h : Mc S F w m b c l cs) {g : Nat} (hg : ¬ S g) : ¬ F g ∧ g ≠ m ∧ g ≠ c :=
  ⟨fun hf => hg (h.sF g hf).1, fun e => hg (by rw [e]; exact h.sm), fun e => hg (by rw [e]; exact h.sc)⟩
def MeshAt (S : Nat → Prop) (w : World) (m : Nat) (l : List Deed) (cs : List (List En)) : Prop := ∃ F b c, Mc S F w m b c l cs
/-- behind a call: nothing old but what is in S has turned -/
def MeshTo (S : Nat → Prop) (w w' : World) (m : Nat) (l : List Deed) (cs : List (List En)) : Prop := Kept S w w' ∧ ∃ S', MeshAt S' w' m l cs ∧ ∀ x, S' x → S x ∨ w.heap.size ≤ x
theorem MeshAt.lt {S : Nat → Prop} {w : World} {m : Nat} {l : List Deed} {cs : List (List En)} (h : MeshAt S w m l cs) : ∀ x, S x → x < w.heap.size := by
  obtain ⟨F, b, c, h⟩ := h
  exact h.lt
theorem MeshAt.len {S : Nat → Prop} {w : World} {m : Nat} {l : List Deed} {cs : List (List En)} (h : MeshAt S w m l cs) : cs.length ≤ 6 := by
  obtain ⟨F, b, c, h⟩ := h
  exact h.len
theorem MeshAt.blocks {S : Nat → Prop} {w w' : World} {m : Nat} {l : List Deed} {cs : List (List En)} (h : MeshAt S w m l cs) (hs : w.heap.size ≤ w'.heap.size) (hb : ∀ x, S x → w'.heap[x]? = w.heap[x]?) : MeshAt S w' m l cs := by
  obtain ⟨F, b, c, h⟩ := h
  exact ⟨F, b, c, h.blocks hs hb⟩
theorem MeshAt.grown {S : Nat → Prop} {w w' : World} {m : Nat} {l : List Deed} {cs : List (List En)} (h : MeshAt S w m l cs) (hb : Below w.heap.size w w') : MeshAt S w' m l cs := h.blocks hb.size (fun x hx => hb.block x (h.lt x hx))
theorem MeshAt.to {S : Nat → Prop} {w w' : World} {m : Nat} {l : List Deed} {cs : List (List En)} (h : MeshAt S w m l cs) (hb : Below w.heap.size w w') : MeshTo S w w' m l cs := ⟨Kept.of_below hb, S, h.grown hb, fun _ hx => .inl hx⟩
theorem MeshTo.after {S : Nat → Prop} {w w1 w' : World} {m : Nat} {l : List Deed} {cs : List (List En)} (hb : Below w.heap.size w w1) (h : MeshTo S w1 w' m l cs) : MeshTo S w w' m l cs := by
  obtain ⟨hk, S', h1, h2⟩ := h
  have hs := hb.size
  refine ⟨(Kept.of_below (F := S) hb).trans hk (fun _ _ h => h), S', h1, fun x hx => ?_⟩
  rcases h2 x hx with h | h
  · exact .inl h
  · exact .inr (by omega)
/-- a mesh at m, apart from the blocks in P; nothing older than N has turned -/
structure Mh (P : Nat → Prop) (N : Nat) (w0 wc : World) (m : Nat) (l : List Deed) (cs : List (List En)) : Prop where
  s : ∃ S, MeshAt S wc m l cs ∧ ∀ c, S c → N ≤ c ∧ ¬ P c
  bel : Below N w0 wc
  hN : N ≤ wc.heap.size
  hP : ∀ c, P c → c < wc.heap.size
theorem Mh.grown {P : Nat → Prop} {N : Nat} {w0 wc w' : World} {m : Nat} {l : List Deed} {cs : List (List En)} (h : Mh P N w0 wc m l cs) (hb : Below wc.heap.size wc w') : Mh P N w0 w' m l cs := by
  obtain ⟨S, h1, h2⟩ := h.s
  exact ⟨⟨S, h1.grown hb, h2⟩, h.bel.trans (hb.mono h.hN), Nat.le_trans h.hN hb.size, fun c hc => Nat.lt_of_lt_of_le (h.hP c hc) hb.size⟩
theorem Mh.less {P P' : Nat → Prop} {N : Nat} {w0 wc : World} {m : Nat} {l : List Deed} {cs : List (List En)} (h : Mh P N w0 wc m l cs) (hp : ∀ c, P' c → P c) : Mh P' N w0 wc m l cs := by
  obtain ⟨S, h1, h2⟩ := h.s
  exact ⟨⟨S, h1, fun c hc => ⟨(h2 c hc).1, fun h' => (h2 c hc).2 (hp c h')⟩⟩, h.bel, h.hN, fun c hc => h.hP c (hp c hc)⟩
/-- a new block is not its own -/
theorem Mh.more {P P' : Nat → Prop} {N : Nat} {w0 wc w' : World} {m : Nat} {l : List Deed} {cs : List (List En)} (h : Mh P N w0 wc m l cs) (hb : Below wc.heap.size wc w') (hp : ∀ c, P' c → P c ∨ wc.heap.size ≤ c) (hl : ∀ c, P' c → c < w'.heap.size) : Mh P' N w0 w' m l cs := by
  obtain ⟨S, h1, h2⟩ := h.s
  refine ⟨⟨S, h1.grown hb, fun c hc => ⟨(h2 c hc).1, fun h' => ?_⟩⟩, h.bel.trans (hb.mono h.hN), Nat.le_trans h.hN hb.size, hl⟩
  rcases hp c h' with h' | h'
  · exact (h2 c hc).2 h'
  · have := h1.lt c hc
    omega
theorem Mh.call {P : Nat → Prop} {N : Nat} {w0 wc : World} {m : Nat} {l : List Deed} {cs : List (List En)} (h : Mh P N w0 wc m l cs) :
    ∃ S, MeshAt S wc m l cs ∧ ∀ w' l' cs', MeshTo S wc w' m l' cs' → Mh P N w0 w' m l' cs' ∧ (∀ c, P c → w'.heap[c]? = wc.heap[c]?) ∧ wc.heap.size ≤ w'.heap.size := by
  obtain ⟨S, h1, h2⟩ := h.s
  refine ⟨S, h1, fun w' l' cs' ht => ?_⟩
  obtain ⟨ht, S', g1, g2⟩ := ht
  have hN := h.hN
  refine ⟨⟨⟨S', g1, fun c hc => ?_⟩, h.bel.trans (ht.below h.hN (fun c hc => (h2 c hc).1)), Nat.le_trans h.hN ht.size, fun c hc => Nat.lt_of_lt_of_le (h.hP c hc) ht.size⟩, fun c hc => ht.block c (h.hP c hc) (fun h' => (h2 c h').2 hc), ht.size⟩
  rcases g2 c hc with h' | h'
  · exact h2 c h'
  · refine ⟨by omega, fun hp => ?_⟩
    have := h.hP c hp
    omega
/-- a store into a block of P -/
theorem Mh.set {P : Nat → Prop} {N : Nat} {w0 wc : World} {m : Nat} {l : List Deed} {cs : List (List En)} (h : Mh P N w0 wc m l cs) (A k : Nat) (hA : P A) (hAN : N ≤ A) (u : Value) : Mh P N w0 (wc.setCell ⟨A, k, none⟩ u) m l cs := by
  obtain ⟨S, h1, h2⟩ := h.s
  have hb : ∀ c, c ≠ A → (wc.setCell ⟨A, k, none⟩ u).heap[c]? = wc.heap[c]? := fun c hc => Below.heap_setCell _ _ _ c hc
  refine ⟨⟨S, h1.blocks (by rw [World.size_setCell]; exact Nat.le_refl _) (fun c hc => hb c (fun e => (h2 c hc).2 (by rw [e]; exact hA))), h2⟩, ?_, by rw [World.size_setCell]; exact h.hN, fun c hc => by rw [World.size_setCell]; exact h.hP c hc⟩
  exact h.bel.trans ⟨rfl, rfl, rfl, by rw [World.size_setCell]; exact Nat.le_refl _, fun c hc => hb c (by omega)⟩
end Go.Proofs.YtpcnfoaoajfhlaaGreatDoor

namespace Go.Proofs.YtpcnfoaoajfhlaaGreatDoor
set_option linter.unusedVariables false
set_option linter.unusedSimpArgs false
open Go.RowKit

def isSeqB (n : Int) : Bool := decide (0 ≤ n) && decide (n ≤ 1000)
/-- fresh.Get, on lists -/
def freshGet (l : List En) (key fl : Int) : En × Int :=
  if isSeqB fl = false then (zeroEn, 1) else if (cacheGet l key).2 ≠ 0 then (zeroEn, (cacheGet l key).2) else if (cacheGet l key).1.a < fl then (zeroEn, 8) else ((cacheGet l key).1, 0)

theorem isSeq_c (k : Int) (w : World) : Calls Tryz.prog 97 #[.int .i64 k] w fun e w' => e = .returned (.bool (isSeqB k)) ∧ w' = w := by
  by_cases h : 0 ≤ k
  · have hd : decide (0 ≤ k) = true := by simpa using h
    go_enter Tryz.func97, Tryz.ntmps97
    go_wp2
    go_ret
    exact ⟨by simp [isSeqB, h], rfl⟩
  · have hd : decide (0 ≤ k) = false := by simpa using h
    go_enter Tryz.func97, Tryz.ntmps97
    go_wp2
    go_ret
    refine ⟨?_, rfl⟩
    have h' : ¬ 0 ≤ k := by omega
    simp [isSeqB, h']
theorem isSeq_b {k : Int} {b : Bool} (h : isSeqB k = b) (w : World) : Calls Tryz.prog 97 #[.int .i64 k] w fun e w' => e = .returned (.bool b) ∧ w' = w := by
  subst h
  exact isSeq_c k w
theorem getF_ok {l : List En} {key k vv a : Int} {g : Bool} {t : ByteArray} (h : cacheGet l key = (⟨k, vv, a, g, t⟩, 0)) (v : Value) (w : World) (hr : RowIs w v l) :
    Calls Tryz.prog 73 #[v, .int .i64 key] w fun e w' => e = .returned (.tuple #[.agg #[.int .i64 k, .int .i64 vv, .int .i64 a, .bool g, .string t], .nilIface]) ∧ Below w.heap.size w w' := by
  have c := get_c v l key w hr
  rw [h] at c
  exact c
theorem getF_err {l : List En} {key k vv a : Int} {g : Bool} {t : ByteArray} {n : Int} (h : cacheGet l key = (⟨k, vv, a, g, t⟩, n)) (hn : n ≠ 0) (v : Value) (w : World) (hr : RowIs w v l) :
    Calls Tryz.prog 73 #[v, .int .i64 key] w fun e w' => e = .returned (.tuple #[.agg #[.int .i64 k, .int .i64 vv, .int .i64 a, .bool g, .string t], .iface 85 (.int .i64 n)]) ∧ Below w.heap.size w w' := by
  have c := get_c v l key w hr
  rw [h, eV, if_neg hn] at c
  exact c

set_option maxHeartbeats 4000000 in
theorem freshGet_c (v : Value) (l : List En) (key fl : Int) (w : World) (hr : RowIs w v l) :
    Calls Tryz.prog 52 #[v, .int .i64 key, .int .i64 fl] w fun e w' => e = .returned (.tuple #[(freshGet l key fl).1.val, eV (freshGet l key fl).2]) ∧ Below w.heap.size w w' := by
  have HR : Hid (RowIs w v l) := hr
  clear hr
  cases hk : isSeqB fl
  · have HC : Hid (freshGet l key fl = (zeroEn, 1)) := by
      show freshGet l key fl = _
      rw [freshGet, if_pos hk]
    have HS : Hid (isSeqB fl = false) := hk
    clear hk
    rw [HC.out]
    go_enter Tryz.func52, Tryz.ntmps52
    go_wp2_with (go_at_call 97; refine (isSeq_b HS.out _).mono ?_; rintro e w ⟨rfl, rfl⟩)
    refine bodyPost_ret (v := .tuple #[.agg #[.int .i64 0, .int .i64 0, .int .i64 0, .bool false, .string ⟨#[]⟩], .iface 85 (.int .i64 1)]) (by simp [results, Tryz.results52, go_sem]) rfl ?_
    exact ⟨rfl, by go_grown⟩
  · have HS : Hid (isSeqB fl = true) := hk
    clear hk
    have hlt : w.heap.size < (w.alloc (.cells #[.int .i64 0, .int .i64 0, .int .i64 0, .bool false, .string ⟨#[]⟩] 46)).heap.size := by simp
    have HB0 : Hid (Below w.heap.size w (w.alloc (.cells #[.int .i64 0, .int .i64 0, .int .i64 0, .bool false, .string ⟨#[]⟩] 46))) := by show Below _ _ _; go_grown
    obtain ⟨⟨x0, x1, x2, x3, x4⟩, n, HG⟩ : ∃ x n, Hid (cacheGet l key = (x, n)) := ⟨_, _, rfl⟩
    by_cases hn : n = 0
    · subst hn
      by_cases hf : x2 < fl
      · have HC : Hid (freshGet l key fl = (zeroEn, 8)) := by
          show freshGet l key fl = _
          rw [freshGet, if_neg (by rw [HS.out]; simp), HG.out, if_neg (by simp), if_pos hf]
        rw [HC.out]
        go_enter Tryz.func52, Tryz.ntmps52
        go_wp2_with fail
        refine (isSeq_b HS.out _).mono ?_
        rintro e w ⟨rfl, rfl⟩
        go_wp2_with fail
        refine (getF_ok HG.out _ _ (HR.out.below HB0.out)).mono ?_
        rintro e w1 ⟨rfl, hb⟩
        have B1 : Hid (Below w.heap.size w w1) := HB0.out.trans (hb.mono (by simp))
        have E1 : Hid (BoxAt w1 w.heap.size 0 0 0 false ⟨#[]⟩) := (box_new w 0 0 0 false ⟨#[]⟩ w.heap.size rfl).below hb (by simp)
        have p1 : ¬ w.heap.size = w1.heap.size := by have := hb.size; simp at this; omega
        have p2 : ¬ w1.heap.size = w.heap.size := fun h => p1 h.symm
        clear hb
        go_upto_region 7 with fail
        obtain ⟨w2, HW2⟩ : ∃ w2, w2 = w1.alloc (.cells #[.int .i64 x0, .int .i64 x1, .int .i64 x2, .bool x3, .string x4] 46) := ⟨_, rfl⟩
        rw [← HW2]
        have B2 : Hid (Below w.heap.size w w2) := by rw [HW2]; exact B1.out.alloc B1.out.size _
        have E2 : Hid (BoxAt w2 w.heap.size 0 0 0 false ⟨#[]⟩) := by rw [HW2]; exact E1.out.alloc _
        clear HW2
        obtain ⟨e0, e1, e2, e3, e4, ef⟩ := E2.out
        go_wp2_with fail
        refine bodyPost_ret (v := .tuple #[.agg #[.int .i64 0, .int .i64 0, .int .i64 0, .bool false, .string ⟨#[]⟩], .iface 85 (.int .i64 8)]) (by simp [results, Tryz.results52, go_sem, e0, e1, e2, e3, e4]) rfl ?_
        refine ⟨rfl, ?_⟩
        have hle := B2.out.size
        have hb := B2.out
        go_grown
      · have HC : Hid (freshGet l key fl = (⟨x0, x1, x2, x3, x4⟩, 0)) := by
          show freshGet l key fl = _
          rw [freshGet, if_neg (by rw [HS.out]; simp), HG.out, if_neg (by simp), if_neg hf]
        rw [HC.out]
        go_enter Tryz.func52, Tryz.ntmps52
        go_wp2_with fail
        refine (isSeq_b HS.out _).mono ?_
        rintro e w ⟨rfl, rfl⟩
        go_wp2_with fail
        refine (getF_ok HG.out _ _ (HR.out.below HB0.out)).mono ?_
        rintro e w1 ⟨rfl, hb⟩
        have B1 : Hid (Below w.heap.size w w1) := HB0.out.trans (hb.mono (by simp))
        have E1 : Hid (BoxAt w1 w.heap.size 0 0 0 false ⟨#[]⟩) := (box_new w 0 0 0 false ⟨#[]⟩ w.heap.size rfl).below hb (by simp)
        have p1 : ¬ w.heap.size = w1.heap.size := by have := hb.size; simp at this; omega
        have p2 : ¬ w1.heap.size = w.heap.size := fun h => p1 h.symm
        clear hb
        go_upto_region 8 with fail
        obtain ⟨w2, HW2⟩ : ∃ w2, w2 = w1.alloc (.cells #[.int .i64 x0, .int .i64 x1, .int .i64 x2, .bool x3, .string x4] 46) := ⟨_, rfl⟩
        rw [← HW2]
        have B2 : Hid (Below w.heap.size w w2) := by rw [HW2]; exact B1.out.alloc B1.out.size _
        have E2 : Hid (BoxAt w2 w.heap.size 0 0 0 false ⟨#[]⟩) := by rw [HW2]; exact E1.out.alloc _
        have F2 : Hid (BoxAt w2 w1.heap.size x0 x1 x2 x3 x4) := by rw [HW2]; exact box_new w1 x0 x1 x2 x3 x4 _ rfl
        clear HW2
        obtain ⟨e0, e1, e2, e3, e4, ef⟩ := E2.out
        obtain ⟨f0, f1, f2, f3, f4, ff⟩ := F2.out
        go_wp2_with fail
        refine bodyPost_ret (v := .tuple #[.agg #[.int .i64 x0, .int .i64 x1, .int .i64 x2, .bool x3, .string x4], .nilIface]) (by simp [results, Tryz.results52, go_sem, e0, e1, e2, e3, e4]) rfl ?_
        refine ⟨rfl, ?_⟩
        have hle := B2.out.size
        have hb := B2.out
        go_grown
    · have HC : Hid (freshGet l key fl = (zeroEn, n)) := by
        show freshGet l key fl = _
        rw [freshGet, if_neg (by rw [HS.out]; simp), HG.out, if_pos hn]
      rw [HC.out]
      go_enter Tryz.func52, Tryz.ntmps52
      go_wp2_with fail
      refine (isSeq_b HS.out _).mono ?_
      rintro e w ⟨rfl, rfl⟩
      go_wp2_with fail
      refine (getF_err HG.out hn _ _ (HR.out.below HB0.out)).mono ?_
      rintro e w1 ⟨rfl, hb⟩
      have B1 : Hid (Below w.heap.size w w1) := HB0.out.trans (hb.mono (by simp))
      have E1 : Hid (BoxAt w1 w.heap.size 0 0 0 false ⟨#[]⟩) := (box_new w 0 0 0 false ⟨#[]⟩ w.heap.size rfl).below hb (by simp)
      have p1 : ¬ w.heap.size = w1.heap.size := by have := hb.size; simp at this; omega
      have p2 : ¬ w1.heap.size = w.heap.size := fun h => p1 h.symm
      clear hb
      go_upto_region 5 with fail
      obtain ⟨w2, HW2⟩ : ∃ w2, w2 = w1.alloc (.cells #[.int .i64 x0, .int .i64 x1, .int .i64 x2, .bool x3, .string x4] 46) := ⟨_, rfl⟩
      rw [← HW2]
      have B2 : Hid (Below w.heap.size w w2) := by rw [HW2]; exact B1.out.alloc B1.out.size _
      have E2 : Hid (BoxAt w2 w.heap.size 0 0 0 false ⟨#[]⟩) := by rw [HW2]; exact E1.out.alloc _
      clear HW2
      obtain ⟨e0, e1, e2, e3, e4, ef⟩ := E2.out
      go_wp2_with fail
      refine bodyPost_ret (v := .tuple #[.agg #[.int .i64 0, .int .i64 0, .int .i64 0, .bool false, .string ⟨#[]⟩], .iface 85 (.int .i64 n)]) (by simp [results, Tryz.results52, go_sem, e0, e1, e2, e3, e4]) rfl ?_
      refine ⟨by simp [eV, hn]; rfl, ?_⟩
      have hle := B2.out.size
      have hb := B2.out
      go_grown
end Go.Proofs.YtpcnfoaoajfhlaaGreatDoor

namespace Go.Proofs.YtpcnfoaoajfhlaaGreatDoor
set_option linter.unusedVariables false
set_option linter.unusedSimpArgs false
open Go.RowKit

theorem isNode_c (m c : Nat) (n : Nat) (node : Int) (w : World) (c1 : w.cell? ⟨m, 1, none⟩ = some (.slice (some ⟨c, 0, none⟩) n n)) :
    Calls Tryz.prog 49 #[.pointer (some ⟨m, 0, none⟩), .int .i64 node] w fun e w' => e = .returned (.bool (nodeB n node)) ∧ w' = w := by
  by_cases h : 0 ≤ node
  · have hd : decide (0 ≤ node) = true := by simpa using h
    go_enter Tryz.func49, Tryz.ntmps49
    go_wp2
    go_ret
    exact ⟨by simp [nodeB, h], rfl⟩
  · have hd : decide (0 ≤ node) = false := by simpa using h
    go_enter Tryz.func49, Tryz.ntmps49
    go_wp2
    go_ret
    refine ⟨?_, rfl⟩
    have h' : ¬ 0 ≤ node := by omega
    simp [nodeB, h']
theorem isNode_b {m c n : Nat} {node : Int} {b : Bool} (h : nodeB n node = b) (w : World) (c1 : w.cell? ⟨m, 1, none⟩ = some (.slice (some ⟨c, 0, none⟩) n n)) :
    Calls Tryz.prog 49 #[.pointer (some ⟨m, 0, none⟩), .int .i64 node] w fun e w' => e = .returned (.bool b) ∧ w' = w := by
  subst h
  exact isNode_c m c n node w c1
theorem mKey_c (k : Int) (w : World) : Calls Tryz.prog 50 #[.int .i64 k] w fun e w' => e = .returned (.bool (stK k)) ∧ w' = w := by
  by_cases h : 0 ≤ k
  · have hd : decide (0 ≤ k) = true := by simpa using h
    go_enter Tryz.func50, Tryz.ntmps50
    go_wp2
    go_ret
    exact ⟨by simp [stK, h], rfl⟩
  · have hd : decide (0 ≤ k) = false := by simpa using h
    go_enter Tryz.func50, Tryz.ntmps50
    go_wp2
    go_ret
    refine ⟨?_, rfl⟩
    have h' : ¬ 0 ≤ k := by omega
    simp [stK, h']
theorem mKey_b {k : Int} {b : Bool} (h : stK k = b) (w : World) : Calls Tryz.prog 50 #[.int .i64 k] w fun e w' => e = .returned (.bool b) ∧ w' = w := by
  subst h
  exact mKey_c k w
theorem mSeq_c {S : Nat → Prop} {w : World} {m : Nat} {l : List Deed} {cs : List (List En)} (h : MeshAt S w m l cs) :
    Calls Tryz.prog 16 #[.pointer (some ⟨m, 0, none⟩)] w fun e w' => e = .returned (.int .i64 l.length) ∧ w' = w := by
  obtain ⟨F, b, c, h⟩ := h
  have c0 := h.c0
  have HS : Hid (StoreIs w b l F) := h.st
  clear h
  go_enter Tryz.func16, Tryz.ntmps16
  go_wp2_with fail
  refine (seq_c b l F w HS.out).mono ?_
  rintro e w1 ⟨rfl, hw⟩
  subst hw
  go_wp2_with fail
  go_ret
  exact ⟨rfl, rfl⟩
theorem errV_eV (n : Int) : errV n = eV n := rfl
/-- At, with letters -/
theorem stAt_o {b : Nat} {k s x0 x1 x2 n : Int} {x3 : Bool} {x4 : ByteArray} {l : List Deed} {F : Nat → Prop} {w : World} (h : StoreIs w b l F) (hv : (atO l k s).1 = ⟨x0, x1, x2, x3, x4⟩) (hn : (atO l k s).2 = n) :
    Calls Tryz.prog 116 #[.pointer (some ⟨b, 0, none⟩), .int .i64 k, .int .i64 s] w fun e w' => e = .returned (.tuple #[.agg #[.int .i64 x0, .int .i64 x1, .int .i64 x2, .bool x3, .string x4], eV n]) ∧ Below w.heap.size w w' := by
  have c := at_c b k s l F w h
  rw [hv, hn, errV_eV] at c
  exact c
theorem stRead_o {b : Nat} {k x0 x1 x2 n : Int} {x3 : Bool} {x4 : ByteArray} {l : List Deed} {F : Nat → Prop} {w : World} (h : StoreIs w b l F) (hv : (atO l k l.length).1 = ⟨x0, x1, x2, x3, x4⟩) (hn : (atO l k l.length).2 = n) :
    Calls Tryz.prog 68 #[.pointer (some ⟨b, 0, none⟩), .int .i64 k] w fun e w' => e = .returned (.tuple #[.agg #[.int .i64 x0, .int .i64 x1, .int .i64 x2, .bool x3, .string x4], eV n]) ∧ Below w.heap.size w w' := by
  have c := read_c b k l F w h
  rw [show readO l k = atO l k l.length from rfl, hv, hn, errV_eV] at c
  exact c
/-- a node's cache, as it is told -/
def mCacheO (cs : List (List En)) (node : Int) : List En × Int := if nodeB cs.length node = true then (cacheN cs node, 0) else ([], 1)
theorem cacheN_at {cs : List (List En)} {i : Nat} (hi : i < cs.length) : cacheN cs (i : Int) = cs[i] := by
  unfold cacheN
  rw [Int.toNat_natCast, List.getD_eq_getElem?_getD, List.getElem?_eq_getElem hi]
  rfl
theorem node_nat {n : Nat} {node : Int} (h : nodeB n node = true) : ∃ i : Nat, node = i ∧ i < n := by
  rw [nodeB_iff] at h
  exact ⟨node.toNat, by omega, by omega⟩
set_option maxHeartbeats 1000000 in
theorem mCache_o {S : Nat → Prop} {w : World} {m : Nat} {node n : Int} {x : List En} {l : List Deed} {cs : List (List En)} (h : MeshAt S w m l cs) (hG : GoodM l cs) (hx : mCacheO cs node = (x, n)) :
    Calls Tryz.prog 17 #[.pointer (some ⟨m, 0, none⟩), .int .i64 node] w fun e w' => ∃ v, e = .returned (.tuple #[v, eV n]) ∧ RowIs w' v x ∧ (∀ g, v.ownBlock = some g → w.heap.size ≤ g) ∧ Below w.heap.size w w' := by
  obtain ⟨F, b, c, h⟩ := h
  have c1 := h.c1
  cases hn : nodeB cs.length node
  · have HN : Hid (nodeB cs.length node = false) := hn
    rw [mCacheO, if_neg (by rw [hn]; simp)] at hx
    obtain ⟨rfl, rfl⟩ : [] = x ∧ (1 : Int) = n := by simpa using hx
    clear hx hn h hG
    go_enter Tryz.func17, Tryz.ntmps17
    go_wp2_with (go_at_call 49; refine (isNode_b HN.out _ (by assumption)).mono ?_; rintro e w' ⟨rfl, hw⟩; subst hw)
    go_ret2
    refine ⟨.slice none 0 0, ?_, RowIs.nil _, fun g hg => by simp [Value.ownBlock] at hg, Below.refl _ _⟩
    rfl
  · have HN : Hid (nodeB cs.length node = true) := hn
    rw [mCacheO, if_pos hn] at hx
    obtain ⟨rfl, rfl⟩ : cacheN cs node = x ∧ (0 : Int) = n := by simpa using hx
    obtain ⟨i, rfl, hi⟩ := node_nat hn
    obtain ⟨v, hc, hr, hg⟩ := h.rows i hi
    rw [cacheN_at hi]
    have HR : Hid (RowIs w v cs[i]) := hr
    have H8 : Hid (cs[i].length ≤ 8) := (hG.all cs[i] (List.getElem_mem hi)).good.len
    generalize cs[i] = x at HR H8 ⊢
    clear hx hn h hG hr hg
    generalize cs.length = nc at HN hi c1 ⊢
    have hi2 : (i : Int) < (nc : Int) := by omega
    go_enter Tryz.func17, Tryz.ntmps17
    go_wp2_with (first | (go_at_call 49; refine (isNode_b HN.out _ (by assumption)).mono ?_; rintro e w' ⟨rfl, hw⟩; subst hw))
    refine (clone_c v x _ HR.out H8.out).mono ?_
    rintro e w1 ⟨v1, rfl, ho, hb⟩
    have HO : Hid _ := ho
    have HB : Hid _ := hb
    clear ho hb
    go_wp2_with fail
    go_ret2
    refine ⟨v1, ?_, RowIs.own HO.out, fun g hg => ownsRow_from HO.out g hg, HB.out⟩
    rfl
end Go.Proofs.YtpcnfoaoajfhlaaGreatDoor
