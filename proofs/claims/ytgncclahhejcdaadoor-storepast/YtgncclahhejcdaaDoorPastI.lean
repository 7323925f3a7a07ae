/-
  What holds round by round in merelaw1.StorePast: the store, the list of entries that were read, each of them the store's at its time.
-/
import Derived.Test.YtgncclahhejcdaaDoorPastL
import Derived.Deep.AppendLies
namespace Go.Proofs.YtgncclahhejcdaaDoor
set_option linter.unusedVariables false
set_option linter.unusedSimpArgs false
open Go.RowKit

structure Inv (B : Nat) (w0 w : World) (s : Nat) (v : Value) (l : List Deed) (F : Nat → Prop) (ents : List Ent) (n : Nat) : Prop where
  below : Below B w0 w
  store : StoreIs w s l F
  new : ∀ c, F c → B ≤ c
  good : Good l
  len : ents.length ≤ n
  past : PastIs B w v ents F
  of : ∀ e ∈ ents, OfStore l e
  size : B ≤ w.heap.size
theorem Inv.step {B : Nat} {w0 w w' : World} {s : Nat} {v : Value} {l : List Deed} {F : Nat → Prop} {ents : List Ent} {n : Nat} (h : Inv B w0 w s v l F ents n) (hb : Below w.heap.size w w') : Inv B w0 w' s v l F ents n :=
  ⟨h.below.trans (hb.mono h.size), h.store.below hb, h.new, h.good, h.len, h.past.below hb, h.of, Nat.le_trans h.size hb.size⟩
theorem Inv.left {B : Nat} {w0 w w' : World} {s : Nat} {v : Value} {l : List Deed} {F : Nat → Prop} {ents : List Ent} {n : Nat} {o : Out} {e : Ending} (h : Inv B w0 w s v l F ents n) (hl : Left s F w o e w') (hg : Good o.done) (hm : ∃ m, o.done = l ++ m) :
    ∃ F', Inv B w0 w' s v o.done F' ents n ∧ Kept F w w' := by
  obtain ⟨_, F', h1, h2, h3⟩ := hl
  obtain ⟨m, hm⟩ := hm
  exact ⟨F', ⟨h.below.trans (h3.below h.size h.new), h1, fun c hc => (h2 c hc).elim (h.new c) (fun h' => Nat.le_trans h.size h'), hg, h.len, h.past.step h3 h2, fun x hx => hm ▸ (h.of x hx).later m, Nat.le_trans h.size h3.size⟩, h3⟩
theorem Inv.mono {B : Nat} {w0 w : World} {s : Nat} {v : Value} {l : List Deed} {F : Nat → Prop} {ents : List Ent} {n m : Nat} (h : Inv B w0 w s v l F ents n) (hm : n ≤ m) : Inv B w0 w s v l F ents m :=
  ⟨h.below, h.store, h.new, h.good, Nat.le_trans h.len hm, h.past, h.of, h.size⟩
/-- one entry more -/
theorem Inv.push {B : Nat} {w0 w w1 : World} {s : Nat} {v : Value} {l : List Deed} {F : Nat → Prop} {ents : List Ent} {n g cap : Nat} {e : Ent} (h : Inv B w0 w s v l F ents n) (he : OfStore l e)
    (hown : w1.ownsRow 0 25 5 (.slice (some ⟨g, 0, none⟩) (ents.length + 1) cap) (ents.length + 1) (rowN ents ++ e.cells)) (hgrow : w.grownBy w1 v.ownBlock) (hat : v.ownBlock = some g ∨ g = w.heap.size) (hlt : g < w1.heap.size) :
    Inv B w0 w1 s (.slice (some ⟨g, 0, none⟩) (ents.length + 1) cap) l F (ents ++ [e]) (n + 1) := by
  have hk : ∀ c, c < w.heap.size → v.ownBlock ≠ some c → w1.heap[c]? = w.heap[c]? := fun c hc hne => hgrow.block c hc (Ne.symm hne)
  have hnb : ∀ c, F c → v.ownBlock ≠ some c := fun c hc e' => (h.past.2 c e').2.1 hc
  have hvB : ∀ c, c < B → v.ownBlock ≠ some c := fun c hc e' => by have := (h.past.2 c e').1; omega
  refine ⟨h.below.trans ⟨hgrow.os, hgrow.tape, hgrow.output, hgrow.size, fun c hc => hk c (Nat.lt_of_lt_of_le hc h.size) (hvB c hc)⟩, h.store.blocks hgrow.size (fun c hc => hk c (h.store.2.2.2.2.1 c hc) (hnb c hc)), h.new, h.good, by simp; exact h.len, ⟨?_, ?_⟩, ?_, Nat.le_trans h.size hgrow.size⟩
  · rw [rowN_append, List.length_append]
    have e' : rowN [e] = e.cells := by simp [rowN]
    rw [e']
    exact hown
  · intro c hc
    obtain rfl : g = c := by simpa [Value.ownBlock] using hc
    rcases hat with h' | h'
    · exact ⟨(h.past.2 g h').1, (h.past.2 g h').2.1, hlt⟩
    · refine ⟨by have := h.size; omega, fun hf => ?_, hlt⟩
      have := h.store.2.2.2.2.1 g hf
      omega
  · intro x hx
    rcases List.mem_append.1 hx with h' | h'
    · exact h.of x h'
    · rw [List.mem_singleton.1 h']; exact he
theorem inv_start (w0 w : World) (hb : Below w0.heap.size w0 w) : Inv w0.heap.size w0 (w.alloc (.cells #[.int .i64 0, .slice none 0 0, .slice none 0 0, .slice none 0 0, .slice none 0 0, .slice none 0 0, .slice none 0 0, .slice none 0 0, .slice none 0 0] 66)) w.heap.size (.slice none 0 0) [] (fun c => c = w.heap.size) [] 0 :=
  ⟨hb.alloc hb.size _, new_is w, fun c hc => by have := hb.size; omega, fun d hd => by simp at hd, by simp, ⟨World.ownsRow_nil _ _ _ _, fun c hc => by simp [Value.ownBlock] at hc⟩, fun e he => by simp at he, by have := hb.size; simp; omega⟩
end Go.Proofs.YtgncclahhejcdaaDoor
