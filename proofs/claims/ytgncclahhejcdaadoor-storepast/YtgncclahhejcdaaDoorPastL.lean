/-
  A list of entries in memory; an entry's cells in a row; what a store's past says of entries.
-/
import Derived.Test.YtgncclahhejcdaaDoorPlL
import Derived.Test.YtgncclahhejcdaaDoorEq
import Derived.Test.YtgncclahhejcdaaDoorPastP
namespace Go.Proofs.YtgncclahhejcdaaDoor
set_option linter.unusedVariables false
set_option linter.unusedSimpArgs false
open Go.RowKit

def Ent.cells (e : Ent) : List Value := [.int .i64 e.key, .int .i64 e.ver, .int .i64 e.asof, .bool e.gone, .string e.text]
def rowN : List Ent → List Value
  | [] => []
  | e :: l => e.cells ++ rowN l
theorem rowN_append (l m : List Ent) : rowN (l ++ m) = rowN l ++ rowN m := by
  induction l with
  | nil => rfl
  | cons c l ih => simp only [List.cons_append, rowN, ih, List.append_assoc]
theorem rowN_get (l : List Ent) (j : Nat) (h : j < l.length) :
    (rowN l)[j * 5]? = some (.int .i64 l[j].key) ∧ (rowN l)[j * 5 + 1]? = some (.int .i64 l[j].ver) ∧ (rowN l)[j * 5 + 2]? = some (.int .i64 l[j].asof) ∧ (rowN l)[j * 5 + 3]? = some (.bool l[j].gone) ∧ (rowN l)[j * 5 + 4]? = some (.string l[j].text) := by
  induction l generalizing j with
  | nil => simp at h
  | cons c l ih =>
    cases j with
    | zero => simp [rowN, Ent.cells]
    | succ j =>
      have e := ih j (by simpa using h)
      have e0 : (j + 1) * 5 = j * 5 + 5 := by omega
      simp only [rowN, Ent.cells, List.cons_append, List.nil_append, e0, List.getElem_cons_succ]
      have e1 : j * 5 + 5 + 1 = (j * 5 + 1) + 5 := by omega
      have e2 : j * 5 + 5 + 2 = (j * 5 + 2) + 5 := by omega
      have e3 : j * 5 + 5 + 3 = (j * 5 + 3) + 5 := by omega
      have e4 : j * 5 + 5 + 4 = (j * 5 + 4) + 5 := by omega
      rw [e1, e2, e3, e4]
      simpa using e

/-- an entry is one of the store's, of a key, at a number -/
def OfStore (l : List Deed) (e : Ent) : Prop := ∃ k s, isK k = true ∧ s ≤ l.length ∧ e = entAt l k s
theorem OfStore.later {l : List Deed} {e : Ent} (h : OfStore l e) (m : List Deed) : OfStore (l ++ m) e := by
  obtain ⟨k, s, h1, h2, rfl⟩ := h
  exact ⟨k, s, h1, by simp; omega, by unfold entAt; rw [lastOf_later l m k s h2]⟩

/-- the list of entries in memory, its block in no F, in new memory -/
def PastIs (B : Nat) (w : World) (v : Value) (ents : List Ent) (F : Nat → Prop) : Prop :=
  w.ownsRow 0 25 5 v ents.length (rowN ents) ∧ ∀ c, v.ownBlock = some c → B ≤ c ∧ ¬ F c ∧ c < w.heap.size
theorem PastIs.blocks {B : Nat} {w w' : World} {v : Value} {ents : List Ent} {F : Nat → Prop} (h : PastIs B w v ents F) (hs : w.heap.size ≤ w'.heap.size) (hb : ∀ c, v.ownBlock = some c → w'.heap[c]? = w.heap[c]?) : PastIs B w' v ents F :=
  ⟨ownsRow_blocks h.1 hb, fun c hc => ⟨(h.2 c hc).1, (h.2 c hc).2.1, Nat.lt_of_lt_of_le (h.2 c hc).2.2 hs⟩⟩
theorem PastIs.below {B : Nat} {w w' : World} {v : Value} {ents : List Ent} {F : Nat → Prop} (h : PastIs B w v ents F) (hb : Below w.heap.size w w') : PastIs B w' v ents F :=
  h.blocks hb.size (fun c hc => hb.block c (h.2 c hc).2.2)
theorem PastIs.step {B : Nat} {w w' : World} {v : Value} {ents : List Ent} {F F' : Nat → Prop} (h : PastIs B w v ents F) (hk : Kept F w w') (hf : ∀ c, F' c → F c ∨ w.heap.size ≤ c) : PastIs B w' v ents F' := by
  refine ⟨ownsRow_blocks h.1 (fun c hc => hk.block c (h.2 c hc).2.2 (h.2 c hc).2.1), fun c hc => ⟨(h.2 c hc).1, fun h' => ?_, Nat.lt_of_lt_of_le (h.2 c hc).2.2 hk.size⟩⟩
  rcases hf c h' with h1 | h1
  · exact (h.2 c hc).2.1 h1
  · have := (h.2 c hc).2.2; omega
theorem PastIs.slice {B : Nat} {w : World} {v : Value} {ents : List Ent} {F : Nat → Prop} (h : PastIs B w v ents F) : ∃ a cap, v = .slice a ents.length cap := by
  rcases h.1.2 with ⟨rfl, h0⟩ | ⟨g, cap, cur, rfl, _⟩
  · exact ⟨none, 0, by rw [h0]⟩
  · exact ⟨_, _, rfl⟩
theorem PastIs.row {B : Nat} {w : World} {v : Value} {ents : List Ent} {F : Nat → Prop} (h : PastIs B w v ents F) (j : Nat) (hj : j < ents.length) :
    ∃ g cap, v = .slice (some ⟨g, 0, none⟩) ents.length cap ∧ w.cell? ⟨g, j * 5, none⟩ = some (.int .i64 ents[j].key) ∧ w.cell? ⟨g, j * 5 + 1, none⟩ = some (.int .i64 ents[j].ver) ∧ w.cell? ⟨g, j * 5 + 2, none⟩ = some (.int .i64 ents[j].asof) ∧ w.cell? ⟨g, j * 5 + 3, none⟩ = some (.bool ents[j].gone) ∧ w.cell? ⟨g, j * 5 + 4, none⟩ = some (.string ents[j].text) := by
  have hc := fun g => h.1.cells (g := g)
  rcases h.1.2 with ⟨rfl, h0⟩ | ⟨g, cap, cur, rfl, _⟩
  · omega
  · have hg := fun i u hu => hc g rfl i u hu
    have hh := rowN_get ents j hj
    refine ⟨g, cap, rfl, ?_, ?_, ?_, ?_, ?_⟩
    · have := hg _ _ hh.1; simpa [Addr.add_lit] using this
    · have := hg _ _ hh.2.1; simpa [Addr.add_lit] using this
    · have := hg _ _ hh.2.2.1; simpa [Addr.add_lit] using this
    · have := hg _ _ hh.2.2.2.1; simpa [Addr.add_lit] using this
    · have := hg _ _ hh.2.2.2.2; simpa [Addr.add_lit] using this
theorem neq_self (x0 x1 x2 : Int) (x3 : Bool) (x4 : ByteArray) (w : World) : (binOp .neq 25 (.agg #[.int .i64 x0, .int .i64 x1, .int .i64 x2, .bool x3, .string x4]) (.agg #[.int .i64 x0, .int .i64 x1, .int .i64 x2, .bool x3, .string x4])).run Tryd.prog w = .ok (.bool false) w := by
  rw [run_neq_struct, eqlIn_self]
  rfl
end Go.Proofs.YtgncclahhejcdaaDoor
