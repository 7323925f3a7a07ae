/-
  The whole records that stand at a row's beginning, one behind the other: the iterator, by its contract.
-/
import Derived.Test.YtpcnfoaoajfhlaaDoorLgM
import Derived.RangeFuncNested
import Derived.RangeFuncBound
import Derived.RangeFuncCalls
import Derived.RangeFuncLeaves
import Derived.Shelf.Abstract
import Derived.Shelf.RegionOpen
import Derived.WalkKit
import Derived.OwnWalkIn
import Derived.TacticsInMore
import Derived.LoopNIn
import Derived.LoopIn
import Derived.Laws.BytesArg
namespace Go.Proofs.YtpcnfoaoajfhlaaDoor
set_option linter.unusedVariables false
set_option linter.unusedSimpArgs false
open Go.RowKit Go.Shelf
attribute [local go_sem] Oper.semAt_some

/-- a record, and where it ends -/
abbrev It := { x : Nat × Deed // x.2.text.size ≤ 12 }
def encsIt (x : It) : Array Value := #[.int .i64 (x.1.1 : Int), .agg #[.int .i64 x.1.2.key, .bool x.1.2.gone, .string x.1.2.text]]
/-- a row of bytes that is read -/
structure BytesAt (W : World) (v : Value) (bs : List Nat) : Prop where
  shape : ∃ p cap, v = .slice p bs.length cap ∧ (bs.length ≤ 100000 ∧ bs.length ≤ cap ∧ cap ≤ maxLen) ∧ (bs ≠ [] → ∃ g, p = some ⟨g, 0, none⟩ ∧ ∀ i (a : Nat), bs[i]? = some a → W.cell? ⟨g, i, none⟩ = some (.int .u8 (a : Int)))
theorem BytesAt.blocks {W W' : World} {v : Value} {bs : List Nat} (h : BytesAt W v bs) (hb : ∀ g, v.ownBlock = some g → W'.heap[g]? = W.heap[g]?) : BytesAt W' v bs := by
  obtain ⟨p, cap, rfl, hl, hr⟩ := h.shape
  refine ⟨p, cap, rfl, hl, fun hn => ?_⟩
  obtain ⟨g, rfl, hc⟩ := hr hn
  exact ⟨g, rfl, fun i a hi => (World.cell?_of_block (a := ⟨g, i, none⟩) (hb g rfl)).trans (hc i a hi)⟩
theorem OwnB.bytes {w : World} {v : Value} {bs : List Nat} (h : OwnB w v bs) (hl : bs.length ≤ 100000) : BytesAt w v bs := by
  rcases h.2 with ⟨rfl, h0⟩ | ⟨g, cap, cur, rfl, _, hg, h1, h2, h3, h4⟩
  · have hb : bs = [] := List.length_eq_zero_iff.1 h0
    subst hb
    exact ⟨none, 0, rfl, ⟨by simp, by simp, by simp⟩, fun hn => absurd rfl hn⟩
  · refine ⟨_, cap, rfl, ⟨hl, h1, h2⟩, fun _ => ⟨g, rfl, fun i a hi => ?_⟩⟩
    have hq : (cur.toList.take (bs.length * 1))[i]? = some (.int .u8 (a : Int)) := by
      rw [h4]
      simp [rowB, hi]
    rw [List.getElem?_take] at hq
    split at hq
    · have hq' : cur[i]? = some (.int .u8 (a : Int)) := by simpa using hq
      simp [World.cell?, hg, hq']
    · cases hq
/-- what a round keeps: the captured box, and the row that is gone over -/
def KpB (Bn : Nat) (v : Value) (W W' : World) : Prop := W'.heap[Bn]? = W.heap[Bn]? ∧ ∀ g, v.ownBlock = some g → W'.heap[g]? = W.heap[g]?
theorem KpB.t {Bn : Nat} {v : Value} {A B C : World} (h : KpB Bn v A B) (k : KpB Bn v B C) : KpB Bn v A C := ⟨k.1.trans h.1, fun g hg => (k.2 g hg).trans (h.2 g hg)⟩
theorem KpB.b {Bn : Nat} {v : Value} {w : World} (hn : Bn < w.heap.size) (hv : ∀ g, v.ownBlock = some g → g < w.heap.size) (W : World) (l : Nat) (o o' : Obj) (hl : w.heap.size ≤ l) (_ : W.heap[l]? = some o) (_ : o.isCells = false) (_ : o.isWalk = false) : KpB Bn v W (W.putObj l o') :=
  ⟨World.putObj_heap_other (by omega), fun g hg => World.putObj_heap_other (by have := hv g hg; omega)⟩
/-- the records, each with its end -/
def itemsD : Nat → (l : List Deed) → (∀ d ∈ l, d.text.size ≤ 12) → List It
  | _, [], _ => []
  | o, d :: l, h => ⟨(o + (encD d).length, d), h d List.mem_cons_self⟩ :: itemsD (o + (encD d).length) l (fun x hx => h x (List.mem_cons_of_mem _ hx))
theorem itemsD_length (o : Nat) (l : List Deed) (h : ∀ d ∈ l, d.text.size ≤ 12) : (itemsD o l h).length = l.length := by
  induction l generalizing o with
  | nil => rfl
  | cons d l ih => simp only [itemsD, List.length_cons, ih]
/-- a record is what its bytes tell -/
theorem what_key {d : Deed} (hk : 0 ≤ d.key) (h8 : d.key < 8) : ((whatN d : Nat) : Int) % 8 = d.key := by
  unfold whatN
  split <;> omega
theorem what_gone {d : Deed} (hk : 0 ≤ d.key) (h8 : d.key < 8) : decide (8 ≤ ((whatN d : Nat) : Int)) = d.gone := by
  unfold whatN
  cases hg : d.gone
  · simp
    omega
  · simp
    omega
end Go.Proofs.YtpcnfoaoajfhlaaDoor
