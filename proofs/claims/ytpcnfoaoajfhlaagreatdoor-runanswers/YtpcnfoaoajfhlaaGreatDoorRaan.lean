/-
  A cache's tree on lists: each key's number, each node's; sixteen numbers at a block.
  A row of numbers, and one appended to it.
  One row of numbers appended to another one; where two trees part, on lists.
  Rows of numbers with their room; slices.Index and slices.Contains at numbers (beside the trees' rows of numbers).
-/
import Derived.Test.YtpcnfoaoajfhlaaGreatDoorRaam
import Derived.Test.YtpcnfoaoajfhlaaGreatDoorRaae
import Derived.Deep.AppendLies
import Derived.Laws.AppendOwnNone
namespace Go.Proofs.YtpcnfoaoajfhlaaGreatDoor
set_option linter.unusedVariables false
set_option linter.unusedSimpArgs false
set_option linter.unusedVariables false
set_option linter.unusedSimpArgs false
open Go.RowKit

/-- an entry's number -/
def numE (x : En) : Nat := entH x.k.toNat x.v.toNat x.g x.t
/-- the number at a key's end -/
def leafN (l : List En) (k : Nat) : Nat := match getE l (k : Int) with
  | none => 0
  | some x => numE x
theorem leafN_none {l : List En} {k : Nat} (h : getE l (k : Int) = none) : leafN l k = 0 := by rw [leafN, h]
theorem leafN_some {l : List En} {k : Nat} {x : En} (h : getE l (k : Int) = some x) : leafN l k = numE x := by rw [leafN, h]
theorem numE_lt (x : En) : numE x < 4294967296 := hashL_lt _
theorem leafN_lt (l : List En) (k : Nat) : leafN l k < 4294967296 := by
  unfold leafN
  split
  · omega
  · exact numE_lt _
/-- how many rows a node is above the ends -/
def dep (i : Nat) : Nat := if i < 2 then 3 else if i < 4 then 2 else if i < 8 then 1 else 0
/-- a tree's node -/
def trN (f : Nat → Nat) (i : Nat) : Nat := nd pairH f (dep i) i
theorem dep_end {i : Nat} (h : 8 ≤ i) : dep i = 0 := by
  unfold dep
  rw [if_neg (by omega), if_neg (by omega), if_neg (by omega)]
theorem dep_two {i : Nat} (h0 : 1 ≤ i) (h : i < 8) : dep i = dep (2 * i) + 1 ∧ dep (2 * i + 1) = dep (2 * i) := by
  have h8 : i = 1 ∨ i = 2 ∨ i = 3 ∨ i = 4 ∨ i = 5 ∨ i = 6 ∨ i = 7 := by omega
  rcases h8 with rfl | rfl | rfl | rfl | rfl | rfl | rfl <;> exact ⟨rfl, rfl⟩
theorem trN_end (f : Nat → Nat) {i : Nat} (h : 8 ≤ i) : trN f i = f (i - 8) := by
  rw [trN, dep_end h]
  rfl
theorem trN_two (f : Nat → Nat) {i : Nat} (h0 : 1 ≤ i) (h : i < 8) : trN f i = pairH (trN f (2 * i)) (trN f (2 * i + 1)) := by
  obtain ⟨h1, h2⟩ := dep_two h0 h
  rw [trN, trN, trN, h2, h1]
  rfl
theorem trN_lt (f : Nat → Nat) (hf : ∀ k, f k < 4294967296) (i : Nat) : trN f i < 4294967296 := by
  unfold trN
  cases dep i with
  | zero => exact hf _
  | succ d => exact pairH_lt _ _
/-- the nodes behind i, the others 0 -/
def downTo (f : Nat → Nat) (i k : Nat) : Nat := if i < k then trN f k else 0
theorem downTo_lt (f : Nat → Nat) (hf : ∀ k, f k < 4294967296) (i k : Nat) : downTo f i k < 4294967296 := by
  unfold downTo
  split
  · exact trN_lt f hf k
  · omega
def updN (o : Nat → Nat) (k z : Nat) : Nat → Nat := fun j => if j = k then z else o j
theorem downTo_step (f : Nat → Nat) {i : Nat} (h : i + 1 < 8) : updN (downTo f (i + 1)) (i + 1) (pairH (downTo f (i + 1) (2 * (i + 1))) (downTo f (i + 1) (2 * (i + 1) + 1))) = downTo f i := by
  funext k
  have h1 : downTo f (i + 1) (2 * (i + 1)) = trN f (2 * (i + 1)) := if_pos (by omega)
  have h2 : downTo f (i + 1) (2 * (i + 1) + 1) = trN f (2 * (i + 1) + 1) := if_pos (by omega)
  rw [h1, h2, ← trN_two f (by omega) h]
  unfold updN downTo
  by_cases e : k = i + 1
  · subst e
    rw [if_pos rfl, if_pos (by omega)]
  · rw [if_neg e]
    by_cases e2 : i + 1 < k
    · rw [if_pos e2, if_pos (by omega)]
    · rw [if_neg e2, if_neg (by omega)]
/-- the ends of the first j entries, all else 0 -/
def endsOf (l : List En) (j k : Nat) : Nat := if 8 ≤ k then leafN (l.take j) (k - 8) else 0
theorem endsOf_zero (l : List En) : endsOf l 0 = fun _ => 0 := by
  funext k
  unfold endsOf
  split
  · rfl
  · rfl
theorem endsOf_all (l : List En) : endsOf l l.length = downTo (leafN l) 7 := by
  funext k
  unfold endsOf downTo
  rw [List.take_length]
  by_cases h : 8 ≤ k
  · rw [if_pos h, if_pos (by omega), trN_end _ h]
  · rw [if_neg h, if_neg (by omega)]
theorem getE_take {l : List En} (hr : Rising l) {j : Nat} (hj : j < l.length) (q : Int) : getE (l.take (j + 1)) q = if q = l[j].k then some l[j] else getE (l.take j) q := by
  have e : l.take (j + 1) = l.take j ++ [l[j]] := by rw [List.take_succ_eq_append_getElem hj]
  unfold getE
  rw [e, List.find?_append]
  by_cases h : q = l[j].k
  · rw [if_pos h]
    have hn : List.find? (fun e => e.k == q) (l.take j) = none := by
      rw [List.find?_eq_none]
      intro x hx hxq
      have hxk : x.k = q := by simpa using hxq
      obtain ⟨i, hi, rfl⟩ := List.mem_iff_getElem.1 hx
      rw [List.length_take] at hi
      have hlt := (List.pairwise_iff_getElem.1 hr) i j (by omega) hj (by omega)
      rw [List.getElem_take] at hxk
      have hlt' : l[i].k < l[j].k := hlt
      omega
    have hs : List.find? (fun e => e.k == q) [l[j]] = some l[j] := List.find?_cons_of_pos (by simp [h])
    rw [hn, hs]
    rfl
  · rw [if_neg h]
    have hs : List.find? (fun e => e.k == q) [l[j]] = none := by
      rw [List.find?_cons_of_neg (by simpa using fun h' => h h'.symm)]
      rfl
    rw [hs]
    cases List.find? (fun e => e.k == q) (l.take j) <;> rfl
theorem endsOf_step {l : List En} (hr : Rising l) {j K : Nat} (hj : j < l.length) (hK : l[j].k = (K : Int)) : updN (endsOf l j) (8 + K) (numE l[j]) = endsOf l (j + 1) := by
  funext k
  unfold updN endsOf
  by_cases h8 : 8 ≤ k
  · rw [if_pos h8, if_pos h8]
    unfold leafN
    rw [getE_take hr hj]
    by_cases e : k = 8 + K
    · rw [if_pos e, if_pos (by omega)]
    · rw [if_neg e, if_neg (by omega)]
  · rw [if_neg h8, if_neg h8, if_neg (by omega)]

/-- sixteen numbers at a block -/
structure SixAt (w : World) (b : Nat) (o : Nat → Nat) : Prop where
  cell : ∀ k, k < 16 → w.cell? ⟨b, k, none⟩ = some (.int .i64 (o k : Nat))
  fz : ∀ j, w.frozen? ⟨b, j, none⟩ = false
theorem SixAt.of_block {w w' : World} {b : Nat} {o : Nat → Nat} (h : SixAt w b o) (hb : w'.heap[b]? = w.heap[b]?) : SixAt w' b o :=
  ⟨fun k hk => (World.cell?_of_block (a := ⟨b, k, none⟩) hb).trans (h.cell k hk), fun j => (World.frozen?_of_block (a := ⟨b, j, none⟩) hb).trans (h.fz j)⟩
theorem SixAt.lt {w : World} {b : Nat} {o : Nat → Nat} (h : SixAt w b o) : b < w.heap.size := World.block_lt_of_cell? w _ (h.cell 0 (by omega))
theorem SixAt.below {w w' : World} {b B : Nat} {o : Nat → Nat} (h : SixAt w b o) (hb : Below B w w') (hB : b < B) : SixAt w' b o := h.of_block (hb.block b hB)
theorem SixAt.grown {w w' : World} {b : Nat} {o : Nat → Nat} (h : SixAt w b o) (hb : Below w.heap.size w w') : SixAt w' b o := h.below hb h.lt
theorem SixAt.alloc {w : World} {b : Nat} {o : Nat → Nat} (h : SixAt w b o) (x : Obj) : SixAt (w.alloc x) b o := h.of_block (Below.heap_alloc _ _ _ h.lt)
theorem SixAt.other {w : World} {b : Nat} {o : Nat → Nat} (h : SixAt w b o) (a : Addr) (hc : b ≠ a.block) (u : Value) : SixAt (w.setCell a u) b o := h.of_block (Below.heap_setCell _ _ _ b hc)
theorem SixAt.set {w : World} {b : Nat} {o : Nat → Nat} (h : SixAt w b o) (k : Nat) (hk : k < 16) (z : Nat) : SixAt (w.setCell ⟨b, k, none⟩ (.int .i64 (z : Nat))) b (updN o k z) := by
  refine ⟨fun j hj => ?_, fun j => by rw [World.frozen?_setCell]; exact h.fz j⟩
  by_cases e : j = k
  · subst e
    rw [updN, if_pos rfl]
    exact World.cell?_setCell_same _ _ _ (h.cell j hj)
  · rw [updN, if_neg e, World.cell?_setCell_other _ _ _ _ (by simp [e])]
    exact h.cell j hj
theorem six_new (w : World) (t : TypeId) (b : Nat) (h : b = w.heap.size) (o : Nat → Nat) : SixAt (w.alloc (.cells #[.int .i64 (o 0 : Nat), .int .i64 (o 1 : Nat), .int .i64 (o 2 : Nat), .int .i64 (o 3 : Nat), .int .i64 (o 4 : Nat), .int .i64 (o 5 : Nat), .int .i64 (o 6 : Nat), .int .i64 (o 7 : Nat), .int .i64 (o 8 : Nat), .int .i64 (o 9 : Nat), .int .i64 (o 10 : Nat), .int .i64 (o 11 : Nat), .int .i64 (o 12 : Nat), .int .i64 (o 13 : Nat), .int .i64 (o 14 : Nat), .int .i64 (o 15 : Nat)] t)) b o := by
  subst h
  refine ⟨fun k hk => ?_, fun j => by simp⟩
  have h8 : k = 0 ∨ k = 1 ∨ k = 2 ∨ k = 3 ∨ k = 4 ∨ k = 5 ∨ k = 6 ∨ k = 7 ∨ k = 8 ∨ k = 9 ∨ k = 10 ∨ k = 11 ∨ k = 12 ∨ k = 13 ∨ k = 14 ∨ k = 15 := by omega
  rcases h8 with rfl | rfl | rfl | rfl | rfl | rfl | rfl | rfl | rfl | rfl | rfl | rfl | rfl | rfl | rfl | rfl <;> simp
/-- sixteen numbers as a value -/
def ag16 (o : Nat → Nat) : Value := .agg #[.int .i64 (o 0 : Nat), .int .i64 (o 1 : Nat), .int .i64 (o 2 : Nat), .int .i64 (o 3 : Nat), .int .i64 (o 4 : Nat), .int .i64 (o 5 : Nat), .int .i64 (o 6 : Nat), .int .i64 (o 7 : Nat), .int .i64 (o 8 : Nat), .int .i64 (o 9 : Nat), .int .i64 (o 10 : Nat), .int .i64 (o 11 : Nat), .int .i64 (o 12 : Nat), .int .i64 (o 13 : Nat), .int .i64 (o 14 : Nat), .int .i64 (o 15 : Nat)]
/-- the sixteen cells of a block, stored -/
def set16 (w : World) (b : Nat) (o : Nat → Nat) : World := ((((((((((((((((w.setCell ⟨b, 0, none⟩ (.int .i64 (o 0 : Nat))).setCell ⟨b, 1, none⟩ (.int .i64 (o 1 : Nat))).setCell ⟨b, 2, none⟩ (.int .i64 (o 2 : Nat))).setCell ⟨b, 3, none⟩ (.int .i64 (o 3 : Nat))).setCell ⟨b, 4, none⟩ (.int .i64 (o 4 : Nat))).setCell ⟨b, 5, none⟩ (.int .i64 (o 5 : Nat))).setCell ⟨b, 6, none⟩ (.int .i64 (o 6 : Nat))).setCell ⟨b, 7, none⟩ (.int .i64 (o 7 : Nat))).setCell ⟨b, 8, none⟩ (.int .i64 (o 8 : Nat))).setCell ⟨b, 9, none⟩ (.int .i64 (o 9 : Nat))).setCell ⟨b, 10, none⟩ (.int .i64 (o 10 : Nat))).setCell ⟨b, 11, none⟩ (.int .i64 (o 11 : Nat))).setCell ⟨b, 12, none⟩ (.int .i64 (o 12 : Nat))).setCell ⟨b, 13, none⟩ (.int .i64 (o 13 : Nat))).setCell ⟨b, 14, none⟩ (.int .i64 (o 14 : Nat))).setCell ⟨b, 15, none⟩ (.int .i64 (o 15 : Nat)))
theorem upd16 (u o : Nat → Nat) (k : Nat) (h : k < 16) : updN (updN (updN (updN (updN (updN (updN (updN (updN (updN (updN (updN (updN (updN (updN (updN u 0 (o 0)) 1 (o 1)) 2 (o 2)) 3 (o 3)) 4 (o 4)) 5 (o 5)) 6 (o 6)) 7 (o 7)) 8 (o 8)) 9 (o 9)) 10 (o 10)) 11 (o 11)) 12 (o 12)) 13 (o 13)) 14 (o 14)) 15 (o 15) k = o k := by
  have h8 : k = 0 ∨ k = 1 ∨ k = 2 ∨ k = 3 ∨ k = 4 ∨ k = 5 ∨ k = 6 ∨ k = 7 ∨ k = 8 ∨ k = 9 ∨ k = 10 ∨ k = 11 ∨ k = 12 ∨ k = 13 ∨ k = 14 ∨ k = 15 := by omega
  rcases h8 with rfl | rfl | rfl | rfl | rfl | rfl | rfl | rfl | rfl | rfl | rfl | rfl | rfl | rfl | rfl | rfl <;> simp [updN]
theorem SixAt.set16 {w : World} {b : Nat} {u : Nat → Nat} (h : SixAt w b u) (o : Nat → Nat) : SixAt (set16 w b o) b o := by
  have h' := (((((((((((((((h.set 0 (by omega) (o 0)).set 1 (by omega) (o 1)).set 2 (by omega) (o 2)).set 3 (by omega) (o 3)).set 4 (by omega) (o 4)).set 5 (by omega) (o 5)).set 6 (by omega) (o 6)).set 7 (by omega) (o 7)).set 8 (by omega) (o 8)).set 9 (by omega) (o 9)).set 10 (by omega) (o 10)).set 11 (by omega) (o 11)).set 12 (by omega) (o 12)).set 13 (by omega) (o 13)).set 14 (by omega) (o 14)).set 15 (by omega) (o 15)
  exact ⟨fun k hk => (h'.cell k hk).trans (by rw [upd16 u o k hk]), h'.fz⟩
theorem set16_below {w w' : World} {B b : Nat} (h : Below B w w') (hb : B ≤ b) (o : Nat → Nat) : Below B w (set16 w' b o) := by
  unfold Go.Proofs.YtpcnfoaoajfhlaaGreatDoor.set16
  have s : ∀ {x : World}, Below B w x → ∀ k u, Below B w (x.setCell ⟨b, k, none⟩ u) := fun hx k u => ⟨hx.os, hx.tape, hx.output, by rw [World.size_setCell]; exact hx.size, fun c hc => (Below.heap_setCell _ _ _ c (by show c ≠ b; omega)).trans (hx.block c hc)⟩
  exact s (s (s (s (s (s (s (s (s (s (s (s (s (s (s (s h _ _) _ _) _ _) _ _) _ _) _ _) _ _) _ _) _ _) _ _) _ _) _ _) _ _) _ _) _ _) _ _
theorem six_cells {w : World} {b : Nat} {o : Nat → Nat} (h : SixAt w b o) : w.cell? ⟨b, 0, none⟩ = some (.int .i64 (o 0 : Nat)) ∧ w.cell? ⟨b, 1, none⟩ = some (.int .i64 (o 1 : Nat)) ∧ w.cell? ⟨b, 2, none⟩ = some (.int .i64 (o 2 : Nat)) ∧ w.cell? ⟨b, 3, none⟩ = some (.int .i64 (o 3 : Nat)) ∧ w.cell? ⟨b, 4, none⟩ = some (.int .i64 (o 4 : Nat)) ∧ w.cell? ⟨b, 5, none⟩ = some (.int .i64 (o 5 : Nat)) ∧ w.cell? ⟨b, 6, none⟩ = some (.int .i64 (o 6 : Nat)) ∧ w.cell? ⟨b, 7, none⟩ = some (.int .i64 (o 7 : Nat)) ∧ w.cell? ⟨b, 8, none⟩ = some (.int .i64 (o 8 : Nat)) ∧ w.cell? ⟨b, 9, none⟩ = some (.int .i64 (o 9 : Nat)) ∧ w.cell? ⟨b, 10, none⟩ = some (.int .i64 (o 10 : Nat)) ∧ w.cell? ⟨b, 11, none⟩ = some (.int .i64 (o 11 : Nat)) ∧ w.cell? ⟨b, 12, none⟩ = some (.int .i64 (o 12 : Nat)) ∧ w.cell? ⟨b, 13, none⟩ = some (.int .i64 (o 13 : Nat)) ∧ w.cell? ⟨b, 14, none⟩ = some (.int .i64 (o 14 : Nat)) ∧ w.cell? ⟨b, 15, none⟩ = some (.int .i64 (o 15 : Nat)) :=
  ⟨h.cell 0 (by omega), h.cell 1 (by omega), h.cell 2 (by omega), h.cell 3 (by omega), h.cell 4 (by omega), h.cell 5 (by omega), h.cell 6 (by omega), h.cell 7 (by omega), h.cell 8 (by omega), h.cell 9 (by omega), h.cell 10 (by omega), h.cell 11 (by omega), h.cell 12 (by omega), h.cell 13 (by omega), h.cell 14 (by omega), h.cell 15 (by omega)⟩
end Go.Proofs.YtpcnfoaoajfhlaaGreatDoor

namespace Go.Proofs.YtpcnfoaoajfhlaaGreatDoor
set_option linter.unusedVariables false
set_option linter.unusedSimpArgs false
open Go.RowKit

/-- a slice that holds a row of numbers -/
def IntsIs (w : World) (v : Value) (l : List Int) : Prop :=
  l.length ≤ maxLen ∧ ∃ p cap, v = .slice p l.length cap ∧ (l ≠ [] → ∃ b o, p = some ⟨b, o, none⟩ ∧ b < w.heap.size ∧ ∀ j (h : j < l.length), w.cell? ⟨b, o + j, none⟩ = some (.int .i64 l[j]))
theorem IntsIs.blocks {w w' : World} {v : Value} {l : List Int} (h : IntsIs w v l) (hs : w.heap.size ≤ w'.heap.size) (hb : ∀ c, v.ownBlock = some c → c < w.heap.size → w'.heap[c]? = w.heap[c]?) : IntsIs w' v l := by
  obtain ⟨h0, p, cap, rfl, h1⟩ := h
  refine ⟨h0, p, cap, rfl, fun hn => ?_⟩
  obtain ⟨b, o, rfl, hlt, hc⟩ := h1 hn
  exact ⟨b, o, rfl, Nat.lt_of_lt_of_le hlt hs, fun j hj => (World.cell?_of_block (a := ⟨b, o + j, none⟩) (hb b rfl hlt)).trans (hc j hj)⟩
theorem IntsIs.below {w w' : World} {v : Value} {l : List Int} (h : IntsIs w v l) (hb : Below w.heap.size w w') : IntsIs w' v l :=
  h.blocks hb.size (fun c _ hc => hb.block c hc)
theorem IntsIs.nil (w : World) : IntsIs w (.slice none 0 0) [] := ⟨by simp, none, 0, rfl, fun h => absurd rfl h⟩
def intC (l : List Int) : List Value := l.map (Value.int .i64)
theorem IntsIs.own {w : World} {B : Nat} {v : Value} {l : List Int} (h : w.ownsRow B 3 1 v l.length (intC l)) : IntsIs w v l := by
  have hcell : ∀ g, v.ownBlock = some g → ∀ j u, (intC l)[j]? = some u → w.cell? ⟨g, j, none⟩ = some u := fun g hg j u hu => by
    have := h.cells (g := g) hg j u hu
    simpa [Addr.add_lit] using this
  rcases h.2 with ⟨rfl, h0⟩ | ⟨g, cap, cur, rfl, _, hg, hc1, hc2, _⟩
  · rw [List.length_eq_zero_iff.1 h0]
    exact IntsIs.nil w
  · refine ⟨Nat.le_trans hc1 hc2, _, cap, rfl, fun _ => ⟨g, 0, rfl, (Array.getElem?_eq_some_iff.1 hg).1, fun j hj => ?_⟩⟩
    have := hcell g rfl j (.int .i64 l[j]) (by simp [intC, List.getElem?_map, hj])
    simpa using this
theorem infoInt : (Tryz.prog.info? 3).map (fun i => (i.zero, i.size, i.bytes)) = some (some (.int .i64 0), 1, 8) := by kernel_rfl

theorem ownsRow_belowF {w w' : World} {B : Nat} {e : TypeId} {size : Nat} {v : Value} {n : Nat} {xs : List Value} (h : w.ownsRow B e size v n xs) (hb : Below w.heap.size w w') : w'.ownsRow B e size v n xs := by
  refine ⟨h.1, ?_⟩
  rcases h.2 with hn | ⟨g, cap, cur, rfl, h1, hg, rest⟩
  · exact .inl hn
  · exact .inr ⟨g, cap, cur, rfl, h1, (hb.block g (Array.getElem?_eq_some_iff.1 hg).1).trans hg, rest⟩
theorem ownsRow_fromF {w : World} {B : Nat} {e : TypeId} {size : Nat} {v : Value} {n : Nat} {xs : List Value} (h : w.ownsRow B e size v n xs) (c : Nat) (hc : v.ownBlock = some c) : B ≤ c := by
  rcases h.2 with ⟨rfl, _⟩ | ⟨g', cap, cur, rfl, h1, _⟩
  · cases hc
  · obtain rfl : g' = c := by simpa [Value.ownBlock] using hc
    exact h1
theorem below_grownF {B : Nat} {w w1 w' : World} {v : Value} (h : Below B w w1) (hB : B ≤ w.heap.size) (hg : w1.grownBy w' v.ownBlock) (hv : ∀ c, v.ownBlock = some c → B ≤ c) : Below B w w' :=
  h.trans ⟨hg.os, hg.tape, hg.output, hg.size, fun c hc => hg.block c (Nat.lt_of_lt_of_le hc (Nat.le_trans hB h.size)) (fun e => by have := hv c e.symm; omega)⟩
theorem intC_append (l m : List Int) : intC (l ++ m) = intC l ++ intC m := by simp [intC]
/-- a row of the call's own that holds numbers and one more -/
def OwnedMoreI (B : Nat) (w : World) (v : Value) (out : List Int) (e : Int) : Prop := w.ownsRow B 3 1 v (out ++ [e]).length (intC (out ++ [e]))
theorem wp_appI {ops : Array Oper} {rest : List Oper} {o : Oper} {ac : Act} {Q : Exit → Act → World → Prop} (w : World) (hgd : o.guard = none) (s x : Operand)
    (ho : o.op = .call { callee := .builtin .append, args := #[s, x], argTypes := #[39, 39] }) (B : Nat) (v : Value) (out : List Int) (e : Int) (hs : ac.eval s = v)
    (hown : w.ownsRow B 3 1 v out.length (intC out)) (vb : Nat) (hx : ac.eval x = .slice (some ⟨vb, 0, none⟩) 1 1) (hv : w.heap[vb]? = some (.cells #[.int .i64 e] 3 (0, 0))) (hl : out.length ≤ 100) (hB : B ≤ w.heap.size)
    (h : ∀ v' w', OwnedMoreI B w' v' out e → Hid (w.grownBy w' v.ownBlock) → wpList Tryz.prog ops Q rest (ac.put o.dst v') w') : wpList Tryz.prog ops Q (o :: rest) ac w := by
  obtain ⟨i0, hi0, hz0, hz1, hz2⟩ := info_parts infoInt
  have q3 : ∀ (u : Value), u ∈ [Value.int .i64 e] → u.oneCell' = true := fun u hu => by simp at hu; subst hu; rfl
  have q2 : ∀ (j : Nat) (u : Value), [Value.int .i64 e][j]? = some u → w.cell? ((⟨vb, 0, none⟩ : Addr).add j) = some u := World.news_of_block hv
  refine wpList_append_own w hgd s x 39 ho B 3 i0 _ 1 8 Tryz.underlying39 hi0 hz0 hz1 hz2 rfl (by omega) v out.length (intC out) hs hown ⟨vb, 0, none⟩ 1 1 [.int .i64 e] hx rfl q2 q3 (by unfold maxLen; omega) (by omega) hB ?_
  intro v' w' h1 h2 _
  refine h v' w' (show World.ownsRow _ _ _ _ _ _ _ from ?_) h2
  have hr : intC (out ++ [e]) = intC out ++ [.int .i64 e] := by simp [intC]
  rw [hr, List.length_append]
  exact h1
/-- a row of the call's own that holds entries and one more -/
def OwnedMore (B : Nat) (w : World) (v : Value) (out : List En) (e : En) : Prop := w.ownsRow B 46 5 v (out ++ [e]).length (rowC (out ++ [e]))
theorem wp_app {ops : Array Oper} {rest : List Oper} {o : Oper} {ac : Act} {Q : Exit → Act → World → Prop} (w : World) (hgd : o.guard = none) (s x : Operand)
    (ho : o.op = .call { callee := .builtin .append, args := #[s, x], argTypes := #[32, 32] }) (B : Nat) (v : Value) (out : List En) (e : En) (hs : ac.eval s = v)
    (hown : w.ownsRow B 46 5 v out.length (rowC out)) (vb : Nat) (hx : ac.eval x = .slice (some ⟨vb, 0, none⟩) 1 1) (hv : w.heap[vb]? = some (.cells e.cells.toArray 46 (0, 0))) (hl : out.length ≤ 100) (hB : B ≤ w.heap.size)
    (h : ∀ v' w', OwnedMore B w' v' out e → Hid (w.grownBy w' v.ownBlock) → wpList Tryz.prog ops Q rest (ac.put o.dst v') w') : wpList Tryz.prog ops Q (o :: rest) ac w := by
  obtain ⟨i0, hi0, hz0, hz1, hz2⟩ := info_parts infoEn
  have q3 : ∀ (u : Value), u ∈ e.cells → u.oneCell' = true := fun u hu => rowC_one [e] u (by simpa [rowC] using hu)
  refine wpList_append_own w hgd s x 32 ho B 46 i0 _ 5 48 Tryz.underlying32 hi0 hz0 hz1 hz2 rfl (by omega) v out.length (rowC out) hs hown ⟨vb, 0, none⟩ 1 1 e.cells hx rfl (World.news_of_block hv) q3 (by unfold maxLen; omega) (by omega) hB ?_
  intro v' w' h1 h2 _
  refine h v' w' (show World.ownsRow _ _ _ _ _ _ _ from ?_) h2
  have hr : rowC (out ++ [e]) = rowC out ++ e.cells := by rw [rowC_append]; simp [rowC]
  rw [hr, List.length_append]
  exact h1
end Go.Proofs.YtpcnfoaoajfhlaaGreatDoor

namespace Go.Proofs.YtpcnfoaoajfhlaaGreatDoor
set_option linter.unusedVariables false
set_option linter.unusedSimpArgs false
open Go.RowKit

theorem ptK_len (P : Nat → Nat → Nat) (f g : Nat → Nat) : ∀ d i, (ptK P f g d i).length ≤ 2 ^ d := by
  intro d
  induction d with
  | zero => intro i; unfold ptK; split <;> simp
  | succ d ih =>
    intro i
    unfold ptK
    split
    · simp
    · rw [List.length_append, Nat.pow_succ]
      have h1 := ih (2 * i)
      have h2 := ih (2 * i + 1)
      omega
theorem ptN_len (P : Nat → Nat → Nat) (f g : Nat → Nat) : ∀ d i, ptN P f g d i + 1 ≤ 2 ^ (d + 1) := by
  intro d
  induction d with
  | zero => intro i; exact Nat.le_refl _
  | succ d ih =>
    intro i
    have h1 := ih (2 * i)
    have h2 := ih (2 * i + 1)
    have e : 2 ^ (d + 1 + 1) = 2 ^ (d + 1) + 2 ^ (d + 1) := by rw [Nat.pow_succ 2 (d + 1)]; omega
    unfold ptN
    split
    · omega
    · omega
/-- the keys where two part, as numbers -/
def partK (f g : Nat → Nat) (i : Nat) : List Int := (ptK pairH f g (dep i) i).map (fun k : Nat => (k : Int))
def partN (f g : Nat → Nat) (i : Nat) : Nat := ptN pairH f g (dep i) i
theorem dep_le (i : Nat) : dep i ≤ 3 := by
  unfold dep
  split
  · omega
  · split
    · omega
    · split <;> omega
theorem partK_len (f g : Nat → Nat) (i : Nat) : (partK f g i).length ≤ 8 := by
  rw [partK, List.length_map]
  refine Nat.le_trans (ptK_len _ _ _ _ _) ?_
  exact Nat.le_trans (Nat.pow_le_pow_right (by omega) (dep_le i)) (by omega)
theorem partN_len (f g : Nat → Nat) (i : Nat) : partN f g i ≤ 15 := by
  have h := ptN_len pairH f g (dep i) i
  have h2 : 2 ^ (dep i + 1) ≤ 2 ^ 4 := Nat.pow_le_pow_right (by omega) (by have := dep_le i; omega)
  unfold partN
  omega
theorem part_alike {f g : Nat → Nat} {i : Nat} (h : trN f i = trN g i) : partK f g i = [] ∧ partN f g i = 1 := by
  refine ⟨?_, ptN_alike h⟩
  rw [partK, ptK_alike h]
  rfl
theorem part_end {f g : Nat → Nat} {i : Nat} (h8 : 8 ≤ i) (h : trN f i ≠ trN g i) : partK f g i = [((i - 8 : Nat) : Int)] ∧ partN f g i = 1 := by
  rw [trN_end f h8, trN_end g h8] at h
  unfold partK partN
  rw [dep_end h8, ptK, if_neg h]
  exact ⟨rfl, rfl⟩
theorem part_two {f g : Nat → Nat} {i : Nat} (h0 : 1 ≤ i) (h8 : i < 8) (h : trN f i ≠ trN g i) : partK f g i = partK f g (2 * i) ++ partK f g (2 * i + 1) ∧ partN f g i = partN f g (2 * i) + partN f g (2 * i + 1) + 1 := by
  obtain ⟨h1, h2⟩ := dep_two h0 h8
  unfold trN at h
  rw [h1] at h
  unfold partK partN
  rw [h2, h1, ptK, if_neg h, ptN, if_neg h, List.map_append]
  exact ⟨rfl, rfl⟩

/-- a row of numbers of the call's own -/
def OwnI (B : Nat) (w : World) (v : Value) (l : List Int) : Prop := w.ownsRow B 3 1 v l.length (intC l)
theorem OwnI.nil (B : Nat) (w : World) : OwnI B w (.slice none 0 0) [] := World.ownsRow_nil w B _ 1
theorem OwnI.one {B : Nat} {w : World} {b : Nat} {x : Int} (hB : B ≤ b) (h : w.heap[b]? = some (.cells #[.int .i64 x] 3 (0, 0))) : OwnI B w (.slice (some ⟨b, 0, none⟩) 1 1) [x] :=
  ⟨rfl, .inr ⟨b, 1, _, rfl, hB, h, Nat.le_refl _, by unfold maxLen; omega, rfl, rfl⟩⟩
theorem OwnI.base {B B' : Nat} {w : World} {v : Value} {l : List Int} (h : OwnI B w v l) (hB : B' ≤ B) : OwnI B' w v l := by
  refine ⟨h.1, ?_⟩
  rcases h.2 with hn | ⟨g, cap, cur, rfl, h1, rest⟩
  · exact .inl hn
  · exact .inr ⟨g, cap, cur, rfl, Nat.le_trans hB h1, rest⟩
theorem OwnI.blocks {B : Nat} {w w' : World} {v : Value} {l : List Int} (h : OwnI B w v l) (hb : ∀ c, v.ownBlock = some c → c < w.heap.size → w'.heap[c]? = w.heap[c]?) : OwnI B w' v l := by
  refine ⟨h.1, ?_⟩
  rcases h.2 with hn | ⟨g, cap, cur, rfl, h1, hg, rest⟩
  · exact .inl hn
  · exact .inr ⟨g, cap, cur, rfl, h1, (hb g rfl (Array.getElem?_eq_some_iff.1 hg).1).trans hg, rest⟩
theorem OwnI.below {B : Nat} {w w' : World} {v : Value} {l : List Int} (h : OwnI B w v l) (hb : Below w.heap.size w w') : OwnI B w' v l := h.blocks fun c _ hc => hb.block c hc
theorem OwnI.ints {B : Nat} {w : World} {v : Value} {l : List Int} (h : OwnI B w v l) : IntsIs w v l := IntsIs.own h
theorem OwnI.from {B : Nat} {w : World} {v : Value} {l : List Int} (h : OwnI B w v l) (c : Nat) (hc : v.ownBlock = some c) : B ≤ c := ownsRow_fromF h c hc

/-- two rows of unlike types, of which one grows -/
theorem own_beside {w w' : World} {B : Nat} {e1 e2 : TypeId} {s1 s2 : Nat} {v1 v2 : Value} {n1 n2 : Nat} {xs1 xs2 : List Value} (h1 : w.ownsRow B e1 s1 v1 n1 xs1) (h2 : w.ownsRow B e2 s2 v2 n2 xs2) (hne : e1 ≠ e2) (hg : w.grownBy w' v2.ownBlock) : w'.ownsRow B e1 s1 v1 n1 xs1 := by
  refine ⟨h1.1, ?_⟩
  rcases h1.2 with hn | ⟨g, cap, cur, rfl, hB, hg1, rest⟩
  · exact .inl hn
  · refine .inr ⟨g, cap, cur, rfl, hB, (hg.block g (Array.getElem?_eq_some_iff.1 hg1).1 ?_).trans hg1, rest⟩
    intro hc
    rcases h2.2 with ⟨rfl, _⟩ | ⟨g', cap', cur', rfl, _, hg2, _⟩
    · cases hc
    · have e : g = g' := Option.some.inj hc
      subst e
      rw [hg1] at hg2
      simp at hg2
      exact hne hg2.2
theorem wp_appRow {ops : Array Oper} {rest : List Oper} {o : Oper} {ac : Act} {Q : Exit → Act → World → Prop} (w : World) (hgd : o.guard = none) (s x : Operand)
    (ho : o.op = .call { callee := .builtin .append, args := #[s, x], argTypes := #[39, 39] }) (B : Nat) (v : Value) (out : List Int) (hs : ac.eval s = v)
    (hown : OwnI B w v out) (B2 : Nat) (u : Value) (more : List Int) (hx : ac.eval x = u) (hm : OwnI B2 w u more) (hl : out.length + more.length ≤ 100) (hB : B ≤ w.heap.size)
    (h : ∀ v' w', OwnI B w' v' (out ++ more) → Hid (w.grownBy w' v.ownBlock) → wpList Tryz.prog ops Q rest (ac.put o.dst v') w') : wpList Tryz.prog ops Q (o :: rest) ac w := by
  obtain ⟨i0, hi0, hz0, hz1, hz2⟩ := info_parts infoInt
  rcases hm.2 with ⟨rfl, h0⟩ | ⟨g, cap, cur, rfl, _, hg, hc1, hc2, hc3, hc4⟩
  · rw [List.length_eq_zero_iff.1 h0, List.append_nil] at h
    exact wpList_append_own_none hgd s x 39 ho B 3 i0 1 Tryz.underlying39 hi0 v out.length (intC out) hs hown hx (h v w hown ⟨rfl, rfl, rfl, Nat.le_refl _, fun _ _ _ => rfl⟩)
  · have q3 : ∀ u ∈ intC more, u.oneCell' = true := fun u hu => by
      obtain ⟨z, _, rfl⟩ := List.mem_map.1 hu
      rfl
    have q2 : ∀ (j : Nat) (u : Value), (intC more)[j]? = some u → w.cell? ((⟨g, 0, none⟩ : Addr).add j) = some u := fun j u hu => hm.cells (g := g) rfl j u hu
    refine wpList_append_own w hgd s x 39 ho B 3 i0 _ 1 8 Tryz.underlying39 hi0 hz0 hz1 hz2 rfl (by omega) v out.length (intC out) hs hown ⟨g, 0, none⟩ more.length cap (intC more) hx (by simp [intC]) q2 q3 (by unfold maxLen; omega) (by omega) hB ?_
    intro v' w' h1 h2 _
    refine h v' w' (show World.ownsRow _ _ _ _ _ _ _ from ?_) h2
    rw [intC_append, List.length_append]
    exact h1
end Go.Proofs.YtpcnfoaoajfhlaaGreatDoor

namespace Go.Proofs.YtpcnfoaoajfhlaaGreatDoor
set_option linter.unusedVariables false
set_option linter.unusedSimpArgs false
open Go.RowKit

theorem eV_zero : eV 0 = .nilIface := by rw [eV, if_pos rfl]
theorem eV_err {n : Int} (h : n ≠ 0) : eV n = .iface 85 (.int .i64 n) := by rw [eV, if_neg h]
/-- a slice's room is not less than its length -/
def CapOk (v : Value) (n : Nat) : Prop := ∃ p c, v = .slice p n c ∧ n ≤ c ∧ c ≤ maxLen
theorem CapOk.nil : CapOk (.slice none 0 0) 0 := ⟨none, 0, rfl, Nat.le_refl _, by unfold maxLen; omega⟩
theorem OwnI.cap {B : Nat} {w : World} {v : Value} {l : List Int} (h : OwnI B w v l) : CapOk v l.length := by
  rcases h.2 with ⟨rfl, h0⟩ | ⟨g, cap, cur, rfl, _, _, hc1, hc2, _⟩
  · rw [h0]
    exact CapOk.nil
  · exact ⟨_, cap, rfl, hc1, hc2⟩

theorem hasD_hit {a : List Int} {x : Int} {j : Nat} (h : j < a.length) (hx : a[j] = x) : (a.drop j).contains x = true := by
  rw [List.drop_eq_getElem_cons h, List.contains_cons, hx]
  simp
theorem hasD_miss {a : List Int} {x : Int} {j : Nat} (h : j < a.length) (hx : ¬ a[j] = x) : (a.drop j).contains x = (a.drop (j + 1)).contains x := by
  rw [List.drop_eq_getElem_cons h, List.contains_cons]
  have : (x == a[j]) = false := by simp; exact fun h => hx h.symm
  rw [this, Bool.false_or]
set_option maxHeartbeats 4000000 in
theorem indexI_c (va : Value) (a : List Int) (x : Int) (w : World) (hra : IntsIs w va a) :
    Calls Tryz.prog 112 #[va, .int .i64 x] w fun e w' => ∃ k : Int, e = .returned (.int .i64 k) ∧ Hid (a.contains x = decide (0 ≤ k)) ∧ w' = w := by
  obtain ⟨hla, pa, capa, rfl, hrowa⟩ := hra
  have HRA : Hid (a ≠ [] → ∃ bb o, pa = some ⟨bb, o, none⟩ ∧ bb < w.heap.size ∧ ∀ j (h : j < a.length), w.cell? ⟨bb, o + j, none⟩ = some (.int .i64 a[j])) := hrowa
  clear hrowa
  obtain ⟨n, HN⟩ : ∃ n, Hid (a.length = n) := ⟨_, rfl⟩
  rw [HN.out] at hla ⊢
  have hn63 : n ≤ 9223372036854775807 := hla
  obtain ⟨R, HR⟩ : ∃ R, Hid (a.contains x = R) := ⟨_, rfl⟩
  rw [HR.out]
  go_enter Tryz.func112, Tryz.ntmps112
  go_wp2_with fail
  go_loopw [8] (fun i wr => ∃ j : Nat, j ≤ n ∧ i = .int .i64 j ∧ Hid (R = (a.drop j).contains x) ∧ wr = w) (fun i _ => n - (intOf i).toNat)
  case atStart => exact ⟨0, Nat.zero_le _, rfl, by rw [List.drop_zero]; exact HR.out.symm, rfl⟩
  case round =>
    obtain ⟨j, hj, rfl, HE, rfl⟩ := hrel
    by_cases hlt : j < n
    · have hja : j < a.length := by rw [HN.out]; exact hlt
      obtain ⟨ba, oa, rfl, hbwa, hata⟩ := HRA.out (fun h => by simp [h] at hja)
      have c0 := hata j hja
      clear hata
      have HHit : Hid (a[j] = x → R = true) := fun h => HE.out.trans (hasD_hit hja h)
      have HMiss : Hid (¬ a[j] = x → R = (a.drop (j + 1)).contains x) := fun h => HE.out.trans (hasD_miss hja h)
      obtain ⟨y, HY⟩ : ∃ y, Hid (a[j] = y) := ⟨a[j], show a[j] = a[j] from rfl⟩
      rw [HY.out] at c0 HHit HMiss
      have hlti : (j : Int) < (n : Int) := by omega
      by_cases hs : y = x
      · have HRt : Hid (R = true) := HHit.out hs
        have hxb : (x == y) = true := by simp [hs]
        clear hs
        go_wp2_with fail
        go_ret
        refine ⟨(j : Int), rfl, ?_, rfl⟩
        show R = _
        rw [HRt.out]
        simp
      · have HRt : Hid (R = (a.drop (j + 1)).contains x) := HMiss.out hs
        have hxb : (x == y) = false := by simp; exact fun h => hs h.symm
        clear hs
        go_wp2_with fail
        go_roundw
        case rel => exact ⟨j + 1, by omega, by go_num, HRt, trivial⟩
        case measure => simp [intOf]; omega
    · obtain rfl : j = n := by omega
      have HR0 : Hid (R = false) := by
        show R = false
        rw [HE.out, List.drop_eq_nil_of_le (by rw [HN.out]; exact Nat.le_refl _)]
        rfl
      go_wp2_with fail
      go_ret
      refine ⟨-1, rfl, ?_, rfl⟩
      show R = _
      rw [HR0.out]
      rfl
set_option maxHeartbeats 1000000 in
theorem containsI_c (va : Value) (a : List Int) (x : Int) (b : Bool) (w : World) (hra : IntsIs w va a) (hb : a.contains x = b) :
    Calls Tryz.prog 64 #[va, .int .i64 x] w fun e w' => e = .returned (.bool b) ∧ w' = w := by
  have HC : Hid _ := indexI_c va a x w hra
  have HB : Hid (a.contains x = b) := hb
  clear hra hb
  go_enter Tryz.func64, Tryz.ntmps64
  go_wp2_with fail
  refine Calls.mono HC.out ?_
  rintro e w1 ⟨k, rfl, HK, rfl⟩
  go_wp2_with fail
  go_ret
  refine ⟨?_, rfl⟩
  rw [← HB.out, HK.out]
  rfl

theorem IntsIs.take {w : World} {p : Option Addr} {l : List Int} {cap j cap' : Nat} {p' : Option Addr} (hr : IntsIs w (.slice p l.length cap) l) (hj : j ≤ l.length) (hp : l ≠ [] → p' = p) : IntsIs w (.slice p' j cap') (l.take j) := by
  obtain ⟨h0, q, c, e, h1⟩ := hr
  injection e with e1 e2 e3
  subst e1
  have hl : (l.take j).length = j := by simp; omega
  refine ⟨by rw [hl]; omega, p', cap', by rw [hl], fun hn => ?_⟩
  have hne : l ≠ [] := fun h => hn (by simp [h])
  rw [hp hne]
  obtain ⟨b, o, hb, hlt, hc⟩ := h1 hne
  exact ⟨b, o, hb, hlt, fun i hi => by
    have hi' : i < l.length := by rw [hl] at hi; omega
    rw [List.getElem_take]
    exact hc i hi'⟩
end Go.Proofs.YtpcnfoaoajfhlaaGreatDoor
