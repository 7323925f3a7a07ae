/-
  A row of points in memory, and one appended to it.
-/
import Derived.Test.YtpcnfoaoajfhlaaGreatDoorQoat
import Derived.Test.YtpcnfoaoajfhlaaGreatDoorQoau
namespace Go.Proofs.YtpcnfoaoajfhlaaGreatDoor
set_option linter.unusedVariables false
set_option linter.unusedSimpArgs false
set_option linter.unusedVariables false
set_option linter.unusedSimpArgs false
open Go.RowKit

def Pt.val (e : Pt) : Value := .agg #[.int .i64 e.p, .int .i64 e.n]
def Pt.cells (e : Pt) : List Value := [.int .i64 e.p, .int .i64 e.n]
def rowT : List Pt → List Value
  | [] => []
  | e :: l => e.cells ++ rowT l
theorem Pt.cells_length (e : Pt) : e.cells.length = 2 := rfl
theorem rowT_append (l m : List Pt) : rowT (l ++ m) = rowT l ++ rowT m := by
  induction l with
  | nil => rfl
  | cons c l ih => simp only [List.cons_append, rowT, ih, List.append_assoc]
theorem rowT_length (l : List Pt) : (rowT l).length = l.length * 2 := by
  induction l with
  | nil => rfl
  | cons c l ih => simp only [rowT, List.length_append, Pt.cells_length, ih, List.length_cons]; omega
theorem rowT_one (l : List Pt) : ∀ u ∈ rowT l, u.oneCell' = true := by
  induction l with
  | nil => intro u hu; simp [rowT] at hu
  | cons c l ih =>
    intro u hu
    simp only [rowT, List.mem_append] at hu
    rcases hu with h | h
    · simp only [Pt.cells, List.mem_cons, List.not_mem_nil, or_false] at h
      rcases h with rfl | rfl <;> rfl
    · exact ih u h
theorem rowT_get (l : List Pt) (j : Nat) (h : j < l.length) : (rowT l)[j * 2]? = some (.int .i64 l[j].p) ∧ (rowT l)[j * 2 + 1]? = some (.int .i64 l[j].n) := by
  induction l generalizing j with
  | nil => simp at h
  | cons c l ih =>
    cases j with
    | zero => simp [rowT, Pt.cells]
    | succ j =>
      have e := ih j (by simpa using h)
      have e0 : (j + 1) * 2 = j * 2 + 2 := by omega
      simp only [rowT, Pt.cells, List.cons_append, List.nil_append, e0, List.getElem_cons_succ]
      have e1 : j * 2 + 2 + 1 = (j * 2 + 1) + 2 := by omega
      rw [e1]
      simpa using e
/-- a point's two cells at a place -/
structure PtAt (w : World) (b o : Nat) (e : Pt) : Prop where
  c0 : w.cell? ⟨b, o, none⟩ = some (.int .i64 e.p)
  c1 : w.cell? ⟨b, o + 1, none⟩ = some (.int .i64 e.n)
theorem PtAt.of_block {w w' : World} {b o : Nat} {e : Pt} (h : PtAt w b o e) (hb : w'.heap[b]? = w.heap[b]?) : PtAt w' b o e :=
  ⟨(World.cell?_of_block (a := ⟨b, o, none⟩) hb).trans h.c0, (World.cell?_of_block (a := ⟨b, o + 1, none⟩) hb).trans h.c1⟩
/-- a slice that holds a row of points -/
def PtsIs (w : World) (v : Value) (l : List Pt) : Prop :=
  l.length ≤ maxLen ∧ ∃ p cap, v = .slice p l.length cap ∧ (l ≠ [] → ∃ b o, p = some ⟨b, o, none⟩ ∧ b < w.heap.size ∧ ∀ j (h : j < l.length), PtAt w b (o + j * 2) l[j])
theorem PtsIs.blocks {w w' : World} {v : Value} {l : List Pt} (h : PtsIs w v l) (hs : w.heap.size ≤ w'.heap.size) (hb : ∀ c, v.ownBlock = some c → c < w.heap.size → w'.heap[c]? = w.heap[c]?) : PtsIs w' v l := by
  obtain ⟨h0, p, cap, rfl, h1⟩ := h
  refine ⟨h0, p, cap, rfl, fun hn => ?_⟩
  obtain ⟨b, o, rfl, hlt, hc⟩ := h1 hn
  exact ⟨b, o, rfl, Nat.lt_of_lt_of_le hlt hs, fun j hj => (hc j hj).of_block (hb b rfl hlt)⟩
theorem PtsIs.below {w w' : World} {v : Value} {l : List Pt} (h : PtsIs w v l) (hb : Below w.heap.size w w') : PtsIs w' v l :=
  h.blocks hb.size (fun c _ hc => hb.block c hc)
theorem PtsIs.nil (w : World) : PtsIs w (.slice none 0 0) [] := ⟨by simp, none, 0, rfl, fun h => absurd rfl h⟩
/-- a row of points of the call's own -/
def OwnP (B : Nat) (w : World) (v : Value) (l : List Pt) : Prop := w.ownsRow B 110 2 v l.length (rowT l)
theorem OwnP.nil (B : Nat) (w : World) : OwnP B w (.slice none 0 0) [] := World.ownsRow_nil w B _ 2
theorem OwnP.below {B : Nat} {w w' : World} {v : Value} {l : List Pt} (h : OwnP B w v l) (hb : Below w.heap.size w w') : OwnP B w' v l := ownsRow_belowF h hb
theorem OwnP.from {B : Nat} {w : World} {v : Value} {l : List Pt} (h : OwnP B w v l) (c : Nat) (hc : v.ownBlock = some c) : B ≤ c := ownsRow_fromF h c hc
theorem OwnP.pts {w : World} {B : Nat} {v : Value} {l : List Pt} (h : OwnP B w v l) : PtsIs w v l := by
  have hcell : ∀ g, v.ownBlock = some g → ∀ j u, (rowT l)[j]? = some u → w.cell? ⟨g, j, none⟩ = some u := fun g hg j u hu => by
    have := h.cells (g := g) hg j u hu
    simpa [Addr.add_lit] using this
  rcases h.2 with ⟨rfl, h0⟩ | ⟨g, cap, cur, rfl, _, hg, hc1, hc2, _⟩
  · rw [List.length_eq_zero_iff.1 h0]
    exact PtsIs.nil w
  · refine ⟨Nat.le_trans hc1 hc2, _, cap, rfl, fun _ => ⟨g, 0, rfl, (Array.getElem?_eq_some_iff.1 hg).1, fun j hj => ?_⟩⟩
    obtain ⟨a0, a1⟩ := rowT_get l j hj
    exact ⟨by simpa using hcell g rfl _ _ a0, by simpa using hcell g rfl _ _ a1⟩
theorem infoPt : (Tryz.prog.info? 110).map (fun i => (i.zero, i.size, i.bytes)) = some (some (.agg #[.int .i64 0, .int .i64 0]), 2, 16) := by kernel_rfl
theorem wp_appP {ops : Array Oper} {rest : List Oper} {o : Oper} {ac : Act} {Q : Exit → Act → World → Prop} (w : World) (hgd : o.guard = none) (s x : Operand)
    (ho : o.op = .call { callee := .builtin .append, args := #[s, x], argTypes := #[59, 59] }) (B : Nat) (v : Value) (out : List Pt) (e : Pt) (hs : ac.eval s = v)
    (hown : OwnP B w v out) (vb : Nat) (hx : ac.eval x = .slice (some ⟨vb, 0, none⟩) 1 1) (hv : w.heap[vb]? = some (.cells e.cells.toArray 110 (0, 0))) (hl : out.length ≤ 2000) (hB : B ≤ w.heap.size)
    (h : ∀ v' w', OwnP B w' v' (out ++ [e]) → Hid (w.grownBy w' v.ownBlock) → wpList Tryz.prog ops Q rest (ac.put o.dst v') w') : wpList Tryz.prog ops Q (o :: rest) ac w := by
  obtain ⟨i0, hi0, hz0, hz1, hz2⟩ := info_parts infoPt
  have q3 : ∀ (u : Value), u ∈ e.cells → u.oneCell' = true := fun u hu => rowT_one [e] u (by simpa [rowT] using hu)
  refine wpList_append_own w hgd s x 59 ho B 110 i0 _ 2 16 Tryz.underlying59 hi0 hz0 hz1 hz2 rfl (by omega) v out.length (rowT out) hs hown ⟨vb, 0, none⟩ 1 1 e.cells hx rfl (World.news_of_block hv) q3 (by unfold maxLen; omega) (by omega) hB ?_
  intro v' w' h1 h2 _
  refine h v' w' (show World.ownsRow _ _ _ _ _ _ _ from ?_) h2
  have hr : rowT (out ++ [e]) = rowT out ++ e.cells := by rw [rowT_append]; simp [rowT]
  rw [hr, List.length_append]
  exact h1
/-- a point's two cells at a block of its own -/
structure BoxP (w : World) (b : Nat) (p n : Int) : Prop where
  c0 : w.cell? ⟨b, 0, none⟩ = some (.int .i64 p)
  c1 : w.cell? ⟨b, 1, none⟩ = some (.int .i64 n)
  fz : ∀ j, w.frozen? ⟨b, j, none⟩ = false
theorem BoxP.of_block {w w' : World} {b : Nat} {p n : Int} (h : BoxP w b p n) (hb : w'.heap[b]? = w.heap[b]?) : BoxP w' b p n :=
  ⟨(World.cell?_of_block (a := ⟨b, 0, none⟩) hb).trans h.c0, (World.cell?_of_block (a := ⟨b, 1, none⟩) hb).trans h.c1, fun j => (World.frozen?_of_block (a := ⟨b, j, none⟩) hb).trans (h.fz j)⟩
theorem BoxP.lt {w : World} {b : Nat} {p n : Int} (h : BoxP w b p n) : b < w.heap.size := World.block_lt_of_cell? w _ h.c0
theorem BoxP.below {w w' : World} {b B : Nat} {p n : Int} (h : BoxP w b p n) (hb : Below B w w') (hB : b < B) : BoxP w' b p n := h.of_block (hb.block b hB)
theorem boxP_new (w : World) (p n : Int) (b : Nat) (h : b = w.heap.size) : BoxP (w.alloc (.cells #[.int .i64 p, .int .i64 n] 110)) b p n := by
  subst h
  exact ⟨by simp, by simp, fun j => by simp⟩
end Go.Proofs.YtpcnfoaoajfhlaaGreatDoor
