/-
  A row of rumors in memory, and one appended to it.
-/
import Derived.Test.YtpelbmhhppcmeafVwM
import Derived.Test.YtpelbmhhppcmeafRuH
namespace Go.Proofs.Ytpelbmhhppcmeaf
set_option linter.unusedVariables false
set_option linter.unusedSimpArgs false
open Go.RowKit Go.Lib

def Ru.val (e : Ru) : Value := .agg #[.int .i64 e.m.n, .int .i64 e.m.f, .int .i64 e.m.s, .int .i64 e.t]
def Ru.cells (e : Ru) : List Value := [.int .i64 e.m.n, .int .i64 e.m.f, .int .i64 e.m.s, .int .i64 e.t]
def rowR : List Ru → List Value
  | [] => []
  | e :: l => e.cells ++ rowR l
theorem Ru.cells_length (e : Ru) : e.cells.length = 4 := rfl
theorem rowR_append (l m : List Ru) : rowR (l ++ m) = rowR l ++ rowR m := by
  induction l with
  | nil => rfl
  | cons c l ih => simp only [List.cons_append, rowR, ih, List.append_assoc]
theorem rowR_length (l : List Ru) : (rowR l).length = l.length * 4 := by
  induction l with
  | nil => rfl
  | cons c l ih => simp only [rowR, List.length_append, Ru.cells_length, ih, List.length_cons]; omega
theorem rowR_one (l : List Ru) : ∀ u ∈ rowR l, u.oneCell' = true := by
  induction l with
  | nil => intro u hu; simp [rowR] at hu
  | cons c l ih =>
    intro u hu
    simp only [rowR, List.mem_append] at hu
    rcases hu with h | h
    · simp only [Ru.cells, List.mem_cons, List.not_mem_nil, or_false] at h
      rcases h with rfl | rfl | rfl | rfl <;> rfl
    · exact ih u h
theorem rowR_get (l : List Ru) (j : Nat) (h : j < l.length) :
    (rowR l)[j * 4]? = some (.int .i64 l[j].m.n) ∧ (rowR l)[j * 4 + 1]? = some (.int .i64 l[j].m.f) ∧ (rowR l)[j * 4 + 2]? = some (.int .i64 l[j].m.s) ∧ (rowR l)[j * 4 + 3]? = some (.int .i64 l[j].t) := by
  induction l generalizing j with
  | nil => simp at h
  | cons c l ih =>
    cases j with
    | zero => simp [rowR, Ru.cells]
    | succ j =>
      have e := ih j (by simpa using h)
      have e0 : (j + 1) * 4 = j * 4 + 4 := by omega
      simp only [rowR, Ru.cells, List.cons_append, List.nil_append, e0, List.getElem_cons_succ]
      have e1 : j * 4 + 4 + 1 = (j * 4 + 1) + 4 := by omega
      have e2 : j * 4 + 4 + 2 = (j * 4 + 2) + 4 := by omega
      have e3 : j * 4 + 4 + 3 = (j * 4 + 3) + 4 := by omega
      rw [e1, e2, e3]
      simpa using e
theorem rowR_take (l : List Ru) (i : Nat) : rowR (l.take i) = (rowR l).take (i * 4) := by
  induction l generalizing i with
  | nil => simp [rowR]
  | cons c l ih =>
    cases i with
    | zero => simp [rowR]
    | succ i =>
      rw [List.take_succ_cons, rowR, ih, rowR, show (i + 1) * 4 = c.cells.length + i * 4 by rw [Ru.cells_length]; omega, List.take_length_add_append]
theorem rowR_drop (l : List Ru) (i : Nat) : rowR (l.drop i) = (rowR l).drop (i * 4) := by
  induction l generalizing i with
  | nil => simp [rowR]
  | cons c l ih =>
    cases i with
    | zero => simp [rowR]
    | succ i =>
      rw [List.drop_succ_cons, ih, rowR, show (i + 1) * 4 = c.cells.length + i * 4 by rw [Ru.cells_length]; omega, List.drop_length_add_append]
/-- a rumor's four cells at a place -/
structure RuAt (w : World) (b o : Nat) (e : Ru) : Prop where
  c0 : w.cell? ⟨b, o, none⟩ = some (.int .i64 e.m.n)
  c1 : w.cell? ⟨b, o + 1, none⟩ = some (.int .i64 e.m.f)
  c2 : w.cell? ⟨b, o + 2, none⟩ = some (.int .i64 e.m.s)
  c3 : w.cell? ⟨b, o + 3, none⟩ = some (.int .i64 e.t)
theorem RuAt.of_block {w w' : World} {b o : Nat} {e : Ru} (h : RuAt w b o e) (hb : w'.heap[b]? = w.heap[b]?) : RuAt w' b o e :=
  ⟨(World.cell?_of_block (a := ⟨b, o, none⟩) hb).trans h.c0, (World.cell?_of_block (a := ⟨b, o + 1, none⟩) hb).trans h.c1, (World.cell?_of_block (a := ⟨b, o + 2, none⟩) hb).trans h.c2, (World.cell?_of_block (a := ⟨b, o + 3, none⟩) hb).trans h.c3⟩
/-- a slice that holds a row of rumors -/
def RusIs (w : World) (v : Value) (l : List Ru) : Prop :=
  l.length ≤ maxLen ∧ ∃ p cap, v = .slice p l.length cap ∧ (l ≠ [] → ∃ b o, p = some ⟨b, o, none⟩ ∧ b < w.heap.size ∧ ∀ j (h : j < l.length), RuAt w b (o + j * 4) l[j])
theorem RusIs.blocks {w w' : World} {v : Value} {l : List Ru} (h : RusIs w v l) (hs : w.heap.size ≤ w'.heap.size) (hb : ∀ c, v.ownBlock = some c → c < w.heap.size → w'.heap[c]? = w.heap[c]?) : RusIs w' v l := by
  obtain ⟨h0, p, cap, rfl, h1⟩ := h
  refine ⟨h0, p, cap, rfl, fun hn => ?_⟩
  obtain ⟨b, o, rfl, hlt, hc⟩ := h1 hn
  exact ⟨b, o, rfl, Nat.lt_of_lt_of_le hlt hs, fun j hj => (hc j hj).of_block (hb b rfl hlt)⟩
theorem RusIs.below {w w' : World} {v : Value} {l : List Ru} (h : RusIs w v l) (hb : Below w.heap.size w w') : RusIs w' v l :=
  h.blocks hb.size (fun c _ hc => hb.block c hc)
theorem RusIs.drew {w : World} {v : Value} {l : List Ru} (h : RusIs w v l) : RusIs w.drew v l := h.blocks (Nat.le_refl _) (fun _ _ _ => rfl)
theorem RusIs.nil (w : World) : RusIs w (.slice none 0 0) [] := ⟨by simp, none, 0, rfl, fun h => absurd rfl h⟩
/-- a row that the call owns is one -/
theorem RusIs.own {w : World} {B : Nat} {v : Value} {l : List Ru} (h : w.ownsRow B 35 4 v l.length (rowR l)) : RusIs w v l := by
  have hcell : ∀ g, v.ownBlock = some g → ∀ j u, (rowR l)[j]? = some u → w.cell? ⟨g, j, none⟩ = some u := fun g hg j u hu => by
    have := h.cells (g := g) hg j u hu
    simpa [Addr.add_lit] using this
  rcases h.2 with ⟨rfl, h0⟩ | ⟨g, cap, cur, rfl, _, hg, hc1, hc2, _⟩
  · rw [List.length_eq_zero_iff.1 h0]
    exact RusIs.nil w
  · refine ⟨Nat.le_trans hc1 hc2, _, cap, rfl, fun _ => ⟨g, 0, rfl, (Array.getElem?_eq_some_iff.1 hg).1, fun j hj => ?_⟩⟩
    obtain ⟨a0, a1, a2, a3⟩ := rowR_get l j hj
    exact ⟨by simpa using hcell g rfl _ _ a0, by simpa using hcell g rfl _ _ a1, by simpa using hcell g rfl _ _ a2, by simpa using hcell g rfl _ _ a3⟩
theorem RusIs.cells {w : World} {b o cap : Nat} {l : List Ru} (hc : ∀ j (h : j < l.length), RuAt w b (o + j * 4) l[j]) : ∀ i u, (rowR l)[i]? = some u → w.cell? ⟨b, o + i, none⟩ = some u := by
  intro i u hu
  have hi : i < l.length * 4 := by
    have := (List.getElem?_eq_some_iff.1 hu).1
    rwa [rowR_length] at this
  have hj : i / 4 < l.length := by omega
  obtain ⟨a0, a1, a2, a3⟩ := rowR_get l (i / 4) hj
  have hr : i = i / 4 * 4 + i % 4 := by omega
  have h5 : i % 4 < 4 := by omega
  obtain ⟨x0, x1, x2, x3⟩ := hc (i / 4) hj
  generalize i % 4 = r at hr h5
  rw [hr] at hu ⊢
  match r, h5 with
  | 0, _ => rw [Nat.add_zero] at hu ⊢; rw [a0] at hu; rw [← Option.some.inj hu]; exact x0
  | 1, _ => rw [a1] at hu; rw [← Option.some.inj hu, ← Nat.add_assoc]; exact x1
  | 2, _ => rw [a2] at hu; rw [← Option.some.inj hu, ← Nat.add_assoc]; exact x2
  | 3, _ => rw [a3] at hu; rw [← Option.some.inj hu, ← Nat.add_assoc]; exact x3
theorem infoRu : (Try.prog.info? 35).map (fun i => (i.zero, i.size, i.bytes)) = some (some (.agg #[.int .i64 0, .int .i64 0, .int .i64 0, .int .i64 0]), 4, 32) := by kernel_rfl
/-- a row of rumors of the call's own -/
def OwnR (B : Nat) (w : World) (v : Value) (l : List Ru) : Prop := w.ownsRow B 35 4 v l.length (rowR l)
theorem OwnR.nil (B : Nat) (w : World) : OwnR B w (.slice none 0 0) [] := World.ownsRow_nil w B _ 4
theorem OwnR.below {B : Nat} {w w' : World} {v : Value} {l : List Ru} (h : OwnR B w v l) (hb : Below w.heap.size w w') : OwnR B w' v l := ownsRow_below h hb
theorem OwnR.from {B : Nat} {w : World} {v : Value} {l : List Ru} (h : OwnR B w v l) (c : Nat) (hc : v.ownBlock = some c) : B ≤ c := ownsRow_from h c hc
theorem OwnR.base {B C : Nat} {w : World} {v : Value} {l : List Ru} (h : OwnR B w v l) (hC : C ≤ B) : OwnR C w v l := ownsRow_base h hC
theorem OwnR.rus {B : Nat} {w : World} {v : Value} {l : List Ru} (h : OwnR B w v l) : RusIs w v l := RusIs.own h
theorem wp_appR {ops : Array Oper} {rest : List Oper} {o : Oper} {ac : Act} {Q : Exit → Act → World → Prop} (w : World) (hgd : o.guard = none) (s x : Operand)
    (ho : o.op = .call { callee := .builtin .append, args := #[s, x], argTypes := #[27, 27] }) (B : Nat) (v : Value) (out : List Ru) (e : Ru) (hs : ac.eval s = v)
    (hown : OwnR B w v out) (vb : Nat) (hx : ac.eval x = .slice (some ⟨vb, 0, none⟩) 1 1) (hv : w.heap[vb]? = some (.cells e.cells.toArray 35 (0, 0))) (hl : out.length ≤ 2000) (hB : B ≤ w.heap.size)
    (h : ∀ v' w', OwnR B w' v' (out ++ [e]) → Hid (w.grownBy w' v.ownBlock) → wpList Try.prog ops Q rest (ac.put o.dst v') w') : wpList Try.prog ops Q (o :: rest) ac w := by
  obtain ⟨i0, hi0, hz0, hz1, hz2⟩ := info_parts infoRu
  have q3 : ∀ (u : Value), u ∈ e.cells → u.oneCell' = true := fun u hu => rowR_one [e] u (by simpa [rowR] using hu)
  refine wpList_append_own w hgd s x 27 ho B 35 i0 _ 4 32 Try.underlying27 hi0 hz0 hz1 hz2 rfl (by omega) v out.length (rowR out) hs hown ⟨vb, 0, none⟩ 1 1 e.cells hx rfl (World.news_of_block hv) q3 (by unfold maxLen; omega) (by omega) hB ?_
  intro v' w' h1 h2 _
  refine h v' w' (show World.ownsRow _ _ _ _ _ _ _ from ?_) h2
  have hr : rowR (out ++ [e]) = rowR out ++ e.cells := by rw [rowR_append]; simp [rowR]
  rw [hr, List.length_append]
  exact h1
/-- a rumor's four cells at a block of its own -/
structure BoxR (w : World) (b : Nat) (n f s t : Int) : Prop where
  c0 : w.cell? ⟨b, 0, none⟩ = some (.int .i64 n)
  c1 : w.cell? ⟨b, 1, none⟩ = some (.int .i64 f)
  c2 : w.cell? ⟨b, 2, none⟩ = some (.int .i64 s)
  c3 : w.cell? ⟨b, 3, none⟩ = some (.int .i64 t)
  fz : ∀ j, w.frozen? ⟨b, j, none⟩ = false
theorem BoxR.of_block {w w' : World} {b : Nat} {n f s t : Int} (h : BoxR w b n f s t) (hb : w'.heap[b]? = w.heap[b]?) : BoxR w' b n f s t :=
  ⟨(World.cell?_of_block (a := ⟨b, 0, none⟩) hb).trans h.c0, (World.cell?_of_block (a := ⟨b, 1, none⟩) hb).trans h.c1, (World.cell?_of_block (a := ⟨b, 2, none⟩) hb).trans h.c2, (World.cell?_of_block (a := ⟨b, 3, none⟩) hb).trans h.c3, fun j => (World.frozen?_of_block (a := ⟨b, j, none⟩) hb).trans (h.fz j)⟩
theorem BoxR.lt {w : World} {b : Nat} {n f s t : Int} (h : BoxR w b n f s t) : b < w.heap.size := World.block_lt_of_cell? w _ h.c0
theorem BoxR.below {w w' : World} {b B : Nat} {n f s t : Int} (h : BoxR w b n f s t) (hb : Below B w w') (hB : b < B) : BoxR w' b n f s t := h.of_block (hb.block b hB)
theorem BoxR.alloc {w : World} {b : Nat} {n f s t : Int} (h : BoxR w b n f s t) (o : Obj) : BoxR (w.alloc o) b n f s t := h.of_block (Below.heap_alloc _ _ _ h.lt)
theorem BoxR.drew {w : World} {b : Nat} {n f s t : Int} (h : BoxR w b n f s t) : BoxR w.drew b n f s t := h.of_block rfl
theorem boxR_new (w : World) (n f s t : Int) (b : Nat) (h : b = w.heap.size) : BoxR (w.alloc (.cells #[.int .i64 n, .int .i64 f, .int .i64 s, .int .i64 t] 35)) b n f s t := by
  subst h
  exact ⟨by simp, by simp, by simp, by simp, fun j => by simp⟩
/-- .. of which the last was stored anew -/
theorem BoxR.told {w : World} {b : Nat} {n f s t : Int} (h : BoxR w b n f s t) (x : Int) : BoxR (w.setCell ⟨b, 3, none⟩ (.int .i64 x)) b n f s x := by
  obtain ⟨h0, h1, h2, h3, hf⟩ := h
  refine ⟨?_, ?_, ?_, World.cell?_setCell_same _ _ _ h3, fun j => by simp only [World.frozen?_setCell]; exact hf j⟩
  · rw [World.cell?_setCell_other _ _ _ _ (by simp)]; exact h0
  · rw [World.cell?_setCell_other _ _ _ _ (by simp)]; exact h1
  · rw [World.cell?_setCell_other _ _ _ _ (by simp)]; exact h2
def Ru.same (x y : Ru) : Bool := Mm.same x.m y.m && (x.t == y.t)
theorem Ru.same_iff (x y : Ru) : x.same y = true ↔ x = y := by
  obtain ⟨a, t⟩ := x
  obtain ⟨b, u⟩ := y
  unfold Ru.same
  rw [Bool.and_eq_true, Mm.same_iff]
  simp
end Go.Proofs.Ytpelbmhhppcmeaf
