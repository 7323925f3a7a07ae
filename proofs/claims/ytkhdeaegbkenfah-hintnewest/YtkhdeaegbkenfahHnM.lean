/-
  A row of hints in memory, and one appended to it.
-/
import Derived.Test.YtkhdeaegbkenfahHnP
import Derived.Lib.Walk
import Derived.Lib.SliceRun
import Derived.Maps.AppendAt
import Derived.Deep.AppendLies
namespace Go.Proofs.Ytkhdeaegbkenfah
set_option linter.unusedVariables false
set_option linter.unusedSimpArgs false
open Go.RowKit Go.Lib

def Hn.val (e : Hn) : Value := .agg #[.int .i64 e.n, .int .i64 e.k, .int .i64 e.v]
def Hn.cells (e : Hn) : List Value := [.int .i64 e.n, .int .i64 e.k, .int .i64 e.v]
def rowH : List Hn → List Value
  | [] => []
  | e :: l => e.cells ++ rowH l
theorem Hn.cells_length (e : Hn) : e.cells.length = 3 := rfl
theorem rowH_append (l m : List Hn) : rowH (l ++ m) = rowH l ++ rowH m := by
  induction l with
  | nil => rfl
  | cons c l ih => simp only [List.cons_append, rowH, ih, List.append_assoc]
theorem rowH_length (l : List Hn) : (rowH l).length = l.length * 3 := by
  induction l with
  | nil => rfl
  | cons c l ih => simp only [rowH, List.length_append, Hn.cells_length, ih, List.length_cons]; omega
theorem rowH_one (l : List Hn) : ∀ u ∈ rowH l, u.oneCell' = true := by
  induction l with
  | nil => intro u hu; simp [rowH] at hu
  | cons c l ih =>
    intro u hu
    simp only [rowH, List.mem_append] at hu
    rcases hu with h | h
    · simp only [Hn.cells, List.mem_cons, List.not_mem_nil, or_false] at h
      rcases h with rfl | rfl | rfl <;> rfl
    · exact ih u h
theorem rowH_get (l : List Hn) (j : Nat) (h : j < l.length) :
    (rowH l)[j * 3]? = some (.int .i64 l[j].n) ∧ (rowH l)[j * 3 + 1]? = some (.int .i64 l[j].k) ∧ (rowH l)[j * 3 + 2]? = some (.int .i64 l[j].v) := by
  induction l generalizing j with
  | nil => simp at h
  | cons c l ih =>
    cases j with
    | zero => simp [rowH, Hn.cells]
    | succ j =>
      have e := ih j (by simpa using h)
      have e0 : (j + 1) * 3 = j * 3 + 3 := by omega
      simp only [rowH, Hn.cells, List.cons_append, List.nil_append, e0, List.getElem_cons_succ]
      have e1 : j * 3 + 3 + 1 = (j * 3 + 1) + 3 := by omega
      have e2 : j * 3 + 3 + 2 = (j * 3 + 2) + 3 := by omega
      rw [e1, e2]
      simpa using e
theorem rowH_take (l : List Hn) (i : Nat) : rowH (l.take i) = (rowH l).take (i * 3) := by
  induction l generalizing i with
  | nil => simp [rowH]
  | cons c l ih =>
    cases i with
    | zero => simp [rowH]
    | succ i =>
      rw [List.take_succ_cons, rowH, ih, rowH, show (i + 1) * 3 = c.cells.length + i * 3 by rw [Hn.cells_length]; omega, List.take_length_add_append]
theorem rowH_drop (l : List Hn) (i : Nat) : rowH (l.drop i) = (rowH l).drop (i * 3) := by
  induction l generalizing i with
  | nil => simp [rowH]
  | cons c l ih =>
    cases i with
    | zero => simp [rowH]
    | succ i =>
      rw [List.drop_succ_cons, ih, rowH, show (i + 1) * 3 = c.cells.length + i * 3 by rw [Hn.cells_length]; omega, List.drop_length_add_append]
/-- a hint's three cells at a place -/
structure HnAt (w : World) (b o : Nat) (e : Hn) : Prop where
  c0 : w.cell? ⟨b, o, none⟩ = some (.int .i64 e.n)
  c1 : w.cell? ⟨b, o + 1, none⟩ = some (.int .i64 e.k)
  c2 : w.cell? ⟨b, o + 2, none⟩ = some (.int .i64 e.v)
theorem HnAt.of_block {w w' : World} {b o : Nat} {e : Hn} (h : HnAt w b o e) (hb : w'.heap[b]? = w.heap[b]?) : HnAt w' b o e :=
  ⟨(World.cell?_of_block (a := ⟨b, o, none⟩) hb).trans h.c0, (World.cell?_of_block (a := ⟨b, o + 1, none⟩) hb).trans h.c1, (World.cell?_of_block (a := ⟨b, o + 2, none⟩) hb).trans h.c2⟩
/-- a slice that holds a row of hints -/
def HnsIs (w : World) (v : Value) (l : List Hn) : Prop :=
  l.length ≤ maxLen ∧ ∃ p cap, v = .slice p l.length cap ∧ (l ≠ [] → ∃ b o, p = some ⟨b, o, none⟩ ∧ b < w.heap.size ∧ ∀ j (h : j < l.length), HnAt w b (o + j * 3) l[j])
theorem HnsIs.blocks {w w' : World} {v : Value} {l : List Hn} (h : HnsIs w v l) (hs : w.heap.size ≤ w'.heap.size) (hb : ∀ c, v.ownBlock = some c → c < w.heap.size → w'.heap[c]? = w.heap[c]?) : HnsIs w' v l := by
  obtain ⟨h0, p, cap, rfl, h1⟩ := h
  refine ⟨h0, p, cap, rfl, fun hn => ?_⟩
  obtain ⟨b, o, rfl, hlt, hc⟩ := h1 hn
  exact ⟨b, o, rfl, Nat.lt_of_lt_of_le hlt hs, fun j hj => (hc j hj).of_block (hb b rfl hlt)⟩
theorem HnsIs.below {w w' : World} {v : Value} {l : List Hn} (h : HnsIs w v l) (hb : Below w.heap.size w w') : HnsIs w' v l :=
  h.blocks hb.size (fun c _ hc => hb.block c hc)
theorem HnsIs.drew {w : World} {v : Value} {l : List Hn} (h : HnsIs w v l) : HnsIs w.drew v l := h.blocks (Nat.le_refl _) (fun _ _ _ => rfl)
theorem HnsIs.nil (w : World) : HnsIs w (.slice none 0 0) [] := ⟨by simp, none, 0, rfl, fun h => absurd rfl h⟩
/-- a row that the call owns is one -/
theorem HnsIs.own {w : World} {B : Nat} {v : Value} {l : List Hn} (h : w.ownsRow B 39 3 v l.length (rowH l)) : HnsIs w v l := by
  have hcell : ∀ g, v.ownBlock = some g → ∀ j u, (rowH l)[j]? = some u → w.cell? ⟨g, j, none⟩ = some u := fun g hg j u hu => by
    have := h.cells (g := g) hg j u hu
    simpa [Addr.add_lit] using this
  rcases h.2 with ⟨rfl, h0⟩ | ⟨g, cap, cur, rfl, _, hg, hc1, hc2, _⟩
  · rw [List.length_eq_zero_iff.1 h0]
    exact HnsIs.nil w
  · refine ⟨Nat.le_trans hc1 hc2, _, cap, rfl, fun _ => ⟨g, 0, rfl, (Array.getElem?_eq_some_iff.1 hg).1, fun j hj => ?_⟩⟩
    obtain ⟨a0, a1, a2⟩ := rowH_get l j hj
    exact ⟨by simpa using hcell g rfl _ _ a0, by simpa using hcell g rfl _ _ a1, by simpa using hcell g rfl _ _ a2⟩
theorem HnsIs.cells {w : World} {b o cap : Nat} {l : List Hn} (hc : ∀ j (h : j < l.length), HnAt w b (o + j * 3) l[j]) : ∀ i u, (rowH l)[i]? = some u → w.cell? ⟨b, o + i, none⟩ = some u := by
  intro i u hu
  have hi : i < l.length * 3 := by
    have := (List.getElem?_eq_some_iff.1 hu).1
    rwa [rowH_length] at this
  have hj : i / 3 < l.length := by omega
  obtain ⟨a0, a1, a2⟩ := rowH_get l (i / 3) hj
  have hr : i = i / 3 * 3 + i % 3 := by omega
  have h5 : i % 3 < 3 := by omega
  obtain ⟨x0, x1, x2⟩ := hc (i / 3) hj
  generalize i % 3 = r at hr h5
  rw [hr] at hu ⊢
  match r, h5 with
  | 0, _ => rw [Nat.add_zero] at hu ⊢; rw [a0] at hu; rw [← Option.some.inj hu]; exact x0
  | 1, _ => rw [a1] at hu; rw [← Option.some.inj hu, ← Nat.add_assoc]; exact x1
  | 2, _ => rw [a2] at hu; rw [← Option.some.inj hu, ← Nat.add_assoc]; exact x2
theorem infoHn : (Try.prog.info? 39).map (fun i => (i.zero, i.size, i.bytes)) = some (some (.agg #[.int .i64 0, .int .i64 0, .int .i64 0]), 3, 24) := by kernel_rfl
theorem ownsRow_below {w w' : World} {B : Nat} {e : TypeId} {size : Nat} {v : Value} {n : Nat} {xs : List Value} (h : w.ownsRow B e size v n xs) (hb : Below w.heap.size w w') : w'.ownsRow B e size v n xs := by
  refine ⟨h.1, ?_⟩
  rcases h.2 with hn | ⟨g, cap, cur, rfl, h1, hg, rest⟩
  · exact .inl hn
  · exact .inr ⟨g, cap, cur, rfl, h1, (hb.block g (Array.getElem?_eq_some_iff.1 hg).1).trans hg, rest⟩
theorem ownsRow_lt {w : World} {B : Nat} {e : TypeId} {size : Nat} {v : Value} {n : Nat} {xs : List Value} (h : w.ownsRow B e size v n xs) (g : Nat) (hg : v.ownBlock = some g) : g < w.heap.size := by
  rcases h.2 with ⟨rfl, _⟩ | ⟨g', cap, cur, rfl, _, hg', _⟩
  · cases hg
  · obtain rfl : g' = g := by simpa [Value.ownBlock] using hg
    exact (Array.getElem?_eq_some_iff.1 hg').1
theorem ownsRow_base {w : World} {B C : Nat} {e : TypeId} {size : Nat} {v : Value} {n : Nat} {xs : List Value} (h : w.ownsRow B e size v n xs) (hC : C ≤ B) : w.ownsRow C e size v n xs := by
  refine ⟨h.1, ?_⟩
  rcases h.2 with hn | ⟨g, cap, cur, rfl, h1, hg, rest⟩
  · exact .inl hn
  · exact .inr ⟨g, cap, cur, rfl, Nat.le_trans hC h1, hg, rest⟩
theorem ownsRow_from {w : World} {B : Nat} {e : TypeId} {size : Nat} {v : Value} {n : Nat} {xs : List Value} (h : w.ownsRow B e size v n xs) (c : Nat) (hc : v.ownBlock = some c) : B ≤ c := by
  rcases h.2 with ⟨rfl, _⟩ | ⟨g', cap, cur, rfl, h1, _⟩
  · cases hc
  · obtain rfl : g' = c := by simpa [Value.ownBlock] using hc
    exact h1
theorem below_grown {B : Nat} {w w1 w' : World} {v : Value} (h : Below B w w1) (hB : B ≤ w.heap.size) (hg : w1.grownBy w' v.ownBlock) (hv : ∀ c, v.ownBlock = some c → B ≤ c) : Below B w w' :=
  h.trans ⟨hg.os, hg.tape, hg.output, hg.size, fun c hc => hg.block c (Nat.lt_of_lt_of_le hc (Nat.le_trans hB h.size)) (fun e => by have := hv c e.symm; omega)⟩
theorem below_undrew {w w' : World} {B : Nat} (h : Below B w.drew w') : Below B w w' := ⟨h.os, h.tape, h.output, h.size, h.block⟩
theorem below_drewN (B : Nat) (w : World) (n : Nat) : Below B w (w.drewN n) := ⟨rfl, rfl, rfl, Nat.le_refl _, fun _ _ => rfl⟩
theorem grownBy_of_below {w w' : World} {r : Option Nat} (h : Below w.heap.size w w') : w.grownBy w' r := ⟨h.os, h.tape, h.output, h.size, fun k hk _ => h.block k hk⟩
theorem grownBy_after {w w1 w' : World} {r : Option Nat} (h : Below w.heap.size w w1) (h' : w1.grownBy w' r) : w.grownBy w' r :=
  ⟨h'.os.trans h.os, h'.tape.trans h.tape, h'.output.trans h.output, Nat.le_trans h.size h'.size, fun k hk hne => (h'.block k (Nat.lt_of_lt_of_le hk h.size) hne).trans (h.block k hk)⟩
/-- a row of hints of the call's own -/
def OwnH (B : Nat) (w : World) (v : Value) (l : List Hn) : Prop := w.ownsRow B 39 3 v l.length (rowH l)
theorem OwnH.nil (B : Nat) (w : World) : OwnH B w (.slice none 0 0) [] := World.ownsRow_nil w B _ 3
theorem OwnH.below {B : Nat} {w w' : World} {v : Value} {l : List Hn} (h : OwnH B w v l) (hb : Below w.heap.size w w') : OwnH B w' v l := ownsRow_below h hb
theorem OwnH.from {B : Nat} {w : World} {v : Value} {l : List Hn} (h : OwnH B w v l) (c : Nat) (hc : v.ownBlock = some c) : B ≤ c := ownsRow_from h c hc
theorem OwnH.base {B C : Nat} {w : World} {v : Value} {l : List Hn} (h : OwnH B w v l) (hC : C ≤ B) : OwnH C w v l := ownsRow_base h hC
theorem OwnH.hns {B : Nat} {w : World} {v : Value} {l : List Hn} (h : OwnH B w v l) : HnsIs w v l := HnsIs.own h
theorem wp_appH {ops : Array Oper} {rest : List Oper} {o : Oper} {ac : Act} {Q : Exit → Act → World → Prop} (w : World) (hgd : o.guard = none) (s x : Operand)
    (ho : o.op = .call { callee := .builtin .append, args := #[s, x], argTypes := #[34, 34] }) (B : Nat) (v : Value) (out : List Hn) (e : Hn) (hs : ac.eval s = v)
    (hown : OwnH B w v out) (vb : Nat) (hx : ac.eval x = .slice (some ⟨vb, 0, none⟩) 1 1) (hv : w.heap[vb]? = some (.cells e.cells.toArray 39 (0, 0))) (hl : out.length ≤ 2000) (hB : B ≤ w.heap.size)
    (h : ∀ v' w', OwnH B w' v' (out ++ [e]) → Hid (w.grownBy w' v.ownBlock) → wpList Try.prog ops Q rest (ac.put o.dst v') w') : wpList Try.prog ops Q (o :: rest) ac w := by
  obtain ⟨i0, hi0, hz0, hz1, hz2⟩ := info_parts infoHn
  have q3 : ∀ (u : Value), u ∈ e.cells → u.oneCell' = true := fun u hu => rowH_one [e] u (by simpa [rowH] using hu)
  refine wpList_append_own w hgd s x 34 ho B 39 i0 _ 3 24 Try.underlying34 hi0 hz0 hz1 hz2 rfl (by omega) v out.length (rowH out) hs hown ⟨vb, 0, none⟩ 1 1 e.cells hx rfl (World.news_of_block hv) q3 (by unfold maxLen; omega) (by omega) hB ?_
  intro v' w' h1 h2 _
  refine h v' w' (show World.ownsRow _ _ _ _ _ _ _ from ?_) h2
  have hr : rowH (out ++ [e]) = rowH out ++ e.cells := by rw [rowH_append]; simp [rowH]
  rw [hr, List.length_append]
  exact h1
/-- a hint's three cells at a block of its own -/
structure BoxH (w : World) (b : Nat) (n f s : Int) : Prop where
  c0 : w.cell? ⟨b, 0, none⟩ = some (.int .i64 n)
  c1 : w.cell? ⟨b, 1, none⟩ = some (.int .i64 f)
  c2 : w.cell? ⟨b, 2, none⟩ = some (.int .i64 s)
  fz : ∀ j, w.frozen? ⟨b, j, none⟩ = false
theorem BoxH.of_block {w w' : World} {b : Nat} {n f s : Int} (h : BoxH w b n f s) (hb : w'.heap[b]? = w.heap[b]?) : BoxH w' b n f s :=
  ⟨(World.cell?_of_block (a := ⟨b, 0, none⟩) hb).trans h.c0, (World.cell?_of_block (a := ⟨b, 1, none⟩) hb).trans h.c1, (World.cell?_of_block (a := ⟨b, 2, none⟩) hb).trans h.c2, fun j => (World.frozen?_of_block (a := ⟨b, j, none⟩) hb).trans (h.fz j)⟩
theorem BoxH.lt {w : World} {b : Nat} {n f s : Int} (h : BoxH w b n f s) : b < w.heap.size := World.block_lt_of_cell? w _ h.c0
theorem BoxH.below {w w' : World} {b B : Nat} {n f s : Int} (h : BoxH w b n f s) (hb : Below B w w') (hB : b < B) : BoxH w' b n f s := h.of_block (hb.block b hB)
theorem BoxH.alloc {w : World} {b : Nat} {n f s : Int} (h : BoxH w b n f s) (o : Obj) : BoxH (w.alloc o) b n f s := h.of_block (Below.heap_alloc _ _ _ h.lt)
theorem BoxH.drew {w : World} {b : Nat} {n f s : Int} (h : BoxH w b n f s) : BoxH w.drew b n f s := h.of_block rfl
theorem BoxH.set {w : World} {b : Nat} {n f s : Int} (h : BoxH w b n f s) (x0 x1 x2 : Int) :
    BoxH (((w.setCell ⟨b, 0, none⟩ (.int .i64 x0)).setCell ⟨b, 1, none⟩ (.int .i64 x1)).setCell ⟨b, 2, none⟩ (.int .i64 x2)) b x0 x1 x2 := by
  obtain ⟨h0, h1, h2, hf⟩ := h
  refine ⟨?_, ?_, ?_, fun j => by simp only [World.frozen?_setCell]; exact hf j⟩
  · rw [World.cell?_setCell_other _ _ _ _ (by simp), World.cell?_setCell_other _ _ _ _ (by simp), World.cell?_setCell_same _ _ _ h0]
  · rw [World.cell?_setCell_other _ _ _ _ (by simp)]
    exact World.cell?_setCell_same _ _ _ ((World.cell?_setCell_other _ _ _ _ (by simp)).trans h1)
  · exact World.cell?_setCell_same _ _ _ ((World.cell?_setCell_other _ _ _ _ (by simp)).trans ((World.cell?_setCell_other _ _ _ _ (by simp)).trans h2))
theorem boxH_new (w : World) (n f s : Int) (b : Nat) (h : b = w.heap.size) : BoxH (w.alloc (.cells #[.int .i64 n, .int .i64 f, .int .i64 s] 39)) b n f s := by
  subst h
  exact ⟨by simp, by simp, by simp, fun j => by simp⟩
def Hn.same (x y : Hn) : Bool := (x.n == y.n) && (x.k == y.k) && (x.v == y.v)
theorem Hn.same_iff (x y : Hn) : x.same y = true ↔ x = y := by
  cases x
  cases y
  simp [Hn.same, and_assoc]
theorem eql_hnIn (x y : Hn) (w : World) : (Op.equalIn 10000 39 x.val y.val).run Try.prog w = .ok (x.same y) w := by
  unfold Hn.val
  rw [run_equalIn_agg w 9999 39 _ _ (by kernel_rfl) (by kernel_rfl)]
  simp [Op.eqFields, Program.fieldsOf, Try.underlying39, go_sem, Try.underlying3, Hn.same]
  by_cases h0 : x.n = y.n <;> by_cases h1 : x.k = y.k <;> by_cases h2 : x.v = y.v <;> simp [h0, h1, h2]
theorem neq_hn (x0 x1 x2 y0 y1 y2 : Int) (b : Bool) (h : Hn.same ⟨x0, x1, x2⟩ ⟨y0, y1, y2⟩ = b) (w : World) : (binOp .neq 39 (.agg #[.int .i64 x0, .int .i64 x1, .int .i64 x2]) (.agg #[.int .i64 y0, .int .i64 y1, .int .i64 y2])).run Try.prog w = .ok (.bool !b) w := by
  have h1 := eql_hnIn ⟨x0, x1, x2⟩ ⟨y0, y1, y2⟩ w
  rw [h] at h1
  unfold Hn.val at h1
  rw [run_neq_struct, h1]
  rfl
theorem eqGuard_hn : Try.prog.eqGuardType Try.prog.depth 39 = false := by kernel_rfl
end Go.Proofs.Ytkhdeaegbkenfah
