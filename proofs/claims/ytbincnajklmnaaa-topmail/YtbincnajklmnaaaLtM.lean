/-
  A row of letters in memory; one appended to it, and a whole row; are two letters the same?
-/
import Derived.Test.YtbincnajklmnaaaCaP
import Derived.Laws.AppendOwnNone
import Derived.Deep.AppendLies
import Derived.BigRegion
import Derived.BigQuiet
namespace Go.Proofs.Ytbincnajklmnaaa
set_option linter.unusedVariables false
set_option linter.unusedSimpArgs false
open Go.RowKit Go.Lib

/-- a letter: from, to, its entry -/
structure Lt where
  f : Int
  d : Int
  e : En
def Lt.val (x : Lt) : Value := .agg #[.int .i64 x.f, .int .i64 x.d, .int .i64 x.e.k, .int .i64 x.e.v, .int .i64 x.e.a, .bool x.e.g, .string x.e.t]
def Lt.cells (x : Lt) : List Value := [.int .i64 x.f, .int .i64 x.d, .int .i64 x.e.k, .int .i64 x.e.v, .int .i64 x.e.a, .bool x.e.g, .string x.e.t]
def rowL : List Lt → List Value
  | [] => []
  | e :: l => e.cells ++ rowL l
theorem Lt.cells_length (e : Lt) : e.cells.length = 7 := rfl
theorem rowL_append (l m : List Lt) : rowL (l ++ m) = rowL l ++ rowL m := by
  induction l with
  | nil => rfl
  | cons c l ih => simp only [List.cons_append, rowL, ih, List.append_assoc]
theorem rowL_length (l : List Lt) : (rowL l).length = l.length * 7 := by
  induction l with
  | nil => rfl
  | cons c l ih => simp only [rowL, List.length_append, Lt.cells_length, ih, List.length_cons]; omega
theorem rowL_one (l : List Lt) : ∀ u ∈ rowL l, u.oneCell' = true := by
  induction l with
  | nil => intro u hu; simp [rowL] at hu
  | cons c l ih =>
    intro u hu
    simp only [rowL, List.mem_append] at hu
    rcases hu with h | h
    · simp only [Lt.cells, List.mem_cons, List.not_mem_nil, or_false] at h
      rcases h with rfl | rfl | rfl | rfl | rfl | rfl | rfl <;> rfl
    · exact ih u h
theorem rowL_get (l : List Lt) (j : Nat) (h : j < l.length) :
    (rowL l)[j * 7]? = some (.int .i64 l[j].f) ∧ (rowL l)[j * 7 + 1]? = some (.int .i64 l[j].d) ∧ (rowL l)[j * 7 + 2]? = some (.int .i64 l[j].e.k) ∧ (rowL l)[j * 7 + 3]? = some (.int .i64 l[j].e.v) ∧ (rowL l)[j * 7 + 4]? = some (.int .i64 l[j].e.a) ∧ (rowL l)[j * 7 + 5]? = some (.bool l[j].e.g) ∧ (rowL l)[j * 7 + 6]? = some (.string l[j].e.t) := by
  induction l generalizing j with
  | nil => simp at h
  | cons c l ih =>
    cases j with
    | zero => simp [rowL, Lt.cells]
    | succ j =>
      have e := ih j (by simpa using h)
      have e0 : (j + 1) * 7 = j * 7 + 7 := by omega
      simp only [rowL, Lt.cells, List.cons_append, List.nil_append, e0, List.getElem_cons_succ]
      have e1 : j * 7 + 7 + 1 = (j * 7 + 1) + 7 := by omega
      have e2 : j * 7 + 7 + 2 = (j * 7 + 2) + 7 := by omega
      have e3 : j * 7 + 7 + 3 = (j * 7 + 3) + 7 := by omega
      have e4 : j * 7 + 7 + 4 = (j * 7 + 4) + 7 := by omega
      have e5 : j * 7 + 7 + 5 = (j * 7 + 5) + 7 := by omega
      have e6 : j * 7 + 7 + 6 = (j * 7 + 6) + 7 := by omega
      rw [e1, e2, e3, e4, e5, e6]
      simpa using e
theorem rowL_take (l : List Lt) (i : Nat) : rowL (l.take i) = (rowL l).take (i * 7) := by
  induction l generalizing i with
  | nil => simp [rowL]
  | cons c l ih =>
    cases i with
    | zero => simp [rowL]
    | succ i =>
      rw [List.take_succ_cons, rowL, ih, rowL, show (i + 1) * 7 = c.cells.length + i * 7 by rw [Lt.cells_length]; omega, List.take_length_add_append]
theorem rowL_drop (l : List Lt) (i : Nat) : rowL (l.drop i) = (rowL l).drop (i * 7) := by
  induction l generalizing i with
  | nil => simp [rowL]
  | cons c l ih =>
    cases i with
    | zero => simp [rowL]
    | succ i =>
      rw [List.drop_succ_cons, ih, rowL, show (i + 1) * 7 = c.cells.length + i * 7 by rw [Lt.cells_length]; omega, List.drop_length_add_append]
/-- a letter's seven cells at a place -/
structure LtAt (w : World) (b o : Nat) (e : Lt) : Prop where
  c0 : w.cell? ⟨b, o, none⟩ = some (.int .i64 e.f)
  c1 : w.cell? ⟨b, o + 1, none⟩ = some (.int .i64 e.d)
  c2 : w.cell? ⟨b, o + 2, none⟩ = some (.int .i64 e.e.k)
  c3 : w.cell? ⟨b, o + 3, none⟩ = some (.int .i64 e.e.v)
  c4 : w.cell? ⟨b, o + 4, none⟩ = some (.int .i64 e.e.a)
  c5 : w.cell? ⟨b, o + 5, none⟩ = some (.bool e.e.g)
  c6 : w.cell? ⟨b, o + 6, none⟩ = some (.string e.e.t)
theorem LtAt.of_block {w w' : World} {b o : Nat} {e : Lt} (h : LtAt w b o e) (hb : w'.heap[b]? = w.heap[b]?) : LtAt w' b o e :=
  ⟨(World.cell?_of_block (a := ⟨b, o, none⟩) hb).trans h.c0, (World.cell?_of_block (a := ⟨b, o + 1, none⟩) hb).trans h.c1, (World.cell?_of_block (a := ⟨b, o + 2, none⟩) hb).trans h.c2, (World.cell?_of_block (a := ⟨b, o + 3, none⟩) hb).trans h.c3, (World.cell?_of_block (a := ⟨b, o + 4, none⟩) hb).trans h.c4, (World.cell?_of_block (a := ⟨b, o + 5, none⟩) hb).trans h.c5, (World.cell?_of_block (a := ⟨b, o + 6, none⟩) hb).trans h.c6⟩
/-- a slice that holds a row of letters -/
def LtsIs (w : World) (v : Value) (l : List Lt) : Prop :=
  l.length ≤ maxLen ∧ ∃ p cap, v = .slice p l.length cap ∧ (l ≠ [] → ∃ b o, p = some ⟨b, o, none⟩ ∧ b < w.heap.size ∧ ∀ j (h : j < l.length), LtAt w b (o + j * 7) l[j])
theorem LtsIs.blocks {w w' : World} {v : Value} {l : List Lt} (h : LtsIs w v l) (hs : w.heap.size ≤ w'.heap.size) (hb : ∀ c, v.ownBlock = some c → c < w.heap.size → w'.heap[c]? = w.heap[c]?) : LtsIs w' v l := by
  obtain ⟨h0, p, cap, rfl, h1⟩ := h
  refine ⟨h0, p, cap, rfl, fun hn => ?_⟩
  obtain ⟨b, o, rfl, hlt, hc⟩ := h1 hn
  exact ⟨b, o, rfl, Nat.lt_of_lt_of_le hlt hs, fun j hj => (hc j hj).of_block (hb b rfl hlt)⟩
theorem LtsIs.below {w w' : World} {v : Value} {l : List Lt} (h : LtsIs w v l) (hb : Below w.heap.size w w') : LtsIs w' v l :=
  h.blocks hb.size (fun c _ hc => hb.block c hc)
theorem LtsIs.nil (w : World) : LtsIs w (.slice none 0 0) [] := ⟨by simp, none, 0, rfl, fun h => absurd rfl h⟩
/-- a row of letters of the call's own -/
def OwnL (w : World) (v : Value) (l : List Lt) : Prop := w.ownsRow 0 42 7 v l.length (rowL l)
theorem OwnL.nil (w : World) : OwnL w (.slice none 0 0) [] := World.ownsRow_nil w 0 _ 7
/-- a row that the call owns is one -/
theorem OwnL.lts {w : World} {v : Value} {l : List Lt} (h : OwnL w v l) : LtsIs w v l := by
  have hcell : ∀ g, v.ownBlock = some g → ∀ j u, (rowL l)[j]? = some u → w.cell? ⟨g, j, none⟩ = some u := fun g hg j u hu => by
    have := World.ownsRow.cells h (g := g) hg j u hu
    simpa [Addr.add_lit] using this
  rcases h.2 with ⟨rfl, h0⟩ | ⟨g, cap, cur, rfl, _, hg, hc1, hc2, _⟩
  · rw [List.length_eq_zero_iff.1 h0]
    exact LtsIs.nil w
  · refine ⟨Nat.le_trans hc1 hc2, _, cap, rfl, fun _ => ⟨g, 0, rfl, (Array.getElem?_eq_some_iff.1 hg).1, fun j hj => ?_⟩⟩
    obtain ⟨a0, a1, a2, a3, a4, a5, a6⟩ := rowL_get l j hj
    exact ⟨by simpa using hcell g rfl _ _ a0, by simpa using hcell g rfl _ _ a1, by simpa using hcell g rfl _ _ a2, by simpa using hcell g rfl _ _ a3, by simpa using hcell g rfl _ _ a4, by simpa using hcell g rfl _ _ a5, by simpa using hcell g rfl _ _ a6⟩
theorem OwnL.lt {w : World} {v : Value} {l : List Lt} (h : OwnL w v l) (g : Nat) (hg : v.ownBlock = some g) : g < w.heap.size := by
  rcases h.2 with ⟨rfl, _⟩ | ⟨g', cap, cur, rfl, _, hg', _⟩
  · cases hg
  · obtain rfl : g' = g := by simpa [Value.ownBlock] using hg
    exact (Array.getElem?_eq_some_iff.1 hg').1
theorem OwnL.type {w : World} {v : Value} {l : List Lt} (h : OwnL w v l) (g : Nat) (hg : v.ownBlock = some g) : ∃ cur, w.heap[g]? = some (.cells cur 42 (0, 0)) := by
  rcases h.2 with ⟨rfl, _⟩ | ⟨g', cap, cur, rfl, _, hg', _⟩
  · cases hg
  · obtain rfl : g' = g := by simpa [Value.ownBlock] using hg
    exact ⟨cur, hg'⟩
theorem OwnL.blocks {w w' : World} {v : Value} {l : List Lt} (h : OwnL w v l) (hb : ∀ c, v.ownBlock = some c → w'.heap[c]? = w.heap[c]?) : OwnL w' v l := by
  refine ⟨h.1, ?_⟩
  rcases h.2 with hn | ⟨g, cap, cur, rfl, h1, hg, rest⟩
  · exact .inl hn
  · exact .inr ⟨g, cap, cur, rfl, h1, (hb g rfl).trans hg, rest⟩
theorem OwnL.below {w w' : World} {v : Value} {l : List Lt} (h : OwnL w v l) (hb : Below w.heap.size w w') : OwnL w' v l := h.blocks fun c hc => hb.block c (h.lt c hc)
theorem LtsIs.cells {w : World} {b o : Nat} {l : List Lt} (hc : ∀ j (h : j < l.length), LtAt w b (o + j * 7) l[j]) : ∀ i u, (rowL l)[i]? = some u → w.cell? ⟨b, o + i, none⟩ = some u := by
  intro i u hu
  have hi : i < l.length * 7 := by
    have := (List.getElem?_eq_some_iff.1 hu).1
    rwa [rowL_length] at this
  have hj : i / 7 < l.length := by omega
  obtain ⟨a0, a1, a2, a3, a4, a5, a6⟩ := rowL_get l (i / 7) hj
  have hr : i = i / 7 * 7 + i % 7 := by omega
  have h5 : i % 7 < 7 := by omega
  obtain ⟨x0, x1, x2, x3, x4, x5, x6⟩ := hc (i / 7) hj
  generalize i % 7 = r at hr h5
  rw [hr] at hu ⊢
  match r, h5 with
  | 0, _ => rw [Nat.add_zero] at hu ⊢; rw [a0] at hu; rw [← Option.some.inj hu]; exact x0
  | 1, _ => rw [a1] at hu; rw [← Option.some.inj hu, ← Nat.add_assoc]; exact x1
  | 2, _ => rw [a2] at hu; rw [← Option.some.inj hu, ← Nat.add_assoc]; exact x2
  | 3, _ => rw [a3] at hu; rw [← Option.some.inj hu, ← Nat.add_assoc]; exact x3
  | 4, _ => rw [a4] at hu; rw [← Option.some.inj hu, ← Nat.add_assoc]; exact x4
  | 5, _ => rw [a5] at hu; rw [← Option.some.inj hu, ← Nat.add_assoc]; exact x5
  | 6, _ => rw [a6] at hu; rw [← Option.some.inj hu, ← Nat.add_assoc]; exact x6
theorem infoLt : (Try.prog.info? 42).map (fun i => (i.zero, i.size, i.bytes)) = some (some (.agg #[.int .i64 0, .int .i64 0, .int .i64 0, .int .i64 0, .int .i64 0, .bool false, .string ⟨#[]⟩]), 7, 64) := by kernel_rfl
theorem wp_appL {ops : Array Oper} {rest : List Oper} {o : Oper} {ac : Act} {Q : Exit → Act → World → Prop} (w : World) (hgd : o.guard = none) (s x : Operand)
    (ho : o.op = .call { callee := .builtin .append, args := #[s, x], argTypes := #[72, 72] }) (v : Value) (out : List Lt) (e : Lt) (hs : ac.eval s = v)
    (hown : OwnL w v out) (vb : Nat) (hx : ac.eval x = .slice (some ⟨vb, 0, none⟩) 1 1) (hv : w.heap[vb]? = some (.cells e.cells.toArray 42 (0, 0))) (hl : out.length ≤ 2000)
    (h : ∀ v' w', OwnL w' v' (out ++ [e]) → Hid (w.grownBy w' v.ownBlock) → wpList Try.prog ops Q rest (ac.put o.dst v') w') : wpList Try.prog ops Q (o :: rest) ac w := by
  obtain ⟨i0, hi0, hz0, hz1, hz2⟩ := info_parts infoLt
  have q3 : ∀ (u : Value), u ∈ e.cells → u.oneCell' = true := fun u hu => rowL_one [e] u (by simpa [rowL] using hu)
  refine wpList_append_own w hgd s x 72 ho 0 42 i0 _ 7 64 Try.underlying72 hi0 hz0 hz1 hz2 rfl (by omega) v out.length (rowL out) hs hown ⟨vb, 0, none⟩ 1 1 e.cells hx rfl (World.news_of_block hv) q3 (by unfold maxLen; omega) (by omega) (Nat.zero_le _) ?_
  intro v' w' h1 h2 _
  refine h v' w' (show World.ownsRow _ _ _ _ _ _ _ from ?_) h2
  have hr : rowL (out ++ [e]) = rowL out ++ e.cells := by rw [rowL_append]; simp [rowL]
  rw [hr, List.length_append]
  exact h1
/-- a letter's seven cells at a block of its own -/
structure BoxL (w : World) (b : Nat) (f d k v a : Int) (g : Bool) (t : ByteArray) : Prop where
  c0 : w.cell? ⟨b, 0, none⟩ = some (.int .i64 f)
  c1 : w.cell? ⟨b, 1, none⟩ = some (.int .i64 d)
  c2 : w.cell? ⟨b, 2, none⟩ = some (.int .i64 k)
  c3 : w.cell? ⟨b, 3, none⟩ = some (.int .i64 v)
  c4 : w.cell? ⟨b, 4, none⟩ = some (.int .i64 a)
  c5 : w.cell? ⟨b, 5, none⟩ = some (.bool g)
  c6 : w.cell? ⟨b, 6, none⟩ = some (.string t)
  fz : ∀ j, w.frozen? ⟨b, j, none⟩ = false
theorem BoxL.of_block {w w' : World} {b : Nat} {f d k v a : Int} {g : Bool} {t : ByteArray} (h : BoxL w b f d k v a g t) (hb : w'.heap[b]? = w.heap[b]?) : BoxL w' b f d k v a g t :=
  ⟨(World.cell?_of_block (a := ⟨b, 0, none⟩) hb).trans h.c0, (World.cell?_of_block (a := ⟨b, 1, none⟩) hb).trans h.c1, (World.cell?_of_block (a := ⟨b, 2, none⟩) hb).trans h.c2, (World.cell?_of_block (a := ⟨b, 3, none⟩) hb).trans h.c3, (World.cell?_of_block (a := ⟨b, 4, none⟩) hb).trans h.c4, (World.cell?_of_block (a := ⟨b, 5, none⟩) hb).trans h.c5, (World.cell?_of_block (a := ⟨b, 6, none⟩) hb).trans h.c6, fun j => (World.frozen?_of_block (a := ⟨b, j, none⟩) hb).trans (h.fz j)⟩
theorem BoxL.lt {w : World} {b : Nat} {f d k v a : Int} {g : Bool} {t : ByteArray} (h : BoxL w b f d k v a g t) : b < w.heap.size := World.block_lt_of_cell? w _ h.c0
theorem BoxL.below {w w' : World} {b B : Nat} {f d k v a : Int} {g : Bool} {t : ByteArray} (h : BoxL w b f d k v a g t) (hb : Below B w w') (hB : b < B) : BoxL w' b f d k v a g t := h.of_block (hb.block b hB)
theorem BoxL.grown {w w' : World} {b : Nat} {f d k v a : Int} {g : Bool} {t : ByteArray} (h : BoxL w b f d k v a g t) (hb : Below w.heap.size w w') : BoxL w' b f d k v a g t := h.below hb h.lt
theorem BoxL.alloc {w : World} {b : Nat} {f d k v a : Int} {g : Bool} {t : ByteArray} (h : BoxL w b f d k v a g t) (o : Obj) : BoxL (w.alloc o) b f d k v a g t := h.of_block (Below.heap_alloc _ _ _ h.lt)
theorem boxL_new (w : World) (f d k v a : Int) (g : Bool) (t : ByteArray) (b : Nat) (h : b = w.heap.size) : BoxL (w.alloc (.cells #[.int .i64 f, .int .i64 d, .int .i64 k, .int .i64 v, .int .i64 a, .bool g, .string t] 42)) b f d k v a g t := by
  subst h
  exact ⟨by simp, by simp, by simp, by simp, by simp, by simp, by simp, fun j => by simp⟩
def Lt.same (x y : Lt) : Bool := (x.f == y.f) && ((x.d == y.d) && En.same x.e y.e)
theorem eql_ltIn (x y : Lt) (w : World) : (Op.equalIn 10000 42 x.val y.val).run Try.prog w = .ok (x.same y) w := by
  unfold Lt.val
  rw [run_equalIn_agg w 9999 42 _ _ (by kernel_rfl) (by kernel_rfl)]
  simp [Op.eqFields, Program.fieldsOf, Try.underlying42, Try.underlying36, Try.isAgg36, Try.sizeOf36, part, go_sem, Try.underlying3, Try.isAgg3, Try.underlying4, Try.isAgg4, Try.underlying9, Try.isAgg9, Lt.same, En.same]
  by_cases h0 : x.f = y.f <;> by_cases h1 : x.d = y.d <;> by_cases h2 : x.e.k = y.e.k <;> by_cases h3 : x.e.v = y.e.v <;> by_cases h4 : x.e.a = y.e.a <;> by_cases h5 : x.e.g = y.e.g <;> by_cases h6 : x.e.t.toList = y.e.t.toList <;> simp [h0, h1, h2, h3, h4, h5, h6]
theorem eql_lt (x y : Lt) (b : Bool) (h : x.same y = b) (w : World) : (binOp .eql 42 (.agg #[.int .i64 x.f, .int .i64 x.d, .int .i64 x.e.k, .int .i64 x.e.v, .int .i64 x.e.a, .bool x.e.g, .string x.e.t]) (.agg #[.int .i64 y.f, .int .i64 y.d, .int .i64 y.e.k, .int .i64 y.e.v, .int .i64 y.e.a, .bool y.e.g, .string y.e.t])).run Try.prog w = .ok (.bool b) w := by
  have h1 := eql_ltIn x y w
  rw [h] at h1
  unfold Lt.val at h1
  rw [run_eql_struct, h1]
  rfl
theorem Lt.same_self (x : Lt) : x.same x = true := by simp [Lt.same, En.same_self]
theorem eqGuard_lt : Try.prog.eqGuardType Try.prog.depth 42 = false := by kernel_rfl
end Go.Proofs.Ytbincnajklmnaaa
