/-
  A cache in memory: a row of entries; what is wrong with one, as plain functions.
-/
import Derived.Test.YtpcnfoaoajfhlaaDoorEn4
namespace Go.Proofs.YtpcnfoaoajfhlaaDoor
set_option linter.unusedVariables false
set_option linter.unusedSimpArgs false
open Go.RowKit

/-- what is wrong with an entry -/
def En.bad (e : En) : Int := Go.Proofs.YtpcnfoaoajfhlaaDoor.bad e.k e.v e.a e.g e.t
/-- what is wrong with a row, behind a key -/
def badRow : Option Int → List En → Int
  | _, [] => 0
  | p, e :: l => if e.bad ≠ 0 then e.bad else if (match p with | some q => decide (e.k ≤ q) | none => false) = true then 3 else badRow (some e.k) l
/-- what is wrong with a cache -/
def badL (l : List En) : Int := if 8 < l.length then 4 else badRow none l

def En.cells (e : En) : List Value := [.int .i64 e.k, .int .i64 e.v, .int .i64 e.a, .bool e.g, .string e.t]
def rowC : List En → List Value
  | [] => []
  | e :: l => e.cells ++ rowC l
theorem En.cells_length (e : En) : e.cells.length = 5 := rfl
theorem rowC_append (l m : List En) : rowC (l ++ m) = rowC l ++ rowC m := by
  induction l with
  | nil => rfl
  | cons c l ih => simp only [List.cons_append, rowC, ih, List.append_assoc]
theorem rowC_length (l : List En) : (rowC l).length = l.length * 5 := by
  induction l with
  | nil => rfl
  | cons c l ih => simp only [rowC, List.length_append, En.cells_length, ih, List.length_cons]; omega
theorem rowC_one (l : List En) : ∀ u ∈ rowC l, u.oneCell' = true := by
  induction l with
  | nil => intro u hu; simp [rowC] at hu
  | cons c l ih =>
    intro u hu
    simp only [rowC, List.mem_append] at hu
    rcases hu with h | h
    · simp only [En.cells, List.mem_cons, List.not_mem_nil, or_false] at h
      rcases h with rfl | rfl | rfl | rfl | rfl <;> rfl
    · exact ih u h
theorem rowC_get (l : List En) (j : Nat) (h : j < l.length) :
    (rowC l)[j * 5]? = some (.int .i64 l[j].k) ∧ (rowC l)[j * 5 + 1]? = some (.int .i64 l[j].v) ∧ (rowC l)[j * 5 + 2]? = some (.int .i64 l[j].a) ∧ (rowC l)[j * 5 + 3]? = some (.bool l[j].g) ∧ (rowC l)[j * 5 + 4]? = some (.string l[j].t) := by
  induction l generalizing j with
  | nil => simp at h
  | cons c l ih =>
    cases j with
    | zero => simp [rowC, En.cells]
    | succ j =>
      have e := ih j (by simpa using h)
      have e0 : (j + 1) * 5 = j * 5 + 5 := by omega
      simp only [rowC, En.cells, List.cons_append, List.nil_append, e0, List.getElem_cons_succ]
      have e1 : j * 5 + 5 + 1 = (j * 5 + 1) + 5 := by omega
      have e2 : j * 5 + 5 + 2 = (j * 5 + 2) + 5 := by omega
      have e3 : j * 5 + 5 + 3 = (j * 5 + 3) + 5 := by omega
      have e4 : j * 5 + 5 + 4 = (j * 5 + 4) + 5 := by omega
      rw [e1, e2, e3, e4]
      simpa using e
theorem rowC_take (l : List En) (i : Nat) : rowC (l.take i) = (rowC l).take (i * 5) := by
  induction l generalizing i with
  | nil => simp [rowC]
  | cons c l ih =>
    cases i with
    | zero => simp [rowC]
    | succ i =>
      rw [List.take_succ_cons, rowC, ih, rowC, show (i + 1) * 5 = c.cells.length + i * 5 by rw [En.cells_length]; omega, List.take_length_add_append]
theorem rowC_drop (l : List En) (i : Nat) : rowC (l.drop i) = (rowC l).drop (i * 5) := by
  induction l generalizing i with
  | nil => simp [rowC]
  | cons c l ih =>
    cases i with
    | zero => simp [rowC]
    | succ i =>
      rw [List.drop_succ_cons, ih, rowC, show (i + 1) * 5 = c.cells.length + i * 5 by rw [En.cells_length]; omega, List.drop_length_add_append]

/-- an entry's five cells at a place -/
structure EnAt (w : World) (b o : Nat) (e : En) : Prop where
  c0 : w.cell? ⟨b, o, none⟩ = some (.int .i64 e.k)
  c1 : w.cell? ⟨b, o + 1, none⟩ = some (.int .i64 e.v)
  c2 : w.cell? ⟨b, o + 2, none⟩ = some (.int .i64 e.a)
  c3 : w.cell? ⟨b, o + 3, none⟩ = some (.bool e.g)
  c4 : w.cell? ⟨b, o + 4, none⟩ = some (.string e.t)
theorem EnAt.of_block {w w' : World} {b o : Nat} {e : En} (h : EnAt w b o e) (hb : w'.heap[b]? = w.heap[b]?) : EnAt w' b o e :=
  ⟨(World.cell?_of_block (a := ⟨b, o, none⟩) hb).trans h.c0, (World.cell?_of_block (a := ⟨b, o + 1, none⟩) hb).trans h.c1, (World.cell?_of_block (a := ⟨b, o + 2, none⟩) hb).trans h.c2, (World.cell?_of_block (a := ⟨b, o + 3, none⟩) hb).trans h.c3, (World.cell?_of_block (a := ⟨b, o + 4, none⟩) hb).trans h.c4⟩

/-- a slice that holds a row of entries -/
def RowIs (w : World) (v : Value) (l : List En) : Prop :=
  l.length ≤ maxLen ∧ ∃ p cap, v = .slice p l.length cap ∧ (l ≠ [] → ∃ b o, p = some ⟨b, o, none⟩ ∧ b < w.heap.size ∧ ∀ j (h : j < l.length), EnAt w b (o + j * 5) l[j])
theorem RowIs.blocks {w w' : World} {v : Value} {l : List En} (h : RowIs w v l) (hs : w.heap.size ≤ w'.heap.size) (hb : ∀ c, v.ownBlock = some c → c < w.heap.size → w'.heap[c]? = w.heap[c]?) : RowIs w' v l := by
  obtain ⟨h0, p, cap, rfl, h1⟩ := h
  refine ⟨h0, p, cap, rfl, fun hn => ?_⟩
  obtain ⟨b, o, rfl, hlt, hc⟩ := h1 hn
  exact ⟨b, o, rfl, Nat.lt_of_lt_of_le hlt hs, fun j hj => (hc j hj).of_block (hb b rfl hlt)⟩
theorem RowIs.below {w w' : World} {v : Value} {l : List En} (h : RowIs w v l) (hb : Below w.heap.size w w') : RowIs w' v l :=
  h.blocks hb.size (fun c _ hc => hb.block c hc)
theorem RowIs.nil (w : World) : RowIs w (.slice none 0 0) [] := ⟨by simp, none, 0, rfl, fun h => absurd rfl h⟩
/-- a row that the call owns is one -/
theorem RowIs.own {w : World} {B : Nat} {v : Value} {l : List En} (h : w.ownsRow B 38 5 v l.length (rowC l)) : RowIs w v l := by
  have hcell : ∀ g, v.ownBlock = some g → ∀ j u, (rowC l)[j]? = some u → w.cell? ⟨g, j, none⟩ = some u := fun g hg j u hu => by
    have := h.cells (g := g) hg j u hu
    simpa [Addr.add_lit] using this
  rcases h.2 with ⟨rfl, h0⟩ | ⟨g, cap, cur, rfl, _, hg, hc1, hc2, _⟩
  · rw [List.length_eq_zero_iff.1 h0]
    exact RowIs.nil w
  · refine ⟨Nat.le_trans hc1 hc2, _, cap, rfl, fun _ => ⟨g, 0, rfl, (Array.getElem?_eq_some_iff.1 hg).1, fun j hj => ?_⟩⟩
    obtain ⟨a0, a1, a2, a3, a4⟩ := rowC_get l j hj
    exact ⟨by simpa using hcell g rfl _ _ a0, by simpa using hcell g rfl _ _ a1, by simpa using hcell g rfl _ _ a2, by simpa using hcell g rfl _ _ a3, by simpa using hcell g rfl _ _ a4⟩
theorem RowIs.cells {w : World} {b o cap : Nat} {l : List En} (hc : ∀ j (h : j < l.length), EnAt w b (o + j * 5) l[j]) : ∀ i u, (rowC l)[i]? = some u → w.cell? ⟨b, o + i, none⟩ = some u := by
  intro i u hu
  have hi : i < l.length * 5 := by
    have := (List.getElem?_eq_some_iff.1 hu).1
    rwa [rowC_length] at this
  have hj : i / 5 < l.length := by omega
  obtain ⟨a0, a1, a2, a3, a4⟩ := rowC_get l (i / 5) hj
  have hr : i = i / 5 * 5 + i % 5 := by omega
  have h5 : i % 5 < 5 := by omega
  obtain ⟨x0, x1, x2, x3, x4⟩ := hc (i / 5) hj
  generalize i % 5 = r at hr h5
  rw [hr] at hu ⊢
  match r, h5 with
  | 0, _ => rw [Nat.add_zero] at hu ⊢; rw [a0] at hu; rw [← Option.some.inj hu]; exact x0
  | 1, _ => rw [a1] at hu; rw [← Option.some.inj hu, ← Nat.add_assoc]; exact x1
  | 2, _ => rw [a2] at hu; rw [← Option.some.inj hu, ← Nat.add_assoc]; exact x2
  | 3, _ => rw [a3] at hu; rw [← Option.some.inj hu, ← Nat.add_assoc]; exact x3
  | 4, _ => rw [a4] at hu; rw [← Option.some.inj hu, ← Nat.add_assoc]; exact x4

theorem infoEn : (Tryd.prog.info? 38).map (fun i => (i.zero, i.size, i.bytes)) = some (some (.agg #[.int .i64 0, .int .i64 0, .int .i64 0, .bool false, .string ⟨#[]⟩]), 5, 48) := by kernel_rfl
end Go.Proofs.YtpcnfoaoajfhlaaDoor
