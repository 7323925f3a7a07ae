/-
  What a row of letters that came in is.
-/
import Derived.Test.YtklaacnmgojddagArg
import Derived.Deep.Slices
import Derived.Test.YtklaacnmgojddagLtM
namespace Go.Proofs.Ytklaacnmgojddag
set_option linter.unusedVariables false
set_option linter.unusedSimpArgs false
open Go.ChangeShapes Go.WideShapes Go.RowKit Go.Deep

set_option maxRecDepth 100000 in
theorem cell_lt {H : Type} {enc : TypeId × Value → H} {w : World} {base : Nat} {spare : Nat → Bool} {held : Bool} {n : Nat} {a : Addr} {cs : List Value} {x : DataW H × List MemPlace}
    (h1 : w.cells? base a 7 = some cs) (h2 : DataW.trod enc Try.prog w base spare held n 42 cs = some x) :
    ∃ e : Lt, w.cell? (a.add 0) = some (.int .i64 e.f) ∧ w.cell? (a.add 1) = some (.int .i64 e.d) ∧ w.cell? (a.add 2) = some (.int .i64 e.e.k) ∧ w.cell? (a.add 3) = some (.int .i64 e.e.v) ∧ w.cell? (a.add 4) = some (.int .i64 e.e.a) ∧ w.cell? (a.add 5) = some (.bool e.e.g) ∧ w.cell? (a.add 6) = some (.string e.e.t) := by
  obtain ⟨_, hlen, hcell⟩ := World.cells?_some h1
  obtain ⟨xs, k, _, _, _, hxl, hf⟩ := DataW.trod_struct Try.underlying42 h2
  match xs, hxl, cs, hlen, hcell, hf with
  | [y0, y1, y2], _, [c0, c1, c2, c3, c4, c5, c6], _, hcell, hf =>
    have g0 := hf 0 _ rfl
    have g1 := hf 1 _ rfl
    have g2 := hf 2 _ rfl
    have ci : Try.prog.cellsOf 3 = 1 := by kernel_rfl
    have cb : Try.prog.cellsOf 4 = 1 := by kernel_rfl
    have ct : Try.prog.cellsOf 9 = 1 := by kernel_rfl
    have cm : Try.prog.cellsOf 40 = 5 := by kernel_rfl
    simp [ci, cm] at g0 g1 g2
    obtain ⟨zs, k', _, _, _, hzl, hf2⟩ := DataW.trod_struct Try.underlying40 g2
    match zs, hzl, hf2 with
    | [z0, z1, z2, z3, z4], _, hf2 =>
      have f0 := hf2 0 _ rfl
      have f1 := hf2 1 _ rfl
      have f2 := hf2 2 _ rfl
      have f3 := hf2 3 _ rfl
      have f4 := hf2 4 _ rfl
      simp [ci, cb, ct] at f0 f1 f2 f3 f4
      obtain ⟨x0, e0, _, _⟩ := DataW.trod_int Try.underlying3 g0
      obtain ⟨x1, e1, _, _⟩ := DataW.trod_int Try.underlying3 g1
      obtain ⟨x2, e2, _, _⟩ := DataW.trod_int Try.underlying3 f0
      obtain ⟨x3, e3, _, _⟩ := DataW.trod_int Try.underlying3 f1
      obtain ⟨x4, e4, _, _⟩ := DataW.trod_int Try.underlying3 f2
      obtain ⟨x5, e5, _⟩ := DataW.trod_bool Try.underlying4 f3
      obtain ⟨x6, e6, _, _⟩ := DataW.trod_string Try.underlying9 f4
      simp at e0 e1 e2 e3 e4 e5 e6
      subst e0 e1 e2 e3 e4 e5 e6
      have k0 := hcell 0 (by omega)
      have k1 := hcell 1 (by omega)
      have k2 := hcell 2 (by omega)
      have k3 := hcell 3 (by omega)
      have k4 := hcell 4 (by omega)
      have k5 := hcell 5 (by omega)
      have k6 := hcell 6 (by omega)
      exact ⟨⟨x0, x1, ⟨x2, x3, x4, x5, x6⟩⟩, by simpa using k0, by simpa using k1, by simpa using k2, by simpa using k3, by simpa using k4, by simpa using k5, by simpa using k6⟩
set_option maxRecDepth 100000 in
/-- letters that came in -/
theorem lts_of {H : Type} {enc : TypeId × Value → H} {w : World} {base : Nat} {spare : Nat → Bool} {held : Bool} {r : Reach} {b0 : Nat} {v : Value} {d : DataW H} {p : List MemPlace}
    (hv : Value.okWide Try.prog w r b0 34 v) (h : DataW.Trod enc Try.prog w base spare held 34 v d p) : ∃ l, LtsIs w v l := by
  obtain ⟨a0, len0, cap0, rfl⟩ := okWide_slice Try.underlying34 hv
  obtain ⟨fuel, hf⟩ := h
  rcases open_slice Try.underlying34 hf with ⟨hcs, _⟩ | ⟨a, len, cap, m, n, D, Pl, hcs, _, hl, hm, hmm, _, hx⟩
  · simp [Value.cells] at hcs
    obtain ⟨rfl, rfl, rfl⟩ := hcs
    exact ⟨[], LtsIs.nil w⟩
  · simp [Value.cells] at hcs
    obtain ⟨rfl, rfl, rfl⟩ := hcs
    have hlm : len0 ≤ m := by rw [hmm]; split <;> omega
    have ce : Try.prog.cellsOf 42 = 7 := by kernel_rfl
    have each : ∀ i, i < len0 → ∃ e : Lt, w.cell? (a.add (i * 7)) = some (.int .i64 e.f) ∧ w.cell? (a.add (i * 7 + 1)) = some (.int .i64 e.d) ∧ w.cell? (a.add (i * 7 + 2)) = some (.int .i64 e.e.k) ∧ w.cell? (a.add (i * 7 + 3)) = some (.int .i64 e.e.v) ∧ w.cell? (a.add (i * 7 + 4)) = some (.int .i64 e.e.a) ∧ w.cell? (a.add (i * 7 + 5)) = some (.bool e.e.g) ∧ w.cell? (a.add (i * 7 + 6)) = some (.string e.e.t) := by
      intro i hi
      obtain ⟨cs', h1, h2⟩ := hx i (by omega)
      rw [ce] at h1
      obtain ⟨e, k0, k1, k2, k3, k4, k5, k6⟩ := cell_lt h1 h2
      rw [add_add] at k0 k1 k2 k3 k4 k5 k6
      exact ⟨e, k0, k1, k2, k3, k4, k5, k6⟩
    have inh : Inhabited Lt := ⟨⟨0, 0, ⟨0, 0, 0, false, ⟨#[]⟩⟩⟩⟩
    obtain ⟨f, hfe⟩ := choose_lt each
    refine ⟨(List.range len0).map f, by simp; omega, some a, cap0, by simp, fun hne => ?_⟩
    have h0 : 0 < len0 := by
      rcases Nat.eq_zero_or_pos len0 with h | h
      · subst h; simp at hne
      · exact h
    obtain ⟨b, o, spot⟩ := a
    have hs : spot = none := by simpa [Addr.add] using World.cell?_spot (hfe 0 h0).1
    subst hs
    refine ⟨b, o, rfl, ?_, fun j hj => ?_⟩
    · have := World.block_lt_of_cell? w _ (hfe 0 h0).1
      simpa [Addr.add] using this
    · have hj' : j < len0 := by simpa using hj
      obtain ⟨k0, k1, k2, k3, k4, k5, k6⟩ := hfe j hj'
      rw [Addr.add_lit] at k0 k1 k2 k3 k4 k5 k6
      simp only [List.getElem_map, List.getElem_range]
      exact ⟨k0, by rw [Nat.add_assoc]; exact k1, by rw [Nat.add_assoc]; exact k2, by rw [Nat.add_assoc]; exact k3, by rw [Nat.add_assoc]; exact k4, by rw [Nat.add_assoc]; exact k5, by rw [Nat.add_assoc]; exact k6⟩
end Go.Proofs.Ytklaacnmgojddag
