/-
  What caches of several nodes that came in are: a row of rows.
-/
import Derived.Test.YtliaidgedjjobaaDoorTbP
import Derived.Test.YtliaidgedjjobaaDoorArgC
namespace Go.Proofs.YtliaidgedjjobaaDoor
set_option linter.unusedVariables false
set_option linter.unusedSimpArgs false
open Go.ChangeShapes Go.WideShapes Go.RowKit Go.Deep

set_option maxRecDepth 100000 in
/-- a cache, wherever it is read -/
theorem row_trod {H : Type} {enc : TypeId × Value → H} {w : World} {base : Nat} {spare : Nat → Bool} {held : Bool} {fuel : Nat} {cs : List Value} {x : DataW H × List MemPlace}
    (hf : DataW.trod enc Tryd.prog w base spare held fuel 37 cs = some x) : ∃ v l, cs = [v] ∧ RowIs w v l := by
  rcases open_slice Tryd.underlying37 hf with ⟨hcs, _⟩ | ⟨a, len0, cap0, m, n, D, Pl, hcs, _, hl, hm, hmm, _, hx⟩
  · exact ⟨_, [], hcs, RowIs.nil w⟩
  · refine ⟨.slice (some a) len0 cap0, ?_⟩
    have hlm : len0 ≤ m := by rw [hmm]; split <;> omega
    have ce : Tryd.prog.cellsOf 26 = 5 := by kernel_rfl
    have each : ∀ i, i < len0 → ∃ e : En, w.cell? (a.add (i * 5)) = some (.int .i64 e.k) ∧ w.cell? (a.add (i * 5 + 1)) = some (.int .i64 e.v) ∧ w.cell? (a.add (i * 5 + 2)) = some (.int .i64 e.a) ∧ w.cell? (a.add (i * 5 + 3)) = some (.bool e.g) ∧ w.cell? (a.add (i * 5 + 4)) = some (.string e.t) := by
      intro i hi
      obtain ⟨cs', h1, h2⟩ := hx i (by omega)
      rw [ce] at h1
      obtain ⟨e, k0, k1, k2, k3, k4⟩ := cell_en h1 h2
      rw [add_add] at k0 k1 k2 k3 k4
      exact ⟨e, k0, k1, k2, k3, k4⟩
    have inh : Inhabited En := ⟨⟨0, 0, 0, false, ⟨#[]⟩⟩⟩
    obtain ⟨f, hfe⟩ := choose_lt each
    refine ⟨(List.range len0).map f, hcs, by simp; omega, some a, cap0, by simp, fun hne => ?_⟩
    have h0 : 0 < len0 := by
      rcases Nat.eq_zero_or_pos len0 with h | h
      · subst h; simp at hne
      · exact h
    obtain ⟨b, o, spot⟩ := a
    have hs : spot = none := by simpa [Addr.add] using World.cell?_spot (hfe 0 h0).1
    subst hs
    refine ⟨b, o, rfl, ?_, fun j hj => ?_⟩
    · have := World.block_lt_of_cell? w _ (hfe 0 h0).1
      simpa [Addr.add] using this
    · have hj' : j < len0 := by simpa using hj
      obtain ⟨k0, k1, k2, k3, k4⟩ := hfe j hj'
      rw [Addr.add_lit] at k0 k1 k2 k3 k4
      simp only [List.getElem_map, List.getElem_range]
      exact ⟨k0, by rw [Nat.add_assoc]; exact k1, by rw [Nat.add_assoc]; exact k2, by rw [Nat.add_assoc]; exact k3, by rw [Nat.add_assoc]; exact k4⟩
set_option maxRecDepth 100000 in
/-- caches that came in -/
theorem rows_of {H : Type} {enc : TypeId × Value → H} {w : World} {base : Nat} {spare : Nat → Bool} {held : Bool} {r : Reach} {b0 : Nat} {v : Value} {d : DataW H} {p : List MemPlace}
    (hv : Value.okWide Tryd.prog w r b0 22 v) (h : DataW.Trod enc Tryd.prog w base spare held 22 v d p) : ∃ ls, RowsIs w v ls := by
  obtain ⟨a0, len0, cap0, rfl⟩ := okWide_slice Tryd.underlying22 hv
  obtain ⟨fuel, hf⟩ := h
  rcases open_slice1 Tryd.underlying22 (by kernel_rfl) hf with ⟨hcs, _⟩ | ⟨a, len, cap, m, n, V, D, Pl, hcs, _, hl, hm, hmm, _, hx⟩
  · simp [Value.cells] at hcs
    obtain ⟨rfl, rfl, rfl⟩ := hcs
    exact ⟨[], by simp, none, 0, rfl, fun h => absurd rfl h⟩
  · simp [Value.cells] at hcs
    obtain ⟨rfl, rfl, rfl⟩ := hcs
    have hlm : len0 ≤ m := by rw [hmm]; split <;> omega
    have each : ∀ i, i < len0 → ∃ l : List En, w.cell? (a.add i) = some (V i) ∧ RowIs w (V i) l := by
      intro i hi
      obtain ⟨h1, h2⟩ := hx i (by omega)
      obtain ⟨v', l, he, hr⟩ := row_trod h2
      obtain rfl : V i = v' := by simpa using he
      exact ⟨l, h1, hr⟩
    obtain ⟨f, hfe⟩ := choose_lt each
    refine ⟨(List.range len0).map f, by simp; omega, some a, cap0, by simp, fun hne => ?_⟩
    have h0 : 0 < len0 := by
      rcases Nat.eq_zero_or_pos len0 with h | h
      · subst h; simp at hne
      · exact h
    obtain ⟨b, o, spot⟩ := a
    have hs : spot = none := by simpa [Addr.add] using World.cell?_spot (hfe 0 h0).1
    subst hs
    refine ⟨b, o, rfl, ?_, fun j hj => ?_⟩
    · have := World.block_lt_of_cell? w _ (hfe 0 h0).1
      simpa [Addr.add] using this
    · have hj' : j < len0 := by simpa using hj
      obtain ⟨k0, k1⟩ := hfe j hj'
      rw [Addr.add_lit] at k0
      simp only [List.getElem_map, List.getElem_range]
      exact ⟨_, k0, k1⟩
end Go.Proofs.YtliaidgedjjobaaDoor
