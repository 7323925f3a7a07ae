/-
  What a row of rumors that came in is.
-/
import Derived.Test.YtpelbmhhppcmeafDoorArgM
import Derived.Test.YtpelbmhhppcmeafDoorRuM
namespace Go.Proofs.YtpelbmhhppcmeafDoor
set_option linter.unusedVariables false
set_option linter.unusedSimpArgs false
open Go.ChangeShapes Go.WideShapes Go.RowKit Go.Deep

set_option maxRecDepth 100000 in
theorem cell_ru {H : Type} {enc : TypeId × Value → H} {w : World} {base : Nat} {spare : Nat → Bool} {held : Bool} {n : Nat} {a : Addr} {cs : List Value} {x : DataW H × List MemPlace}
    (h1 : w.cells? base a 4 = some cs) (h2 : DataW.trod enc Tryd.prog w base spare held n 71 cs = some x) :
    ∃ e : Ru, w.cell? (a.add 0) = some (.int .i64 e.m.n) ∧ w.cell? (a.add 1) = some (.int .i64 e.m.f) ∧ w.cell? (a.add 2) = some (.int .i64 e.m.s) ∧ w.cell? (a.add 3) = some (.int .i64 e.t) := by
  obtain ⟨_, hlen, hcell⟩ := World.cells?_some h1
  obtain ⟨xs, k, _, _, _, hxl, hf⟩ := DataW.trod_struct Tryd.underlying71 h2
  match xs, hxl, cs, hlen, hcell, hf with
  | [y0, y1], _, [c0, c1, c2, c3], _, hcell, hf =>
    have g0 := hf 0 _ rfl
    have g1 := hf 1 _ rfl
    have ci : Tryd.prog.cellsOf 3 = 1 := by kernel_rfl
    have cm : Tryd.prog.cellsOf 23 = 3 := by kernel_rfl
    simp [ci, cm] at g0 g1
    obtain ⟨zs, k', _, _, _, hzl, hf2⟩ := DataW.trod_struct Tryd.underlying23 g0
    match zs, hzl, hf2 with
    | [z0, z1, z2], _, hf2 =>
      have f0 := hf2 0 _ rfl
      have f1 := hf2 1 _ rfl
      have f2 := hf2 2 _ rfl
      simp [ci] at f0 f1 f2
      obtain ⟨x0, e0, _, _⟩ := DataW.trod_int Tryd.underlying3 f0
      obtain ⟨x1, e1, _, _⟩ := DataW.trod_int Tryd.underlying3 f1
      obtain ⟨x2, e2, _, _⟩ := DataW.trod_int Tryd.underlying3 f2
      obtain ⟨x3, e3, _, _⟩ := DataW.trod_int Tryd.underlying3 g1
      simp at e0 e1 e2 e3
      subst e0 e1 e2 e3
      have k0 := hcell 0 (by omega)
      have k1 := hcell 1 (by omega)
      have k2 := hcell 2 (by omega)
      have k3 := hcell 3 (by omega)
      exact ⟨⟨⟨x0, x1, x2⟩, x3⟩, by simpa using k0, by simpa using k1, by simpa using k2, by simpa using k3⟩
set_option maxRecDepth 100000 in
/-- rumors that came in -/
theorem rus_of {H : Type} {enc : TypeId × Value → H} {w : World} {base : Nat} {spare : Nat → Bool} {held : Bool} {r : Reach} {b0 : Nat} {v : Value} {d : DataW H} {p : List MemPlace}
    (hv : Value.okWide Tryd.prog w r b0 47 v) (h : DataW.Trod enc Tryd.prog w base spare held 47 v d p) : ∃ l, RusIs w v l := by
  obtain ⟨a0, len0, cap0, rfl⟩ := okWide_slice Tryd.underlying47 hv
  obtain ⟨fuel, hf⟩ := h
  rcases open_slice Tryd.underlying47 hf with ⟨hcs, _⟩ | ⟨a, len, cap, m, n, D, Pl, hcs, _, hl, hm, hmm, _, hx⟩
  · simp [Value.cells] at hcs
    obtain ⟨rfl, rfl, rfl⟩ := hcs
    exact ⟨[], RusIs.nil w⟩
  · simp [Value.cells] at hcs
    obtain ⟨rfl, rfl, rfl⟩ := hcs
    have hlm : len0 ≤ m := by rw [hmm]; split <;> omega
    have ce : Tryd.prog.cellsOf 71 = 4 := by kernel_rfl
    have each : ∀ i, i < len0 → ∃ e : Ru, w.cell? (a.add (i * 4)) = some (.int .i64 e.m.n) ∧ w.cell? (a.add (i * 4 + 1)) = some (.int .i64 e.m.f) ∧ w.cell? (a.add (i * 4 + 2)) = some (.int .i64 e.m.s) ∧ w.cell? (a.add (i * 4 + 3)) = some (.int .i64 e.t) := by
      intro i hi
      obtain ⟨cs', h1, h2⟩ := hx i (by omega)
      rw [ce] at h1
      obtain ⟨e, k0, k1, k2, k3⟩ := cell_ru h1 h2
      rw [add_add] at k0 k1 k2 k3
      exact ⟨e, k0, k1, k2, k3⟩
    have inh : Inhabited Ru := ⟨⟨⟨0, 0, 0⟩, 0⟩⟩
    obtain ⟨f, hfe⟩ := choose_lt each
    refine ⟨(List.range len0).map f, by simp; omega, some a, cap0, by simp, fun hne => ?_⟩
    have h0 : 0 < len0 := by
      rcases Nat.eq_zero_or_pos len0 with h | h
      · subst h; simp at hne
      · exact h
    obtain ⟨b, o, spot⟩ := a
    have hs : spot = none := by simpa [Addr.add] using World.cell?_spot (hfe 0 h0).1
    subst hs
    refine ⟨b, o, rfl, ?_, fun j hj => ?_⟩
    · have := World.block_lt_of_cell? w _ (hfe 0 h0).1
      simpa [Addr.add] using this
    · have hj' : j < len0 := by simpa using hj
      obtain ⟨k0, k1, k2, k3⟩ := hfe j hj'
      rw [Addr.add_lit] at k0 k1 k2 k3
      simp only [List.getElem_map, List.getElem_range]
      exact ⟨k0, by rw [Nat.add_assoc]; exact k1, by rw [Nat.add_assoc]; exact k2, by rw [Nat.add_assoc]; exact k3⟩
end Go.Proofs.YtpelbmhhppcmeafDoor
