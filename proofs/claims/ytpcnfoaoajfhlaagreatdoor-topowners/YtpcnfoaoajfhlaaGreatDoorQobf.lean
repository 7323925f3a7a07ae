/-
  What a row of numbers and a row of points that came in are.
-/
import Derived.Test.YtpcnfoaoajfhlaaGreatDoorQobd
import Derived.Test.YtpcnfoaoajfhlaaGreatDoorQoav
import Derived.ProofKit
import Derived.OpenShut
import Derived.Deep.Fields
import Derived.ChangeOld
import Derived.RowKitTokens
import Derived.Deep.Slices
namespace Go.Proofs.YtpcnfoaoajfhlaaGreatDoor
set_option linter.unusedVariables false
set_option linter.unusedSimpArgs false
set_option linter.unusedVariables false
set_option linter.unusedSimpArgs false
open Go.ChangeShapes Go.WideShapes Go.RowKit Go.Deep

set_option maxRecDepth 100000 in
theorem cell_pt {H : Type} {enc : TypeId × Value → H} {w : World} {base : Nat} {spare : Nat → Bool} {held : Bool} {n : Nat} {a : Addr} {cs : List Value} {x : DataW H × List MemPlace}
    (h1 : w.cells? base a 2 = some cs) (h2 : DataW.trod enc Tryz.prog w base spare held n 110 cs = some x) :
    ∃ e : Pt, w.cell? (a.add 0) = some (.int .i64 e.p) ∧ w.cell? (a.add 1) = some (.int .i64 e.n) := by
  obtain ⟨_, hlen, hcell⟩ := World.cells?_some h1
  obtain ⟨xs, k, _, _, _, hxl, hf⟩ := DataW.trod_struct Tryz.underlying110 h2
  match xs, hxl, cs, hlen, hcell, hf with
  | [y0, y1], _, [c0, c1], _, hcell, hf =>
    have g0 := hf 0 _ rfl
    have g1 := hf 1 _ rfl
    have ci : Tryz.prog.cellsOf 3 = 1 := by kernel_rfl
    simp [ci] at g0 g1
    obtain ⟨x0, e0, _, _⟩ := DataW.trod_int Tryz.underlying3 g0
    obtain ⟨x1, e1, _, _⟩ := DataW.trod_int Tryz.underlying3 g1
    simp at e0 e1
    subst e0 e1
    have k0 := hcell 0 (by omega)
    have k1 := hcell 1 (by omega)
    exact ⟨⟨x0, x1⟩, by simpa using k0, by simpa using k1⟩
set_option maxRecDepth 100000 in
/-- points that came in -/
theorem pts_of {H : Type} {enc : TypeId × Value → H} {w : World} {base : Nat} {spare : Nat → Bool} {held : Bool} {r : Reach} {b0 : Nat} {v : Value} {d : DataW H} {p : List MemPlace}
    (hv : Value.okWide Tryz.prog w r b0 59 v) (h : DataW.Trod enc Tryz.prog w base spare held 59 v d p) : ∃ l, PtsIs w v l := by
  obtain ⟨a0, len0, cap0, rfl⟩ := okWide_slice Tryz.underlying59 hv
  obtain ⟨fuel, hf⟩ := h
  rcases open_slice Tryz.underlying59 hf with ⟨hcs, _⟩ | ⟨a, len, cap, m, n, D, Pl, hcs, _, hl, hm, hmm, _, hx⟩
  · simp [Value.cells] at hcs
    obtain ⟨rfl, rfl, rfl⟩ := hcs
    exact ⟨[], PtsIs.nil w⟩
  · simp [Value.cells] at hcs
    obtain ⟨rfl, rfl, rfl⟩ := hcs
    have hlm : len0 ≤ m := by rw [hmm]; split <;> omega
    have ce : Tryz.prog.cellsOf 110 = 2 := by kernel_rfl
    have each : ∀ i, i < len0 → ∃ e : Pt, w.cell? (a.add (i * 2)) = some (.int .i64 e.p) ∧ w.cell? (a.add (i * 2 + 1)) = some (.int .i64 e.n) := by
      intro i hi
      obtain ⟨cs', h1, h2⟩ := hx i (by omega)
      rw [ce] at h1
      obtain ⟨e, k0, k1⟩ := cell_pt h1 h2
      rw [add_add] at k0 k1
      exact ⟨e, k0, k1⟩
    have inh : Inhabited Pt := ⟨⟨0, 0⟩⟩
    obtain ⟨f, hfe⟩ := choose_lt each
    refine ⟨(List.range len0).map f, by simp; omega, some a, cap0, by simp, fun hne => ?_⟩
    have h0 : 0 < len0 := by
      rcases Nat.eq_zero_or_pos len0 with h | h
      · subst h; simp at hne
      · exact h
    obtain ⟨b, o, spot⟩ := a
    have hs : spot = none := by simpa [Addr.add] using World.cell?_spot (hfe 0 h0).1
    subst hs
    refine ⟨b, o, rfl, ?_, fun j hj => ?_⟩
    · have := World.block_lt_of_cell? w _ (hfe 0 h0).1
      simpa [Addr.add] using this
    · have hj' : j < len0 := by simpa using hj
      obtain ⟨k0, k1⟩ := hfe j hj'
      rw [Addr.add_lit] at k0 k1
      simp only [List.getElem_map, List.getElem_range]
      exact ⟨k0, by rw [Nat.add_assoc]; exact k1⟩
/-- numbers that came in, and the room behind them -/
def IntsCap (w : World) (v : Value) (l : List Int) : Prop := IntsIs w v l ∧ CapOk v l.length
set_option maxRecDepth 100000 in
theorem nums_of {H : Type} {enc : TypeId × Value → H} {w : World} {base : Nat} {spare : Nat → Bool} {held : Bool} {r : Reach} {b0 : Nat} {v : Value} {d : DataW H} {p : List MemPlace}
    (hv : Value.okWide Tryz.prog w r b0 39 v) (h : DataW.Trod enc Tryz.prog w base spare held 39 v d p) : ∃ l, IntsCap w v l := by
  obtain ⟨a0, len0, cap0, rfl⟩ := okWide_slice Tryz.underlying39 hv
  obtain ⟨fuel, hf⟩ := h
  rcases open_slice Tryz.underlying39 hf with ⟨hcs, _⟩ | ⟨a, len, cap, m, n, D, Pl, hcs, _, hl, hm, hmm, _, hx⟩
  · simp [Value.cells] at hcs
    obtain ⟨rfl, rfl, rfl⟩ := hcs
    exact ⟨[], IntsIs.nil w, CapOk.nil⟩
  · simp [Value.cells] at hcs
    obtain ⟨rfl, rfl, rfl⟩ := hcs
    have hlm : len0 ≤ m := by rw [hmm]; split <;> omega
    have ce : Tryz.prog.cellsOf 3 = 1 := by kernel_rfl
    have each : ∀ i, i < len0 → ∃ e : Int, w.cell? (a.add i) = some (.int .i64 e) := by
      intro i hi
      obtain ⟨cs', h1, h2⟩ := hx i (by omega)
      rw [ce, Nat.mul_one] at h1
      obtain ⟨_, hlen, hcell⟩ := World.cells?_some h1
      obtain ⟨x0, e0, _, _⟩ := DataW.trod_int Tryz.underlying3 h2
      subst e0
      have k0 := hcell 0 (by omega)
      exact ⟨x0, by simpa [add_add] using k0⟩
    obtain ⟨f, hfe⟩ := choose_lt each
    refine ⟨(List.range len0).map f, ⟨by simp; omega, some a, cap0, by simp, fun hne => ?_⟩, ⟨some a, cap0, by simp, by simpa using hl, hm⟩⟩
    have h0 : 0 < len0 := by
      rcases Nat.eq_zero_or_pos len0 with h | h
      · subst h; simp at hne
      · exact h
    obtain ⟨b, o, spot⟩ := a
    have hs : spot = none := by simpa [Addr.add] using World.cell?_spot (hfe 0 h0)
    subst hs
    refine ⟨b, o, rfl, ?_, fun j hj => ?_⟩
    · have := World.block_lt_of_cell? w _ (hfe 0 h0)
      simpa [Addr.add] using this
    · have hj' : j < len0 := by simpa using hj
      have k0 := hfe j hj'
      rw [Addr.add_lit] at k0
      simp only [List.getElem_map, List.getElem_range]
      exact k0
end Go.Proofs.YtpcnfoaoajfhlaaGreatDoor
