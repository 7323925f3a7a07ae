/-
  What reading a [][]int that came in tells a walk.
  What reading a []string that came in tells a walk.
-/
import Derived.Test.YtliaidgedjjobaaDoorGd
import Derived.Test.YtliaidgedjjobaaDoorArg
import Derived.Deep.Matrix
namespace Go.Proofs.YtliaidgedjjobaaDoor
set_option linter.unusedVariables false
set_option linter.unusedSimpArgs false
set_option linter.unusedVariables false
set_option linter.unusedSimpArgs false
open Go.ChangeShapes Go.WideShapes Go.RowKit Go.Deep

theorem addr_none {W : World} {a : Addr} {i : Nat} {u u0 : Value} (h0 : W.cell? (a.add 0) = some u0) (h : W.cell? (a.add i) = some u) : ∃ b o, a = ⟨b, o, none⟩ ∧ W.cell? ⟨b, o + i, none⟩ = some u := by
  obtain ⟨b, o, spot⟩ := a
  have hs : spot = none := by simpa [Addr.add] using World.cell?_spot h0
  subst hs
  exact ⟨b, o, rfl, by rw [Addr.add_lit] at h; exact h⟩

set_option maxRecDepth 100000 in
theorem steps_of {H : Type} {enc : TypeId × Value → H} {W : World} {base : Nat} {v : Value} {d : DataW H} {p : List MemPlace}
    (hv : Value.okWide Tryd.prog W .any base 49 v) (h : DataW.Trod enc Tryd.prog W 0 (fun _ => true) true 49 v d p) : ∃ n, IsSteps W v n := by
  obtain ⟨a0, len0, cap0, rfl⟩ := okWide_slice Tryd.underlying49 hv
  obtain ⟨fuel, hf⟩ := h
  rcases open_int_rows Tryd.underlying49 Tryd.underlying34 Tryd.underlying3 (by kernel_rfl) (by kernel_rfl) hf with ⟨hcs, _⟩ | ⟨x, l, c, A, L, C, Z, hcs, _, hl, hm, _, hrow⟩
  · simp [Value.cells] at hcs
    obtain ⟨rfl, rfl, rfl⟩ := hcs
    exact ⟨0, none, 0, rfl, by simp, fun i hi => by omega⟩
  · simp [Value.cells] at hcs
    obtain ⟨rfl, rfl, rfl⟩ := hcs
    refine ⟨len0, some x, cap0, rfl, Nat.le_trans hl hm, fun i hi => ?_⟩
    obtain ⟨hc, h1, h2, h3, h4, h5, h6⟩ := hrow i (by omega)
    obtain ⟨b, o, e, hc'⟩ := addr_none (hrow 0 (by omega)).1 hc
    refine ⟨b, o, _, L i, by rw [e], hc', A i, C i, rfl, Nat.le_trans h1 h2, fun j hj => ?_⟩
    cases hA : A i with
    | none => have := h5 hA; omega
    | some a' =>
      obtain ⟨b', o', e', hz⟩ := addr_none ((h6 a' hA).2 0 (by omega)) ((h6 a' hA).2 j (by omega))
      exact ⟨b', o', _, by rw [e'], hz⟩
end Go.Proofs.YtliaidgedjjobaaDoor

namespace Go.Proofs.YtliaidgedjjobaaDoor
set_option linter.unusedVariables false
set_option linter.unusedSimpArgs false
open Go.ChangeShapes Go.WideShapes Go.RowKit Go.Deep

set_option maxRecDepth 100000 in
theorem texts_of {H : Type} {enc : TypeId × Value → H} {W : World} {base : Nat} {v : Value} {d : DataW H} {p : List MemPlace}
    (hv : Value.okWide Tryd.prog W .any base 50 v) (h : DataW.Trod enc Tryd.prog W 0 (fun _ => true) true 50 v d p) : ∃ n, IsTexts W v n := by
  obtain ⟨a0, len0, cap0, rfl⟩ := okWide_slice Tryd.underlying50 hv
  obtain ⟨fuel, hf⟩ := h
  rcases open_strings Tryd.underlying50 Tryd.underlying9 (by kernel_rfl) hf with ⟨hcs, _⟩ | ⟨x, l, c, ss, hcs, _, hl, hm, hz, _, hcell, hws⟩
  · simp [Value.cells] at hcs
    obtain ⟨rfl, rfl, rfl⟩ := hcs
    exact ⟨0, none, 0, rfl, by simp, fun i hi => by omega⟩
  · simp [Value.cells] at hcs
    obtain ⟨rfl, rfl, rfl⟩ := hcs
    simp only [if_true] at hz
    refine ⟨len0, some x, cap0, rfl, Nat.le_trans hl hm, fun i hi => ?_⟩
    obtain ⟨b, o, e, hc⟩ := addr_none (hcell 0 (by omega)) (hcell i (by omega))
    refine ⟨b, o, ss.getD i ByteArray.empty, by rw [e], hc, hws _ ?_⟩
    rw [List.getD_eq_getElem?_getD, List.getElem?_eq_getElem (show i < ss.length by omega)]
    exact List.getElem_mem _

end Go.Proofs.YtliaidgedjjobaaDoor
