/-
  What rows of numbers and of texts that came in are, to a log's law: each number is within its kind.
-/
import Derived.Test.YtpcnfoaoajfhlaaDoorLKs
import Derived.Test.YtpcnfoaoajfhlaaDoorRows
import Derived.ProofKit
import Derived.OpenShut
import Derived.Deep.Fields
import Derived.ChangeOld
import Derived.RowKitTokens
import Derived.Deep.Slices
import Derived.Deep.Matrix
import Derived.DataShut
namespace Go.Proofs.YtpcnfoaoajfhlaaDoor
set_option linter.unusedVariables false
set_option linter.unusedSimpArgs false
open Go.ChangeShapes Go.WideShapes Go.RowKit Go.Deep

set_option maxRecDepth 100000 in
theorem intsK_of {H : Type} {enc : TypeId × Value → H} {w : World} {base : Nat} {spare : Nat → Bool} {held : Bool} {r : Reach} {b0 : Nat} {v : Value} {d : DataW H} {p : List MemPlace}
    (hv : Value.okWide Tryd.prog w r b0 30 v) (h : DataW.Trod enc Tryd.prog w base spare held 30 v d p) : ∃ l, IntsIs w v l ∧ ∀ z ∈ l, z ≤ 9223372036854775807 := by
  obtain ⟨a0, len0, cap0, rfl⟩ := okWide_slice Tryd.underlying30 hv
  obtain ⟨fuel, hf⟩ := h
  rcases open_slice Tryd.underlying30 hf with ⟨hcs, _⟩ | ⟨a, len, cap, m, n, D, Pl, hcs, _, hl, hm, hmm, _, hx⟩
  · simp [Value.cells] at hcs
    obtain ⟨rfl, rfl, rfl⟩ := hcs
    exact ⟨[], IntsIs.nil w, fun z hz => by cases hz⟩
  · simp [Value.cells] at hcs
    obtain ⟨rfl, rfl, rfl⟩ := hcs
    have hlm : len0 ≤ m := by rw [hmm]; split <;> omega
    have ce : Tryd.prog.cellsOf 3 = 1 := by kernel_rfl
    have each : ∀ i, i < len0 → ∃ e : Int, w.cell? (a.add i) = some (.int .i64 e) ∧ e ≤ 9223372036854775807 := by
      intro i hi
      obtain ⟨cs', h1, h2⟩ := hx i (by omega)
      rw [ce, Nat.mul_one] at h1
      obtain ⟨_, hlen, hcell⟩ := World.cells?_some h1
      obtain ⟨x0, e0, _, hwf⟩ := DataW.trod_int Tryd.underlying3 h2
      subst e0
      have k0 := hcell 0 (by omega)
      have hb := ((Lit.wf_int_iff _ _).1 hwf).2
      exact ⟨x0, by simpa [add_add] using k0, by simpa [IntKind.max, IntKind.signed, IntKind.bits] using hb⟩
    obtain ⟨f, hfe⟩ := choose_lt each
    refine ⟨(List.range len0).map f, ⟨by simp; omega, some a, cap0, by simp, fun hne => ?_⟩, fun z hz => ?_⟩
    · have h0 : 0 < len0 := by
        rcases Nat.eq_zero_or_pos len0 with h | h
        · subst h; simp at hne
        · exact h
      obtain ⟨b, o, spot⟩ := a
      have hs : spot = none := by simpa [Addr.add] using World.cell?_spot (hfe 0 h0).1
      subst hs
      refine ⟨b, o, rfl, ?_, fun j hj => ?_⟩
      · have := World.block_lt_of_cell? w _ (hfe 0 h0).1
        simpa [Addr.add] using this
      · have hj' : j < len0 := by simpa using hj
        have k0 := (hfe j hj').1
        rw [Addr.add_lit] at k0
        simp only [List.getElem_map, List.getElem_range]
        exact k0
    · obtain ⟨i, hi, rfl⟩ := List.mem_map.1 hz
      exact (hfe i (List.mem_range.1 hi)).2
theorem addr_noneK {W : World} {a : Addr} {i : Nat} {u u0 : Value} (h0 : W.cell? (a.add 0) = some u0) (h : W.cell? (a.add i) = some u) : ∃ b o, a = ⟨b, o, none⟩ ∧ W.cell? ⟨b, o + i, none⟩ = some u := by
  obtain ⟨b, o, spot⟩ := a
  have hs : spot = none := by simpa [Addr.add] using World.cell?_spot h0
  subst hs
  exact ⟨b, o, rfl, by rw [Addr.add_lit] at h; exact h⟩

set_option maxRecDepth 100000 in
theorem texts_ofK {H : Type} {enc : TypeId × Value → H} {W : World} {base : Nat} {v : Value} {d : DataW H} {p : List MemPlace}
    (hv : Value.okWide Tryd.prog W .any base 23 v) (h : DataW.Trod enc Tryd.prog W 0 (fun _ => true) true 23 v d p) : ∃ n, IsTextsK W v n := by
  obtain ⟨a0, len0, cap0, rfl⟩ := okWide_slice Tryd.underlying23 hv
  obtain ⟨fuel, hf⟩ := h
  rcases open_strings Tryd.underlying23 Tryd.underlying9 (by kernel_rfl) hf with ⟨hcs, _⟩ | ⟨x, l, c, ss, hcs, _, hl, hm, hz, _, hcell, hws⟩
  · simp [Value.cells] at hcs
    obtain ⟨rfl, rfl, rfl⟩ := hcs
    exact ⟨0, none, 0, rfl, by simp, fun i hi => by omega⟩
  · simp [Value.cells] at hcs
    obtain ⟨rfl, rfl, rfl⟩ := hcs
    simp only [if_true] at hz
    refine ⟨len0, some x, cap0, rfl, Nat.le_trans hl hm, fun i hi => ?_⟩
    obtain ⟨b, o, e, hc⟩ := addr_noneK (hcell 0 (by omega)) (hcell i (by omega))
    refine ⟨b, o, ss.getD i ByteArray.empty, by rw [e], hc, hws _ ?_⟩
    rw [List.getD_eq_getElem?_getD, List.getElem?_eq_getElem (show i < ss.length by omega)]
    exact List.getElem_mem _
set_option maxRecDepth 100000 in
theorem ints_ofK {H : Type} {enc : TypeId × Value → H} {w : World} {base : Nat} {spare : Nat → Bool} {held : Bool} {r : Reach} {b0 : Nat} {v : Value} {d : DataW H} {p : List MemPlace}
    (hv : Value.okWide Tryd.prog w r b0 30 v) (h : DataW.Trod enc Tryd.prog w base spare held 30 v d p) : ∃ l, IntsIs w v l := by
  obtain ⟨l, h1, _⟩ := intsK_of hv h
  exact ⟨l, h1⟩
end Go.Proofs.YtpcnfoaoajfhlaaDoor
