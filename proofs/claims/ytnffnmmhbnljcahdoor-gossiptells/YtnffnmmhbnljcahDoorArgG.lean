/-
  What reading calls, or numbers, that came in tells a walk.
-/
import Derived.Test.YtnffnmmhbnljcahDoorGsM
import Derived.Test.YtnffnmmhbnljcahDoorRows
import Derived.ProofKit
import Derived.OpenShut
import Derived.Deep.Fields
import Derived.Deep.Matrix
import Derived.ChangeOld
import Derived.RowKitTokens
namespace Go.Proofs.YtnffnmmhbnljcahDoor
set_option linter.unusedVariables false
set_option linter.unusedSimpArgs false
open Go.ChangeShapes Go.WideShapes Go.RowKit Go.Deep

theorem addrG {W : World} {a : Addr} {i : Nat} {u u0 : Value} (h0 : W.cell? (a.add 0) = some u0) (h : W.cell? (a.add i) = some u) : ∃ b o, a = ⟨b, o, none⟩ ∧ W.cell? ⟨b, o + i, none⟩ = some u := by
  obtain ⟨b, o, spot⟩ := a
  have hs : spot = none := by simpa [Addr.add] using World.cell?_spot h0
  subst hs
  exact ⟨b, o, rfl, by rw [Addr.add_lit] at h; exact h⟩
set_option maxRecDepth 100000 in
theorem calls_of {H : Type} {enc : TypeId × Value → H} {W : World} {base : Nat} {v : Value} {d : DataW H} {p : List MemPlace}
    (hv : Value.okWide Tryd.prog W .any base 22 v) (h : DataW.Trod enc Tryd.prog W 0 (fun _ => true) true 22 v d p) : ∃ cs, CallsIs W v cs := by
  obtain ⟨a0, len0, cap0, rfl⟩ := okWide_slice Tryd.underlying22 hv
  obtain ⟨fuel, hf⟩ := h
  rcases open_int_rows Tryd.underlying22 Tryd.underlying33 Tryd.underlying3 (by kernel_rfl) (by kernel_rfl) hf with ⟨hcs, _⟩ | ⟨x, l, c, A, L, C, Z, hcs, _, hl, hm, _, hrow⟩
  · simp [Value.cells] at hcs
    obtain ⟨rfl, rfl, rfl⟩ := hcs
    exact ⟨[], CallsIs.nil W⟩
  · simp [Value.cells] at hcs
    obtain ⟨rfl, rfl, rfl⟩ := hcs
    refine ⟨(List.range len0).map (fun i => (List.range (L i)).map (fun j => (Z i).getD j 0)), (List.range len0).map (fun i => .slice (A i) (L i) (C i)), by simp, ?_, fun i hi hi' => ?_⟩
    · refine ⟨by simp; omega, some x, cap0, by simp, fun e => by simp at e, fun hne => ?_⟩
      have h0 : 0 < len0 := by
        rcases Nat.eq_zero_or_pos len0 with h | h
        · subst h; simp at hne
        · exact h
      obtain ⟨b, o, e, hc'⟩ := addrG (hrow 0 (by omega)).1 (hrow 0 (by omega)).1
      refine ⟨b, o, by rw [e], World.block_lt_of_cell? W _ hc', fun j hj => ?_⟩
      have hj' : j < len0 := by simpa using hj
      obtain ⟨b', o', e', hc''⟩ := addrG (hrow 0 (by omega)).1 (hrow j (by omega)).1
      rw [e] at e'
      cases e'
      rw [hc'']
      simp
    · have hi2 : i < len0 := by simpa using hi
      simp only [List.getElem_map, List.getElem_range]
      obtain ⟨_, h1, h2, h3, h4, h5, h6⟩ := hrow i (by omega)
      refine ⟨by simp; omega, A i, C i, by simp, fun hne => ?_⟩
      have hL : 0 < L i := by
        rcases Nat.eq_zero_or_pos (L i) with h | h
        · rw [h] at hne; simp at hne
        · exact h
      cases hA : A i with
      | none => have := h5 hA; omega
      | some a' =>
        obtain ⟨b', o', e', hz⟩ := addrG ((h6 a' hA).2 0 (by omega)) ((h6 a' hA).2 0 (by omega))
        refine ⟨b', o', by rw [e'], World.block_lt_of_cell? W _ hz, fun j hj => ?_⟩
        have hj' : j < L i := by simpa using hj
        obtain ⟨b2, o2, e2, hz2⟩ := addrG ((h6 a' hA).2 0 (by omega)) ((h6 a' hA).2 j (by omega))
        rw [e'] at e2
        cases e2
        rw [hz2]
        simp
set_option maxRecDepth 100000 in
theorem ints_of {H : Type} {enc : TypeId × Value → H} {w : World} {base : Nat} {spare : Nat → Bool} {held : Bool} {r : Reach} {b0 : Nat} {v : Value} {d : DataW H} {p : List MemPlace}
    (hv : Value.okWide Tryd.prog w r b0 33 v) (h : DataW.Trod enc Tryd.prog w base spare held 33 v d p) : ∃ l, IntsIs w v l := by
  obtain ⟨a0, len0, cap0, rfl⟩ := okWide_slice Tryd.underlying33 hv
  obtain ⟨fuel, hf⟩ := h
  rcases open_slice Tryd.underlying33 hf with ⟨hcs, _⟩ | ⟨a, len, cap, m, n, D, Pl, hcs, _, hl, hm, hmm, _, hx⟩
  · simp [Value.cells] at hcs
    obtain ⟨rfl, rfl, rfl⟩ := hcs
    exact ⟨[], IntsIs.nil w⟩
  · simp [Value.cells] at hcs
    obtain ⟨rfl, rfl, rfl⟩ := hcs
    have hlm : len0 ≤ m := by rw [hmm]; split <;> omega
    have ce : Tryd.prog.cellsOf 3 = 1 := by kernel_rfl
    have each : ∀ i, i < len0 → ∃ e : Int, w.cell? (a.add i) = some (.int .i64 e) := by
      intro i hi
      obtain ⟨cs', h1, h2⟩ := hx i (by omega)
      rw [ce, Nat.mul_one] at h1
      obtain ⟨_, hlen, hcell⟩ := World.cells?_some h1
      obtain ⟨x0, e0, _, _⟩ := DataW.trod_int Tryd.underlying3 h2
      subst e0
      have k0 := hcell 0 (by omega)
      exact ⟨x0, by simpa [add_add] using k0⟩
    have hch : ∃ f : Nat → Int, ∀ i, i < len0 → w.cell? (a.add i) = some (.int .i64 (f i)) := by
      refine ⟨fun i => if h : i < len0 then (each i h).choose else 0, fun i hi => ?_⟩
      show w.cell? (a.add i) = some (.int .i64 (if h : i < len0 then (each i h).choose else 0))
      rw [dif_pos hi]
      exact (each i hi).choose_spec
    obtain ⟨f, hfe⟩ := hch
    refine ⟨(List.range len0).map f, by simp; omega, some a, cap0, by simp, fun hne => ?_⟩
    have h0 : 0 < len0 := by
      rcases Nat.eq_zero_or_pos len0 with h | h
      · subst h; simp at hne
      · exact h
    obtain ⟨b, o, e, hz⟩ := addrG (hfe 0 h0) (hfe 0 h0)
    refine ⟨b, o, by rw [e], World.block_lt_of_cell? w _ hz, fun j hj => ?_⟩
    have hj' : j < len0 := by simpa using hj
    obtain ⟨b2, o2, e2, hz2⟩ := addrG (hfe 0 h0) (hfe j hj')
    rw [e] at e2
    cases e2
    rw [hz2]
    simp
end Go.Proofs.YtnffnmmhbnljcahDoor
