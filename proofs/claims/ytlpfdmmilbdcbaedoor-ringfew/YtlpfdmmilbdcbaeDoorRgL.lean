/-
  A row of points of the call's own, sorted and compacted, by the library's contracts.
-/
import Derived.Test.YtlpfdmmilbdcbaeDoorRgS
import Derived.Test.YtlpfdmmilbdcbaeDoorRgD
import Derived.Lib.OwnBridge
namespace Go.Proofs.YtlpfdmmilbdcbaeDoor
set_option linter.unusedVariables false
set_option linter.unusedSimpArgs false
open Go.RowKit Go.Shelf Go.Lib Go.Sort

theorem rowT_flat [Inhabited Pt] (l : List Pt) (j : Nat) (h : j < l.length * 2) : (rowT l)[j]? = some ((encP (l.toArray[j / 2]!))[j % 2]!) := by
  have hj : j / 2 < l.length := by omega
  obtain ⟨a0, a1⟩ := rowT_get l (j / 2) hj
  have e : l.toArray[j / 2]! = l[j / 2] := by simp [hj]
  rw [e]
  rcases Nat.mod_two_eq_zero_or_one j with h0 | h0
  · have hr : j = j / 2 * 2 := by omega
    rw [h0]
    conv => lhs; rw [hr]
    rw [a0]
    rfl
  · have hr : j = j / 2 * 2 + 1 := by omega
    rw [h0]
    conv => lhs; rw [hr]
    rw [a1]
    rfl
theorem holdsP [Inhabited Pt] {B : Nat} {w : World} {v : Value} {l : List Pt} (h : OwnP B w v l) (hne : l ≠ []) : ∃ g cap, v = .slice (some ⟨g, 0, none⟩) l.length cap ∧ B ≤ g ∧ g < w.heap.size ∧ HoldsK encP 2 w g 0 l.toArray := by
  have hcell : ∀ g, v.ownBlock = some g → ∀ j u, (rowT l)[j]? = some u → w.cell? ⟨g, j, none⟩ = some u := fun g hg j u hu => by
    have := h.cells (g := g) hg j u hu
    simpa [Addr.add_lit] using this
  rcases h.2 with ⟨rfl, h0⟩ | ⟨g, cap, cur, rfl, hb, hg, hc1, hc2, _⟩
  · exact absurd (List.length_eq_zero_iff.1 h0) hne
  · refine ⟨g, cap, rfl, hb, (Array.getElem?_eq_some_iff.1 hg).1, fun j hj => ?_⟩
    rw [size_flatK] at hj
    have hj' : j < l.length * 2 := by simpa using hj
    rw [get_flatK _ _ _ _ hj, Nat.zero_add]
    exact ⟨hcell g rfl j _ (rowT_flat l j hj'), by simp [World.frozen?, hg]⟩
theorem below_sorted [Inhabited Pt] {B : Nat} {w : World} {g n : Nat} {d : Array Pt} {os : Array Obj} (hg : B ≤ g) (hB : B ≤ w.heap.size) : RowKit.Below B w (sortWorldK encP 2 w g 0 n d os) := by
  have h1 : RowKit.Below B w (putRowK encP 2 (Sort.ahead w n) g 0 d) := Lib.below_putRow (RowKit.Below.refl B w) hg
  refine h1.trans ⟨rfl, rfl, rfl, ?_, fun c hc => ?_⟩
  · show _ ≤ (_ ++ os).size
    rw [Array.size_append]
    exact Nat.le_add_right _ _
  · show (_ ++ os)[c]? = _
    rw [Array.getElem?_append_left (Nat.lt_of_lt_of_le hc (Nat.le_trans hB h1.size))]
theorem sortRow_c (B : Nat) (v : Value) (l : List Pt) (w : World) (h : OwnP B w v l) (hne : l ≠ []) (hB : B ≤ w.heap.size) (hl : l.length ≤ 2000) :
    Calls Tryd.prog 36 #[v, .func (.func 37) #[] #[]] w fun e w' => e = .returned (.tuple #[]) ∧ PtsIs w' v (l.mergeSort fun x y => !(ltOf cfP) y x) ∧ RowKit.Below B w w' := by
  have inh : Inhabited Pt := ⟨⟨0, 0⟩⟩
  obtain ⟨g, cap, rfl, hb, hg, hH⟩ := holdsP h hne
  have hc := sortFunc_c g 0 cap l.toArray w hH hg (by rw [List.size_toArray]; omega)
  rw [List.size_toArray] at hc
  refine hc.mono ?_
  rintro e w' ⟨rfl, n, os, rfl⟩
  refine ⟨rfl, ?_, below_sorted hb hB⟩
  have e1 : (l.toArray.toList.mergeSort fun x y => !(ltOf cfP) y x) = (l.mergeSort fun x y => !(ltOf cfP) y x) := by simp
  rw [e1]
  have hlen : (l.mergeSort fun x y => !(ltOf cfP) y x).length = l.length := List.length_mergeSort ..
  have hs : (l.mergeSort fun x y => !(ltOf cfP) y x).toArray.size = l.toArray.size := by simp
  have hH' := holdsK_sortWorldK_c encP 2 w g 0 l.toArray (l.mergeSort fun x y => !(ltOf cfP) y x).toArray n os hH hg hs
  generalize (l.mergeSort fun x y => !(ltOf cfP) y x) = m at *
  refine ⟨by unfold maxLen; omega, _, cap, by rw [hlen], fun _ => ⟨g, 0, rfl, Nat.lt_of_lt_of_le hg (below_sorted (B := 0) (Nat.zero_le _) (Nat.zero_le _)).size, fun j hj => ?_⟩⟩
  have e2 : m.toArray[j]! = m[j] := by simp [hj]
  have k0 := (hH'.cell (i := j) (c := 0) (by simpa using hj) (by omega)).1
  have k1 := (hH'.cell (i := j) (c := 1) (by simpa using hj) (by omega)).1
  rw [e2] at k0 k1
  exact ⟨k0, k1⟩
end Go.Proofs.YtlpfdmmilbdcbaeDoor
