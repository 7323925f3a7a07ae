/-
  entry.Check by its contract, at a right entry; what a store's entry is.
-/
import Derived.Test.YtgncclahhejcdaaDoorPastI
import Derived.Test.YtgncclahhejcdaaDoorEn
namespace Go.Proofs.YtgncclahhejcdaaDoor
set_option linter.unusedVariables false
set_option linter.unusedSimpArgs false
open Go.RowKit

/-- an entry is right -/
def Right (e : Ent) : Prop := isK e.key = true ∧ 0 ≤ e.ver ∧ e.ver ≤ e.asof ∧ e.asof ≤ 1000 ∧ e.text.size ≤ 12 ∧ (e.gone = true → e.text = ByteArray.empty)
theorem OfStore.right {l : List Deed} {e : Ent} (h : OfStore l e) (hg : Good l) (hl : l.length ≤ 1000) : Right e := by
  obtain ⟨k, s, hk, hs, rfl⟩ := h
  have h1 := lastOf_take_ver l k s
  have h2 := lastOf_good k (l.take s) (good_take l hg s)
  exact ⟨hk, h1.1, h1.2, by show (s : Int) ≤ 1000; omega, h2.1, h2.2⟩
theorem Right.bad {x0 x1 x2 : Int} {x3 : Bool} {x4 : ByteArray} (h : Right ⟨x0, x1, x2, x3, x4⟩) : bad x0 x1 x2 x3 x4 = 0 := by
  obtain ⟨h0, h1, h2, h3, h4, h5⟩ := h
  have hk : 0 ≤ x0 ∧ x0 < 8 := (isK_iff x0).1 h0
  have h1' : 0 ≤ x1 := h1
  have h2' : x1 ≤ x2 := h2
  have h3' : x2 ≤ 1000 := h3
  have h4' : x4.size ≤ 12 := h4
  refine bad_none ?_ (by omega) ?_
  · simp [inR]
    omega
  · cases x3 with
    | false => rfl
    | true =>
      have h6 : x4 = ByteArray.empty := h5 rfl
      subst h6
      decide +kernel
theorem check_ok (x0 x1 x2 : Int) (x3 : Bool) (x4 : ByteArray) (w : World) (h : Right ⟨x0, x1, x2, x3, x4⟩) :
    Calls Tryd.prog 21 #[.agg #[.int .i64 x0, .int .i64 x1, .int .i64 x2, .bool x3, .string x4]] w fun e w' => e = .returned .nilIface ∧ Below w.heap.size w w' := by
  have c := check_c x0 x1 x2 x3 x4 w
  rw [h.bad] at c
  exact c
/-- what At tells of a store's entry, at its own time: itself -/
theorem OfStore.at {l : List Deed} {x0 x1 x2 : Int} {x3 : Bool} {x4 : ByteArray} (h : OfStore l ⟨x0, x1, x2, x3, x4⟩) : atO l x0 x2 = (⟨x0, x1, x2, x3, x4⟩, 0) := by
  obtain ⟨k, s, hk, hs, he⟩ := h
  have e := he
  unfold entAt at e
  simp only [Ent.mk.injEq] at e
  obtain ⟨rfl, _, rfl, _, _⟩ := e
  rw [he]
  have hy : atY l x0 (s : Int) = true := by simp [atY, hk]; omega
  have := (atO_yes hy).1
  rw [Int.toNat_natCast] at this
  exact this
/-- between its version and its time it is the same -/
theorem OfStore.between {l : List Deed} {x0 x1 x2 : Int} {x3 : Bool} {x4 : ByteArray} (h : OfStore l ⟨x0, x1, x2, x3, x4⟩) (q : Int) (h1 : x1 ≤ q) (h2 : q ≤ x2) : atO l x0 q = (⟨x0, x1, q, x3, x4⟩, 0) := by
  obtain ⟨k, s, hk, hs, he⟩ := h
  unfold entAt at he
  simp only [Ent.mk.injEq] at he
  obtain ⟨rfl, rfl, rfl, rfl, rfl⟩ := he
  have hv := lastOf_take_ver l x0 s
  obtain ⟨n, rfl⟩ := Int.eq_ofNat_of_zero_le (show 0 ≤ q by omega)
  have hb := lastOf_between l x0 s n hs h1 (by omega)
  have hy : atY l x0 (n : Int) = true := by simp [atY, hk]; omega
  have := (atO_yes hy).1
  rw [Int.toNat_natCast] at this
  rw [this]
  unfold entAt
  rw [hb]
/-- ahead of its version it is older -/
theorem OfStore.before {l : List Deed} {x0 x1 x2 : Int} {x3 : Bool} {x4 : ByteArray} (h : OfStore l ⟨x0, x1, x2, x3, x4⟩) (h1 : 0 < x1) : ∃ y1 y3 y4, atO l x0 (x1 - 1) = (⟨x0, y1, x1 - 1, y3, y4⟩, 0) ∧ y1 < x1 := by
  obtain ⟨k, s, hk, hs, he⟩ := h
  unfold entAt at he
  simp only [Ent.mk.injEq] at he
  obtain ⟨rfl, rfl, rfl, rfl, rfl⟩ := he
  have hv := lastOf_take_ver l x0 s
  obtain ⟨n, hn⟩ := Int.eq_ofNat_of_zero_le (show 0 ≤ (lastOf (l.take s) x0).ver - 1 by omega)
  rw [hn]
  have hy : atY l x0 (n : Int) = true := by simp [atY, hk]; omega
  have := (atO_yes hy).1
  rw [Int.toNat_natCast] at this
  rw [this]
  have h3 := lastOf_take_ver l x0 n
  exact ⟨_, _, _, rfl, by omega⟩
theorem StoreIs.drew {w : World} {b : Nat} {l : List Deed} {F : Nat → Prop} (h : StoreIs w b l F) : StoreIs w.drew b l F := h
theorem below_undrew {w w' : World} (h : Below w.drew.heap.size w.drew w') : Below w.heap.size w w' := ⟨h.os, h.tape, h.output, h.size, h.block⟩
end Go.Proofs.YtgncclahhejcdaaDoor
