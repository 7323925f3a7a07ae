/-
  Where a key lies in a cache: sort.Find, cmp.Compare and package cache's place, by their contracts.
-/
import Derived.Test.YteamkhnmknjkfadCaK
namespace Go.Proofs.Yteamkhnmknjkfad
set_option linter.unusedVariables false
set_option linter.unusedSimpArgs false
open Go.RowKit

theorem below_drewN (B : Nat) (w : World) (n : Nat) : Below B w (w.drewN n) := ⟨rfl, rfl, rfl, Nat.le_refl _, fun _ _ => rfl⟩
/-- the two boxes that the closure has captured, and the row -/
structure Caught (w : World) (kb lb : Nat) (key : Int) (b o cap : Nat) (l : List En) : Prop where
  ck : w.cell? ⟨kb, 0, none⟩ = some (.int .i64 key)
  cl : w.cell? ⟨lb, 0, none⟩ = some (.slice (some ⟨b, o, none⟩) l.length cap)
  row : ∀ j (h : j < l.length), EnAt w b (o + j * 5) l[j]
  lt : b < w.heap.size
theorem Caught.below {w w' : World} {kb lb : Nat} {key : Int} {b o cap : Nat} {l : List En} (h : Caught w kb lb key b o cap l) (hb : Below w.heap.size w w') : Caught w' kb lb key b o cap l :=
  ⟨(World.cell?_of_block (a := ⟨kb, 0, none⟩) (hb.block kb (World.block_lt_of_cell? w _ h.ck))).trans h.ck, (World.cell?_of_block (a := ⟨lb, 0, none⟩) (hb.block lb (World.block_lt_of_cell? w _ h.cl))).trans h.cl, fun j hj => (h.row j hj).of_block (hb.block b h.lt), Nat.lt_of_lt_of_le h.lt hb.size⟩

/-- how many keys of a rising row are less -/
def placeE : List En → Int → Nat
  | [], _ => 0
  | e :: l, key => if e.k < key then placeE l key + 1 else 0
/-- what a row has of a key -/
def getE (l : List En) (key : Int) : Option En := l.find? (fun e => e.k == key)
/-- keys rising -/
def Rising (l : List En) : Prop := l.Pairwise (fun x y => x.k < y.k)
theorem placeE_le (l : List En) (key : Int) : placeE l key ≤ l.length := by
  induction l with
  | nil => simp [placeE]
  | cons e l ih => simp only [placeE]; split <;> simp <;> omega
theorem placeE_less (l : List En) (key : Int) (j : Nat) (hj : j < l.length) (h : j < placeE l key) : l[j].k < key := by
  induction l generalizing j with
  | nil => simp at hj
  | cons e l ih =>
    simp only [placeE] at h
    split at h
    · cases j with
      | zero => simpa
      | succ j => exact ih j (by simpa using hj) (by omega)
    · omega
theorem placeE_more (l : List En) (key : Int) (hs : Rising l) (j : Nat) (hj : j < l.length) (h : placeE l key ≤ j) : key ≤ l[j].k := by
  induction l generalizing j with
  | nil => simp at hj
  | cons e l ih =>
    have hs' := List.pairwise_cons.1 hs
    simp only [placeE] at h
    split at h
    · cases j with
      | zero => omega
      | succ j => exact ih hs'.2 j (by simpa using hj) (by omega)
    · cases j with
      | zero => simp; omega
      | succ j =>
        have hj' : j < l.length := by simpa using hj
        have := hs'.1 l[j] (List.getElem_mem _)
        simp only [List.getElem_cons_succ]
        omega
theorem getE_place (l : List En) (key : Int) (hs : Rising l) : (∃ hj : placeE l key < l.length, l[placeE l key].k = key) ↔ (getE l key).isSome = true := by
  constructor
  · rintro ⟨hj, h⟩
    rw [getE, List.find?_isSome]
    exact ⟨_, List.getElem_mem hj, by simpa using h⟩
  · intro h
    rw [getE, List.find?_isSome] at h
    obtain ⟨x, hx, hk⟩ := h
    obtain ⟨j, hj, rfl⟩ := List.getElem_of_mem hx
    have hk : l[j].k = key := by simpa using hk
    have h1 : placeE l key ≤ j := by
      rcases Nat.lt_or_ge j (placeE l key) with h | h
      · have := placeE_less l key j hj h; omega
      · exact h
    have h2 : placeE l key < l.length := by omega
    refine ⟨h2, ?_⟩
    have h3 := placeE_more l key hs _ h2 (Nat.le_refl _)
    rcases Nat.lt_or_ge (placeE l key) j with h | h
    · have := List.pairwise_iff_getElem.1 hs _ _ h2 hj h
      omega
    · have : placeE l key = j := by omega
      simp only [this]; exact hk
theorem getE_some {l : List En} {key : Int} {x : En} (hs : Rising l) (h : getE l key = some x) : ∃ hj : placeE l key < l.length, l[placeE l key] = x ∧ x.k = key := by
  obtain ⟨hj, hk⟩ := (getE_place l key hs).2 (by rw [h]; rfl)
  refine ⟨hj, ?_, ?_⟩
  · obtain ⟨i, hi, rfl⟩ := List.getElem_of_mem (List.mem_of_find?_eq_some h)
    have hx : l[i].k = key := by simpa using List.find?_some h
    rcases Nat.lt_trichotomy (placeE l key) i with h' | h' | h'
    · have := List.pairwise_iff_getElem.1 hs _ _ hj hi h'; omega
    · simp only [h']
    · have := List.pairwise_iff_getElem.1 hs _ _ hi hj h'; omega
  · simpa using List.find?_some h

def lowK (p : Option Int) (k : Int) : Bool := match p with | some q => decide (k ≤ q) | none => false
theorem badRow_cons (p : Option Int) (e : En) (l : List En) : badRow p (e :: l) = if e.bad ≠ 0 then e.bad else if lowK p e.k = true then 3 else badRow (some e.k) l := by cases p <;> rfl
theorem badRow_good {p : Option Int} {l : List En} (h : badRow p l = 0) : (∀ e ∈ l, e.bad = 0) ∧ Rising l ∧ ∀ q, p = some q → ∀ e ∈ l, q < e.k := by
  induction l generalizing p with
  | nil => exact ⟨by simp, List.Pairwise.nil, by simp⟩
  | cons e l ih =>
    rw [badRow_cons] at h
    by_cases h0 : e.bad = 0
    · rw [if_neg (by simpa using h0)] at h
      split at h
      · omega
      · rename_i hp
        obtain ⟨i1, i2, i3⟩ := ih h
        refine ⟨?_, List.pairwise_cons.2 ⟨fun y hy => i3 e.k rfl y hy, i2⟩, ?_⟩
        · intro x hx
          rcases List.mem_cons.1 hx with rfl | hx
          · exact h0
          · exact i1 x hx
        · rintro q rfl x hx
          have hq : q < e.k := by simpa [lowK] using hp
          rcases List.mem_cons.1 hx with rfl | hx
          · exact hq
          · have := i3 e.k rfl x hx; omega
    · rw [if_pos h0] at h
      exact absurd h h0
theorem badRow_zero {p : Option Int} {l : List En} (h1 : ∀ e ∈ l, e.bad = 0) (h2 : Rising l) (h3 : ∀ q, p = some q → ∀ e ∈ l, q < e.k) : badRow p l = 0 := by
  induction l generalizing p with
  | nil => cases p <;> rfl
  | cons e l ih =>
    rw [badRow_cons, if_neg (by simpa using h1 e (by simp)), if_neg, ih (fun x hx => h1 x (by simp [hx])) (List.pairwise_cons.1 h2).2 (fun q hq x hx => by rw [← Option.some.inj hq]; exact (List.pairwise_cons.1 h2).1 x hx)]
    cases p with
    | none => simp [lowK]
    | some q => have := h3 q rfl e (by simp); simpa [lowK] using this
/-- a right cache -/
structure GoodL (l : List En) : Prop where
  len : l.length ≤ 8
  all : ∀ e ∈ l, e.bad = 0
  rise : Rising l
theorem badL_good {l : List En} (h : badL l = 0) : GoodL l := by
  unfold badL at h
  split at h
  · omega
  · obtain ⟨h1, h2, _⟩ := badRow_good h
    exact ⟨by omega, h1, h2⟩
theorem GoodL.bad {l : List En} (h : GoodL l) : badL l = 0 := by
  rw [badL, if_neg (by have := h.len; omega)]
  exact badRow_zero h.all h.rise (by simp)

end Go.Proofs.Yteamkhnmknjkfad
