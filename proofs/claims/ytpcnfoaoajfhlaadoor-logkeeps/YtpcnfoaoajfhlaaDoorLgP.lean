/-
  Plain mathematics of a log's bytes: records one behind the other, and what belongs to no whole one.
-/
import Derived.Test.YtpcnfoaoajfhlaaDoorPastPM
namespace Go.Proofs.YtpcnfoaoajfhlaaDoor
set_option linter.unusedVariables false
set_option linter.unusedSimpArgs false

/-- a text's bytes as numbers -/
def txtN (t : ByteArray) : List Nat := t.data.toList.map (fun b => b.toNat)
theorem txtN_length (t : ByteArray) : (txtN t).length = t.size := by rw [txtN, List.length_map]; rfl
theorem txtN_byte (t : ByteArray) : ∀ b ∈ txtN t, b < 256 := by
  intro b hb
  obtain ⟨c, _, rfl⟩ := List.mem_map.1 hb
  exact c.toNat_lt
def whatN (d : Deed) : Nat := d.key.toNat + (if d.gone = true then 8 else 0)
/-- a record's bytes -/
def encD (d : Deed) : List Nat := whatN d :: d.text.size :: txtN d.text
theorem encD_length (d : Deed) : (encD d).length = d.text.size + 2 := by simp [encD, txtN_length]
def flatD : List Deed → List Nat
  | [] => []
  | d :: l => encD d ++ flatD l
theorem flatD_append (l m : List Deed) : flatD (l ++ m) = flatD l ++ flatD m := by
  induction l with
  | nil => rfl
  | cons d l ih => simp only [List.cons_append, flatD, ih, List.append_assoc]
theorem flatD_snoc (l : List Deed) (d : Deed) : flatD (l ++ [d]) = flatD l ++ encD d := by rw [flatD_append]; simp [flatD]
/-- no whole record stands at its beginning -/
def NoRec (p : List Nat) : Prop := ∀ a b r, p = a :: b :: r → r.length < b
/-- a beginning of a record that is not whole -/
def Part (p : List Nat) : Prop := ∃ d k, k < (encD d).length ∧ p = (encD d).take k
theorem Part.no {p : List Nat} (h : Part p) : NoRec p := by
  obtain ⟨d, k, hk, rfl⟩ := h
  intro a b r he
  rw [encD_length] at hk
  match k, hk, he with
  | 0, _, he => simp at he
  | 1, _, he => simp [encD] at he
  | k + 2, hk, he =>
    simp only [encD, List.take_succ_cons, List.cons.injEq] at he
    obtain ⟨_, hb, hr⟩ := he
    rw [← hr, ← hb, List.length_take, txtN_length]
    omega
theorem part_nil : Part [] := ⟨⟨0, false, ByteArray.empty⟩, 0, by simp [encD_length], by simp⟩
theorem Part.take {p : List Nat} (h : Part p) (n : Nat) : Part (p.take n) := by
  obtain ⟨d, k, hk, rfl⟩ := h
  exact ⟨d, min n k, by omega, by rw [List.take_take]⟩
def lenD (l : List Deed) (i : Nat) : Nat := (flatD (l.take i)).length
theorem lenD_zero (l : List Deed) : lenD l 0 = 0 := by simp [lenD, flatD]
theorem lenD_succ {l : List Deed} {i : Nat} (h : i < l.length) : lenD l (i + 1) = lenD l i + (l[i].text.size + 2) := by
  rw [lenD, List.take_succ_eq_append_getElem h, flatD_snoc, List.length_append, encD_length]
  rfl
theorem lenD_all {l : List Deed} {i : Nat} (h : l.length ≤ i) : lenD l i = (flatD l).length := by rw [lenD, List.take_of_length_le h]
theorem lenD_mono {l : List Deed} {i j : Nat} (h : i ≤ j) (hj : j ≤ l.length) : lenD l i + 2 * (j - i) ≤ lenD l j := by
  induction j with
  | zero => obtain rfl : i = 0 := by omega
            simp
  | succ j ih =>
    by_cases hij : i = j + 1
    · subst hij; simp
    · have h1 := ih (by omega) (by omega)
      rw [lenD_succ (by omega)]
      omega
theorem lenD_take {l : List Deed} {m i : Nat} (h : i ≤ m) : lenD (l.take m) i = lenD l i := by rw [lenD, List.take_take, Nat.min_eq_left h]; rfl
theorem lenD_append {l m : List Deed} {i : Nat} (h : i ≤ l.length) : lenD (l ++ m) i = lenD l i := by rw [lenD, List.take_append_of_le_length h]; rfl
/-- what is left of the bytes behind a cut -/
theorem cut_bytes (l : List Deed) {p : List Nat} (hp : Part p) (K : Nat) :
    ∃ m p', m ≤ l.length ∧ Part p' ∧ (flatD l ++ p).take K = flatD (l.take m) ++ p' ∧ lenD l m ≤ K ∧ ∀ i, m < i → i ≤ l.length → K < lenD l i := by
  induction l generalizing K with
  | nil => exact ⟨0, p.take K, Nat.le_refl _, hp.take K, by simp [flatD], by simp [lenD, flatD], fun i h1 h2 => by simp at h2; omega⟩
  | cons d l ih =>
    by_cases hK : K < (encD d).length
    · refine ⟨0, (encD d).take K, Nat.zero_le _, ⟨d, K, hK, rfl⟩, ?_, by simp [lenD, flatD], fun i h1 h2 => ?_⟩
      · simp only [flatD, List.append_assoc, List.take_zero, List.nil_append]
        rw [List.take_append_of_le_length (by omega)]
      · have h3 := lenD_mono (l := d :: l) (i := 1) (j := i) (by omega) h2
        have h4 : lenD (d :: l) 1 = (encD d).length := by simp [lenD, flatD]
        omega
    · obtain ⟨m, p', h1, h2, h3, h4, h5⟩ := ih (K - (encD d).length)
      have hl : ∀ i, lenD (d :: l) (i + 1) = (encD d).length + lenD l i := fun i => by simp [lenD, flatD]
      refine ⟨m + 1, p', by simp; omega, h2, ?_, by rw [hl]; omega, fun i hi1 hi2 => ?_⟩
      · simp only [flatD, List.append_assoc, List.take_succ_cons]
        rw [List.take_append, h3, List.take_of_length_le (by omega)]
      · obtain ⟨q, rfl⟩ : ∃ q, i = q + 1 := ⟨i - 1, by omega⟩
        rw [hl]
        have := h5 q (by omega) (by simpa using hi2)
        omega

/-- what a record tells to a store -/
def doO (l : List Deed) (d : Deed) : Out := if d.gone = true then delO l d.key else putO l d.key d.text
/-- each of them goes, one behind the other -/
def Fits (l : List Deed) : Prop := ∀ i (h : i < l.length), (doO (l.take i) l[i]).err = 0 ∧ (doO (l.take i) l[i]).done = l.take (i + 1)
theorem fits_nil : Fits [] := fun i h => absurd h (by simp)
theorem Fits.take {l : List Deed} (h : Fits l) (m : Nat) : Fits (l.take m) := by
  intro i hi
  have hi' : i < m ∧ i < l.length := by simpa [List.length_take, Nat.lt_min] using hi
  have := h i hi'.2
  rw [List.getElem_take, List.take_take, List.take_take, Nat.min_eq_left (by omega), Nat.min_eq_left (by omega)]
  exact this
theorem Fits.snoc {l : List Deed} {d : Deed} (h : Fits l) (hd : (doO l d).err = 0) (he : (doO l d).done = l ++ [d]) : Fits (l ++ [d]) := by
  intro i hi
  rw [List.length_append] at hi
  by_cases hl : i < l.length
  · rw [List.getElem_append_left hl, List.take_append_of_le_length (by omega), List.take_append_of_le_length (by omega)]
    exact h i hl
  · obtain rfl : i = l.length := by simp at hi; omega
    rw [List.getElem_append_right (Nat.le_refl _), List.take_append_of_le_length (Nat.le_refl _)]
    simp only [Nat.sub_self, List.getElem_cons_zero, List.take_length]
    rw [List.take_of_length_le (by simp)]
    exact ⟨hd, he⟩
end Go.Proofs.YtpcnfoaoajfhlaaDoor
