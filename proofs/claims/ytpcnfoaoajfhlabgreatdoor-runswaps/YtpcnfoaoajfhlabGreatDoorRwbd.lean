/-
  A ring's points on lists: how they rise, whose a place is, round about.
  Rows of numbers of the call's own: those of the trees' text.
  A row of points in memory, and one appended to it.
-/
import Derived.Test.YtpcnfoaoajfhlabGreatDoorRwab
import Derived.Lib.Small
import Derived.Test.YtpcnfoaoajfhlabGreatDoorRwag
namespace Go.Proofs.YtpcnfoaoajfhlabGreatDoor
set_option linter.unusedVariables false
set_option linter.unusedSimpArgs false
set_option linter.unusedVariables false
set_option linter.unusedSimpArgs false
open Go.RowKit

/-- a point -/
structure Pt where
  p : Int
  n : Int
/-- by place, of the same by node -/
abbrev ltP (x y : Pt) : Prop := x.p < y.p ∨ (x.p = y.p ∧ x.n < y.n)
/-- two rows that rise and have the same points are the same -/
theorem rise_ext : ∀ {x y : List Pt}, x.Pairwise ltP → y.Pairwise ltP → (∀ e, e ∈ x ↔ e ∈ y) → x = y := by
  have irr : ∀ u v : Pt, ltP u v → ltP v u → False := fun u v h1 h2 => by
    rcases h1 with h1 | ⟨h1, h1'⟩ <;> rcases h2 with h2 | ⟨h2, h2'⟩ <;> omega
  have irf : ∀ u : Pt, ltP u u → False := fun u h => irr u u h h
  intro x
  induction x with
  | nil =>
    intro y _ _ h
    cases y with
    | nil => rfl
    | cons v y => exact absurd ((h v).2 (by simp)) (by simp)
  | cons u x ih =>
    intro y hx hy h
    cases y with
    | nil => exact absurd ((h u).1 (by simp)) (by simp)
    | cons v y =>
      obtain ⟨hu, hx'⟩ := List.pairwise_cons.1 hx
      obtain ⟨hv, hy'⟩ := List.pairwise_cons.1 hy
      have e : u = v := by
        rcases List.mem_cons.1 ((h u).1 (by simp)) with e | e
        · exact e
        · rcases List.mem_cons.1 ((h v).2 (by simp)) with e' | e'
          · exact e'.symm
          · exact (irr v u (hv u e) (hu v e')).elim
      subst e
      rw [ih hx' hy' (fun z => ?_)]
      constructor
      · intro hz
        rcases List.mem_cons.1 ((h z).1 (List.mem_cons_of_mem _ hz)) with e | e
        · subst e
          exact (irf _ (hu _ hz)).elim
        · exact e
      · intro hz
        rcases List.mem_cons.1 ((h z).2 (List.mem_cons_of_mem _ hz)) with e | e
        · subst e
          exact (irf _ (hv _ hz)).elim
        · exact e
/-- where the first point is that is not below a place: how many, if there is none -/
def firstP (t : Int) : List Pt → Nat
  | [] => 0
  | x :: l => if x.p < t then firstP t l + 1 else 0
theorem firstP_le (t : Int) : ∀ l, firstP t l ≤ l.length := by
  intro l
  induction l with
  | nil => exact Nat.le_refl _
  | cons x l ih =>
    unfold firstP
    split
    · rw [List.length_cons]; omega
    · exact Nat.zero_le _
/-- the owner of a place: 0 of none -/
def ownP (t : Int) (l : List Pt) : Option Int := match l.find? (fun x => decide (t ≤ x.p)) with
  | some x => some x.n
  | none => l.head?.map (·.n)
/-- who comes takes only for himself -/
theorem ownP_few (t : Int) (l : List Pt) (more : Int) (a b : Int) (ha : ownP t (l.filter (fun x => decide (x.n ≠ more))) = some a) (hb : ownP t l = some b) : b = a ∨ b = more := by
  unfold ownP at ha hb
  cases hf : l.find? (fun x => decide (t ≤ x.p)) with
  | some x =>
    rw [hf] at hb
    obtain rfl := Option.some.inj hb
    by_cases hx : x.n = more
    · exact .inr hx
    · left
      have e : (l.filter (fun x => decide (x.n ≠ more))).find? (fun x => decide (t ≤ x.p)) = some x := by
        clear ha hb
        induction l with
        | nil => cases hf
        | cons y l ih =>
          by_cases hy : t ≤ y.p
          · rw [List.find?_cons_of_pos (by simpa using hy)] at hf
            obtain rfl := Option.some.inj hf
            rw [List.filter_cons_of_pos (by simpa using hx), List.find?_cons_of_pos (by simpa using hy)]
          · rw [List.find?_cons_of_neg (by simpa using hy)] at hf
            by_cases hn : y.n = more
            · rw [List.filter_cons_of_neg (by simpa using hn)]
              exact ih hf
            · rw [List.filter_cons_of_pos (by simpa using hn), List.find?_cons_of_neg (by simpa using hy)]
              exact ih hf
      rw [e] at ha
      exact Option.some.inj ha
  | none =>
    rw [hf] at hb
    have e : (l.filter (fun x => decide (x.n ≠ more))).find? (fun x => decide (t ≤ x.p)) = none := by
      rw [List.find?_eq_none] at hf ⊢
      intro x hx
      exact hf x (List.mem_filter.1 hx).1
    rw [e] at ha
    cases l with
    | nil => cases hb
    | cons y l =>
      have hb' : y.n = b := Option.some.inj hb
      subst hb'
      by_cases hn : y.n = more
      · exact .inr hn
      · rw [List.filter_cons_of_pos (by simpa using hn)] at ha
        exact .inl (Option.some.inj ha)
/-- each once, in the order in which they come -/
def onceFrom (out : List Int) : List Int → List Int
  | [] => out
  | x :: l => if out.contains x = true then onceFrom out l else onceFrom (out ++ [x]) l
/-- the owners of a place, as many as there are -/
def ownersL (t : Int) (l : List Pt) : List Int := onceFrom [] ((l.drop (firstP t l) ++ l.take (firstP t l)).map (·.n))
theorem onceFrom_nodup : ∀ (l out : List Int), out.Nodup → (onceFrom out l).Nodup := by
  intro l
  induction l with
  | nil => intro out h; exact h
  | cons x l ih =>
    intro out h
    unfold onceFrom
    split
    · exact ih out h
    · rename_i hc
      refine ih _ ?_
      rw [List.nodup_append]
      refine ⟨h, by simp, fun a ha b hb => ?_⟩
      rw [List.mem_singleton.1 hb]
      intro e
      subst e
      exact hc (by simpa [List.contains_iff_mem] using ha)
theorem onceFrom_mem : ∀ (l out : List Int) (x : Int), x ∈ onceFrom out l → x ∈ out ∨ x ∈ l := by
  intro l
  induction l with
  | nil => intro out x h; exact .inl h
  | cons y l ih =>
    intro out x h
    unfold onceFrom at h
    split at h
    · rcases ih out x h with h | h
      · exact .inl h
      · exact .inr (List.mem_cons_of_mem _ h)
    · rcases ih _ x h with h | h
      · rcases List.mem_append.1 h with h | h
        · exact .inl h
        · rw [List.mem_singleton.1 h]
          exact .inr (by simp)
      · exact .inr (List.mem_cons_of_mem _ h)
theorem onceFrom_head : ∀ (l out : List Int) (x : Int), out.head? = some x → (onceFrom out l).head? = some x := by
  intro l
  induction l with
  | nil => intro out x h; exact h
  | cons y l ih =>
    intro out x h
    unfold onceFrom
    split
    · exact ih out x h
    · refine ih _ x ?_
      cases out with
      | nil => cases h
      | cons z out => exact h
theorem firstP_find (t : Int) : ∀ l : List Pt, l.find? (fun x => decide (t ≤ x.p)) = (l.drop (firstP t l)).head? := by
  intro l
  induction l with
  | nil => rfl
  | cons x l ih =>
    unfold firstP
    by_cases h : x.p < t
    · rw [if_pos h, List.find?_cons_of_neg (by simp; omega), ih]
      rfl
    · rw [if_neg h, List.find?_cons_of_pos (by simp; omega)]
      rfl
/-- the first owner is the owner -/
theorem owners_head (t : Int) (l : List Pt) : (ownersL t l).head? = ownP t l := by
  unfold ownersL ownP
  rw [firstP_find]
  cases hd : l.drop (firstP t l) with
  | cons x m =>
    rw [List.cons_append, List.map_cons]
    show (onceFrom [] (x.n :: _)).head? = some x.n
    unfold onceFrom
    exact onceFrom_head _ _ _ rfl
  | nil =>
    have e : firstP t l = l.length := by
      have h1 := firstP_le t l
      have h2 := List.drop_eq_nil_iff.1 hd
      omega
    rw [List.nil_append, e, List.take_length]
    cases l with
    | nil => rfl
    | cons x m =>
      rw [List.map_cons]
      show (onceFrom [] (x.n :: _)).head? = some x.n
      unfold onceFrom
      exact onceFrom_head _ _ _ rfl
theorem owners_nodup (t : Int) (l : List Pt) : (ownersL t l).Nodup := onceFrom_nodup _ _ List.nodup_nil
theorem owners_mem {t : Int} {l : List Pt} {x : Int} (h : x ∈ ownersL t l) : ∃ y ∈ l, y.n = x := by
  rcases onceFrom_mem _ _ _ h with h | h
  · cases h
  · obtain ⟨y, hy, rfl⟩ := List.mem_map.1 h
    rcases List.mem_append.1 hy with hy | hy
    · exact ⟨y, List.mem_of_mem_drop hy, rfl⟩
    · exact ⟨y, List.mem_of_mem_take hy, rfl⟩
/-- unlike numbers, each that of an i below m: no more than m -/
theorem few_of : ∀ (m : Nat) (f : Nat → Nat) (l : List Nat), l.Nodup → (∀ x ∈ l, ∃ i, i < m ∧ f i = x) → l.length ≤ m := by
  intro m
  induction m with
  | zero =>
    intro f l _ h
    cases l with
    | nil => exact Nat.le_refl _
    | cons x l =>
      obtain ⟨i, hi, _⟩ := h x (by simp)
      omega
  | succ m ih =>
    intro f l hn h
    have h1 : (l.erase (f m)).length ≤ m := by
      refine ih f _ (hn.erase _) (fun x hx => ?_)
      obtain ⟨hne, hx'⟩ := hn.mem_erase_iff.1 hx
      obtain ⟨i, hi, he⟩ := h x hx'
      refine ⟨i, ?_, he⟩
      by_cases e : i = m
      · subst e
        exact absurd he.symm hne
      · omega
    rw [List.length_erase] at h1
    split at h1
    · omega
    · omega
/-- what is wrong with some nodes, one by one: 0, nothing -/
def badFrom (seen : List Int) : List Int → Int
  | [] => 0
  | x :: l => if x < 0 ∨ 5 < x then 1 else if seen.contains x = true then 7 else badFrom (seen ++ [x]) l
def badNodes (l : List Int) : Int := if l.length = 0 then 5 else if 6 < l.length then 4 else badFrom [] l
theorem badFrom_step {l : List Int} {j : Nat} (h : j < l.length) : badFrom (l.take j) (l.drop j) = if l[j] < 0 ∨ 5 < l[j] then 1 else if (l.take j).contains l[j] = true then 7 else badFrom (l.take (j + 1)) (l.drop (j + 1)) := by
  rw [List.drop_eq_getElem_cons h, badFrom, List.take_succ_eq_append_getElem h]
theorem badFrom_good : ∀ (l seen : List Int), badFrom seen l = 0 → (∀ x ∈ l, 0 ≤ x ∧ x ≤ 5 ∧ x ∉ seen) ∧ l.Nodup := by
  intro l
  induction l with
  | nil => intro seen _; exact ⟨fun x hx => (by cases hx), List.nodup_nil⟩
  | cons y l ih =>
    intro seen h
    rw [badFrom] at h
    split at h
    · cases h
    · rename_i h1
      split at h
      · cases h
      · rename_i h2
        obtain ⟨h3, h4⟩ := ih _ h
        refine ⟨fun x hx => ?_, ?_⟩
        · rcases List.mem_cons.1 hx with rfl | hx
          · exact ⟨by omega, by omega, fun hs => h2 (by simpa [List.contains_iff_mem] using hs)⟩
          · obtain ⟨a1, a2, a3⟩ := h3 x hx
            exact ⟨a1, a2, fun hs => a3 (List.mem_append_left _ hs)⟩
        · rw [List.nodup_cons]
          exact ⟨fun hy => (h3 y hy).2.2 (by simp), h4⟩
/-- the order in which points rise, as the program tells it -/
def cfP (x y : Pt) : Int := if Lib.compareInt x.p y.p = 0 then Lib.compareInt x.n y.n else Lib.compareInt x.p y.p
theorem cmp_neg (x y : Int) : Lib.compareInt x y < 0 ↔ x < y := by
  unfold Lib.compareInt
  by_cases h1 : x < y
  · simp [h1]
  · by_cases h2 : y < x
    · simp [h1, h2]
    · simp [h1, h2]
theorem cmp_zero (x y : Int) : Lib.compareInt x y = 0 ↔ x = y := by
  unfold Lib.compareInt
  by_cases h1 : x < y
  · simp [h1]; omega
  · by_cases h2 : y < x
    · simp [h1, h2]; omega
    · simp [h1, h2]; omega
theorem cfP_neg (x y : Pt) : cfP x y < 0 ↔ ltP x y := by
  unfold cfP ltP
  split
  · rename_i h
    rw [cmp_zero] at h
    rw [cmp_neg]
    omega
  · rename_i h
    rw [cmp_zero] at h
    rw [cmp_neg]
    omega
theorem pt_ext {x y : Pt} (h1 : x.p = y.p) (h2 : x.n = y.n) : x = y := by
  cases x
  cases y
  cases h1
  cases h2
  rfl
def inP (x : Pt) : Bool := (decide (0 ≤ x.p) && decide (x.p ≤ 255)) && (decide (0 ≤ x.n) && decide (x.n ≤ 5))
/-- does a point rise above the one ahead? -/
def behindB : Option Pt → Pt → Bool
  | none, _ => true
  | some y, x => decide (ltP y x)
/-- what is asked of a row one by one, from a point on -/
def rightFrom : Option Pt → List Pt → Bool
  | _, [] => true
  | q, x :: l => inP x && behindB q x && rightFrom (some x) l
def rightP (l : List Pt) : Bool := decide (1 ≤ l.length) && decide (l.length ≤ 48) && rightFrom none l
/-- the point ahead of a place -/
def aheadP (l : List Pt) (j : Nat) : Option Pt := if j = 0 then none else l[j - 1]?
theorem right_step {l : List Pt} {j : Nat} (h : j < l.length) : rightFrom (aheadP l j) (l.drop j) = (inP l[j] && behindB (aheadP l j) l[j] && rightFrom (aheadP l (j + 1)) (l.drop (j + 1))) := by
  have e : aheadP l (j + 1) = some l[j] := by simp [aheadP, h]
  rw [List.drop_eq_getElem_cons h, e]
  rfl
theorem right_of : ∀ (l : List Pt) (q : Option Pt), l.Pairwise ltP → (∀ x ∈ l, inP x = true) → (∀ y, q = some y → ∀ x ∈ l, ltP y x) → rightFrom q l = true := by
  intro l
  induction l with
  | nil => intro q _ _ _; rfl
  | cons x l ih =>
    intro q h1 h2 h3
    obtain ⟨a1, a2⟩ := List.pairwise_cons.1 h1
    rw [rightFrom, h2 x (by simp), ih (some x) a2 (fun y hy => h2 y (List.mem_cons_of_mem _ hy)) (fun y hy z hz => by cases hy; exact a1 z hz)]
    cases q with
    | none => rfl
    | some y => simp [behindB, h3 y rfl x (by simp)]
theorem right_len {l : List Pt} (h : rightP l = true) : 1 ≤ l.length ∧ l.length ≤ 48 := by
  unfold rightP at h
  simp only [Bool.and_eq_true, decide_eq_true_eq] at h
  exact h.1
theorem right_in : ∀ (l : List Pt) (q : Option Pt), rightFrom q l = true → ∀ x ∈ l, inP x = true := by
  intro l
  induction l with
  | nil => intro q _ x hx; cases hx
  | cons y l ih =>
    intro q h x hx
    rw [rightFrom, Bool.and_eq_true, Bool.and_eq_true] at h
    rcases List.mem_cons.1 hx with rfl | hx
    · exact h.1.1
    · exact ih _ h.2 x hx
/-- where going round about begins -/
def firstQ (t : Int) (l : List Pt) : Nat := if firstP t l < l.length then firstP t l else 0
theorem firstQ_lt {t : Int} {l : List Pt} (h : l ≠ []) : firstQ t l < l.length := by
  unfold firstQ
  split
  · assumption
  · exact List.length_pos_iff.2 h
/-- round about from a place -/
def rotN (t : Int) (l : List Pt) : List Int := (l.drop (firstP t l) ++ l.take (firstP t l)).map (·.n)
theorem rotN_len (t : Int) (l : List Pt) : (rotN t l).length = l.length := by
  have := firstP_le t l
  simp [rotN]
  omega
theorem rotN_get {t : Int} {l : List Pt} {i : Nat} (h : i < l.length) (h' : (firstQ t l + i) % l.length < l.length) (hr : i < (rotN t l).length) : (rotN t l)[i] = l[(firstQ t l + i) % l.length].n := by
  have hf := firstP_le t l
  simp only [rotN, List.getElem_map]
  congr 1
  unfold firstQ at h' ⊢
  by_cases hlt : firstP t l < l.length
  · simp only [if_pos hlt] at h' ⊢
    by_cases hi : i < l.length - firstP t l
    · rw [List.getElem_append_left (by simp; omega), List.getElem_drop]
      congr 1
      exact (Nat.mod_eq_of_lt (by omega)).symm
    · rw [List.getElem_append_right (by simp; omega), List.getElem_take]
      congr 1
      simp only [List.length_drop]
      rw [show firstP t l + i = (i - (l.length - firstP t l)) + l.length by omega, Nat.add_mod_right, Nat.mod_eq_of_lt (by omega)]
  · have e : firstP t l = l.length := by omega
    simp only [e, Nat.lt_irrefl, if_false] at h' ⊢
    rw [List.getElem_append_right (by simp), List.getElem_take]
    congr 1
    simp
    exact (Nat.mod_eq_of_lt h).symm
theorem ownersL_rot (t : Int) (l : List Pt) : ownersL t l = onceFrom [] (rotN t l) := rfl
theorem onceFrom_more (l : List Int) (x : Int) : ∀ out, onceFrom out (l ++ [x]) = if (onceFrom out l).contains x = true then onceFrom out l else onceFrom out l ++ [x] := by
  induction l with
  | nil =>
    intro out
    simp only [List.nil_append, onceFrom]
    rfl
  | cons y l ih =>
    intro out
    rw [List.cons_append, onceFrom, onceFrom]
    split
    · exact ih out
    · exact ih _
theorem onceFrom_app (l m : List Int) : ∀ out, onceFrom out (l ++ m) = onceFrom (onceFrom out l) m := by
  induction l with
  | nil => intro out; rfl
  | cons y l ih =>
    intro out
    rw [List.cons_append, onceFrom, onceFrom]
    split
    · exact ih out
    · exact ih _
theorem onceFrom_pre (l : List Int) : ∀ out, ∃ r, onceFrom out l = out ++ r := by
  induction l with
  | nil => intro out; exact ⟨[], by simp [onceFrom]⟩
  | cons y l ih =>
    intro out
    rw [onceFrom]
    split
    · exact ih out
    · obtain ⟨r, hr⟩ := ih (out ++ [y])
      exact ⟨y :: r, by rw [hr]; simp⟩
/-- the owners met up to a place -/
def metN (t : Int) (l : List Pt) (i : Nat) : List Int := onceFrom [] ((rotN t l).take i)
theorem metN_zero (t : Int) (l : List Pt) : metN t l 0 = [] := rfl
theorem metN_all {t : Int} {l : List Pt} : metN t l l.length = ownersL t l := by
  unfold metN
  rw [← rotN_len t l, List.take_length, ownersL_rot]
theorem metN_step {t : Int} {l : List Pt} {i : Nat} (h : i < l.length) {x : Int} (hx : ∀ hr : i < (rotN t l).length, (rotN t l)[i] = x) : metN t l (i + 1) = if (metN t l i).contains x = true then metN t l i else metN t l i ++ [x] := by
  have hr : i < (rotN t l).length := by rw [rotN_len]; exact h
  unfold metN
  rw [List.take_succ_eq_append_getElem hr, onceFrom_more, hx hr]
theorem metN_pre (t : Int) (l : List Pt) (i : Nat) : ∃ r, ownersL t l = metN t l i ++ r := by
  obtain ⟨r, hr⟩ := onceFrom_pre ((rotN t l).drop i) (metN t l i)
  refine ⟨r, ?_⟩
  rw [← hr, ownersL_rot]
  unfold metN
  rw [← onceFrom_app, List.take_append_drop]
theorem metN_take {t : Int} {l : List Pt} {i m : Nat} (h : (metN t l i).length = m) : (ownersL t l).take m = metN t l i ∧ m ≤ (ownersL t l).length := by
  obtain ⟨r, hr⟩ := metN_pre t l i
  rw [hr, ← h, List.take_left, List.length_append]
  exact ⟨rfl, Nat.le_add_right _ _⟩
theorem metN_few {t : Int} {l : List Pt} (hl : ∀ x ∈ l, inP x = true) (i : Nat) : (metN t l i).length ≤ 6 := by
  have hnd : (metN t l i).Nodup := onceFrom_nodup _ _ List.nodup_nil
  have hm : ∀ x ∈ metN t l i, 0 ≤ x ∧ x ≤ 5 := fun x hx => by
    rcases onceFrom_mem _ _ _ hx with h | h
    · cases h
    · have h := List.mem_of_mem_take h
      unfold rotN at h
      obtain ⟨y, hy, rfl⟩ := List.mem_map.1 h
      have hy' : y ∈ l := by
        rcases List.mem_append.1 hy with hy | hy
        · exact List.mem_of_mem_drop hy
        · exact List.mem_of_mem_take hy
      have := hl y hy'
      simp [inP] at this
      exact this.2
  have e : (metN t l i).length = ((metN t l i).map Int.toNat).length := by rw [List.length_map]
  rw [e]
  refine few_of 6 id _ ?_ (fun x hx => ?_)
  · unfold List.Nodup
    rw [List.pairwise_map]
    refine hnd.imp_of_mem (fun {x y} hx hy hxy => ?_)
    have h1 := hm x hx
    have h2 := hm y hy
    omega
  · obtain ⟨y, hy, rfl⟩ := List.mem_map.1 hx
    have := hm y hy
    exact ⟨y.toNat, by omega, rfl⟩
/-- the owner is the one where going round about begins -/
theorem own_first {t : Int} {l : List Pt} (h : firstQ t l < l.length) : ownP t l = some l[firstQ t l].n := by
  have hr : 0 < (rotN t l).length := by rw [rotN_len]; omega
  have e := rotN_get (t := t) (l := l) (i := 0) (by omega) (by simpa [Nat.mod_eq_of_lt h] using h) hr
  have h1 := owners_head t l
  rw [ownersL_rot] at h1
  obtain ⟨x, m, hxm⟩ : ∃ x m, rotN t l = x :: m := by
    cases hh : rotN t l with
    | nil => rw [hh] at hr; simp at hr
    | cons x m => exact ⟨x, m, rfl⟩
  have e0 : (rotN t l)[0] = x := by simp [hxm]
  have hm : (firstQ t l + 0) % l.length = firstQ t l := by rw [Nat.add_zero, Nat.mod_eq_of_lt h]
  rw [e0] at e
  simp only [hm] at e
  rw [← h1, hxm, onceFrom]
  rw [if_neg (by simp)]
  show (onceFrom [x] m).head? = _
  rw [onceFrom_head m [x] x rfl, e]
end Go.Proofs.YtpcnfoaoajfhlabGreatDoor

namespace Go.Proofs.YtpcnfoaoajfhlabGreatDoor
set_option linter.unusedVariables false
set_option linter.unusedSimpArgs false
end Go.Proofs.YtpcnfoaoajfhlabGreatDoor

namespace Go.Proofs.YtpcnfoaoajfhlabGreatDoor
set_option linter.unusedVariables false
set_option linter.unusedSimpArgs false
open Go.RowKit

def Pt.val (e : Pt) : Value := .agg #[.int .i64 e.p, .int .i64 e.n]
def Pt.cells (e : Pt) : List Value := [.int .i64 e.p, .int .i64 e.n]
def rowT : List Pt → List Value
  | [] => []
  | e :: l => e.cells ++ rowT l
theorem Pt.cells_length (e : Pt) : e.cells.length = 2 := rfl
theorem rowT_append (l m : List Pt) : rowT (l ++ m) = rowT l ++ rowT m := by
  induction l with
  | nil => rfl
  | cons c l ih => simp only [List.cons_append, rowT, ih, List.append_assoc]
theorem rowT_length (l : List Pt) : (rowT l).length = l.length * 2 := by
  induction l with
  | nil => rfl
  | cons c l ih => simp only [rowT, List.length_append, Pt.cells_length, ih, List.length_cons]; omega
theorem rowT_one (l : List Pt) : ∀ u ∈ rowT l, u.oneCell' = true := by
  induction l with
  | nil => intro u hu; simp [rowT] at hu
  | cons c l ih =>
    intro u hu
    simp only [rowT, List.mem_append] at hu
    rcases hu with h | h
    · simp only [Pt.cells, List.mem_cons, List.not_mem_nil, or_false] at h
      rcases h with rfl | rfl <;> rfl
    · exact ih u h
theorem rowT_get (l : List Pt) (j : Nat) (h : j < l.length) : (rowT l)[j * 2]? = some (.int .i64 l[j].p) ∧ (rowT l)[j * 2 + 1]? = some (.int .i64 l[j].n) := by
  induction l generalizing j with
  | nil => simp at h
  | cons c l ih =>
    cases j with
    | zero => simp [rowT, Pt.cells]
    | succ j =>
      have e := ih j (by simpa using h)
      have e0 : (j + 1) * 2 = j * 2 + 2 := by omega
      simp only [rowT, Pt.cells, List.cons_append, List.nil_append, e0, List.getElem_cons_succ]
      have e1 : j * 2 + 2 + 1 = (j * 2 + 1) + 2 := by omega
      rw [e1]
      simpa using e
/-- a point's two cells at a place -/
structure PtAt (w : World) (b o : Nat) (e : Pt) : Prop where
  c0 : w.cell? ⟨b, o, none⟩ = some (.int .i64 e.p)
  c1 : w.cell? ⟨b, o + 1, none⟩ = some (.int .i64 e.n)
theorem PtAt.of_block {w w' : World} {b o : Nat} {e : Pt} (h : PtAt w b o e) (hb : w'.heap[b]? = w.heap[b]?) : PtAt w' b o e :=
  ⟨(World.cell?_of_block (a := ⟨b, o, none⟩) hb).trans h.c0, (World.cell?_of_block (a := ⟨b, o + 1, none⟩) hb).trans h.c1⟩
/-- a slice that holds a row of points -/
def PtsIs (w : World) (v : Value) (l : List Pt) : Prop :=
  l.length ≤ maxLen ∧ ∃ p cap, v = .slice p l.length cap ∧ (l ≠ [] → ∃ b o, p = some ⟨b, o, none⟩ ∧ b < w.heap.size ∧ ∀ j (h : j < l.length), PtAt w b (o + j * 2) l[j])
theorem PtsIs.blocks {w w' : World} {v : Value} {l : List Pt} (h : PtsIs w v l) (hs : w.heap.size ≤ w'.heap.size) (hb : ∀ c, v.ownBlock = some c → c < w.heap.size → w'.heap[c]? = w.heap[c]?) : PtsIs w' v l := by
  obtain ⟨h0, p, cap, rfl, h1⟩ := h
  refine ⟨h0, p, cap, rfl, fun hn => ?_⟩
  obtain ⟨b, o, rfl, hlt, hc⟩ := h1 hn
  exact ⟨b, o, rfl, Nat.lt_of_lt_of_le hlt hs, fun j hj => (hc j hj).of_block (hb b rfl hlt)⟩
theorem PtsIs.below {w w' : World} {v : Value} {l : List Pt} (h : PtsIs w v l) (hb : Below w.heap.size w w') : PtsIs w' v l :=
  h.blocks hb.size (fun c _ hc => hb.block c hc)
theorem PtsIs.nil (w : World) : PtsIs w (.slice none 0 0) [] := ⟨by simp, none, 0, rfl, fun h => absurd rfl h⟩
/-- a row of points of the call's own -/
def OwnP (B : Nat) (w : World) (v : Value) (l : List Pt) : Prop := w.ownsRow B 140 2 v l.length (rowT l)
theorem OwnP.nil (B : Nat) (w : World) : OwnP B w (.slice none 0 0) [] := World.ownsRow_nil w B _ 2
theorem OwnP.below {B : Nat} {w w' : World} {v : Value} {l : List Pt} (h : OwnP B w v l) (hb : Below w.heap.size w w') : OwnP B w' v l := ownsRow_belowF h hb
theorem OwnP.from {B : Nat} {w : World} {v : Value} {l : List Pt} (h : OwnP B w v l) (c : Nat) (hc : v.ownBlock = some c) : B ≤ c := ownsRow_fromF h c hc
theorem OwnP.pts {w : World} {B : Nat} {v : Value} {l : List Pt} (h : OwnP B w v l) : PtsIs w v l := by
  have hcell : ∀ g, v.ownBlock = some g → ∀ j u, (rowT l)[j]? = some u → w.cell? ⟨g, j, none⟩ = some u := fun g hg j u hu => by
    have := h.cells (g := g) hg j u hu
    simpa [Addr.add_lit] using this
  rcases h.2 with ⟨rfl, h0⟩ | ⟨g, cap, cur, rfl, _, hg, hc1, hc2, _⟩
  · rw [List.length_eq_zero_iff.1 h0]
    exact PtsIs.nil w
  · refine ⟨Nat.le_trans hc1 hc2, _, cap, rfl, fun _ => ⟨g, 0, rfl, (Array.getElem?_eq_some_iff.1 hg).1, fun j hj => ?_⟩⟩
    obtain ⟨a0, a1⟩ := rowT_get l j hj
    exact ⟨by simpa using hcell g rfl _ _ a0, by simpa using hcell g rfl _ _ a1⟩
theorem infoPt : (Tryz.prog.info? 140).map (fun i => (i.zero, i.size, i.bytes)) = some (some (.agg #[.int .i64 0, .int .i64 0]), 2, 16) := by kernel_rfl
theorem wp_appP {ops : Array Oper} {rest : List Oper} {o : Oper} {ac : Act} {Q : Exit → Act → World → Prop} (w : World) (hgd : o.guard = none) (s x : Operand)
    (ho : o.op = .call { callee := .builtin .append, args := #[s, x], argTypes := #[102, 102] }) (B : Nat) (v : Value) (out : List Pt) (e : Pt) (hs : ac.eval s = v)
    (hown : OwnP B w v out) (vb : Nat) (hx : ac.eval x = .slice (some ⟨vb, 0, none⟩) 1 1) (hv : w.heap[vb]? = some (.cells e.cells.toArray 140 (0, 0))) (hl : out.length ≤ 2000) (hB : B ≤ w.heap.size)
    (h : ∀ v' w', OwnP B w' v' (out ++ [e]) → Hid (w.grownBy w' v.ownBlock) → wpList Tryz.prog ops Q rest (ac.put o.dst v') w') : wpList Tryz.prog ops Q (o :: rest) ac w := by
  obtain ⟨i0, hi0, hz0, hz1, hz2⟩ := info_parts infoPt
  have q3 : ∀ (u : Value), u ∈ e.cells → u.oneCell' = true := fun u hu => rowT_one [e] u (by simpa [rowT] using hu)
  refine wpList_append_own w hgd s x 102 ho B 140 i0 _ 2 16 Tryz.underlying102 hi0 hz0 hz1 hz2 rfl (by omega) v out.length (rowT out) hs hown ⟨vb, 0, none⟩ 1 1 e.cells hx rfl (World.news_of_block hv) q3 (by unfold maxLen; omega) (by omega) hB ?_
  intro v' w' h1 h2 _
  refine h v' w' (show World.ownsRow _ _ _ _ _ _ _ from ?_) h2
  have hr : rowT (out ++ [e]) = rowT out ++ e.cells := by rw [rowT_append]; simp [rowT]
  rw [hr, List.length_append]
  exact h1
/-- a point's two cells at a block of its own -/
structure BoxP (w : World) (b : Nat) (p n : Int) : Prop where
  c0 : w.cell? ⟨b, 0, none⟩ = some (.int .i64 p)
  c1 : w.cell? ⟨b, 1, none⟩ = some (.int .i64 n)
  fz : ∀ j, w.frozen? ⟨b, j, none⟩ = false
theorem BoxP.of_block {w w' : World} {b : Nat} {p n : Int} (h : BoxP w b p n) (hb : w'.heap[b]? = w.heap[b]?) : BoxP w' b p n :=
  ⟨(World.cell?_of_block (a := ⟨b, 0, none⟩) hb).trans h.c0, (World.cell?_of_block (a := ⟨b, 1, none⟩) hb).trans h.c1, fun j => (World.frozen?_of_block (a := ⟨b, j, none⟩) hb).trans (h.fz j)⟩
theorem BoxP.lt {w : World} {b : Nat} {p n : Int} (h : BoxP w b p n) : b < w.heap.size := World.block_lt_of_cell? w _ h.c0
theorem BoxP.below {w w' : World} {b B : Nat} {p n : Int} (h : BoxP w b p n) (hb : Below B w w') (hB : b < B) : BoxP w' b p n := h.of_block (hb.block b hB)
theorem boxP_new (w : World) (p n : Int) (b : Nat) (h : b = w.heap.size) : BoxP (w.alloc (.cells #[.int .i64 p, .int .i64 n] 140)) b p n := by
  subst h
  exact ⟨by simp, by simp, fun j => by simp⟩
end Go.Proofs.YtpcnfoaoajfhlabGreatDoor
