/-
  Hints on lists, against the newest that came of each node and key.
-/
import Derived.Test.YtkhdeaegbkenfahHnP
namespace Go.Proofs.Ytkhdeaegbkenfah
set_option linter.unusedVariables false
set_option linter.unusedSimpArgs false
open Go.RowKit

/-- a hint's place among forty-eight -/
def Hn.at (x : Hn) : Nat := x.n.toNat * 8 + x.k.toNat
theorem Hn.at_lt {x : Hn} (h : x.ok = true) : x.at < 48 := by
  have := (Hn.ok_iff x).1 h
  unfold Hn.at
  omega
theorem at_same {x y : Hn} (hx : x.ok = true) (hy : y.ok = true) : x.at = y.at ↔ x.n = y.n ∧ x.k = y.k := by
  have h1 := (Hn.ok_iff x).1 hx
  have h2 := (Hn.ok_iff y).1 hy
  unfold Hn.at
  constructor
  · intro h
    omega
  · rintro ⟨e1, e2⟩
    rw [e1, e2]
def updH (o : Nat → Int) (i : Nat) (v : Int) : Nat → Int := fun j => if j = i then v else o j
/-- the newest, with one more -/
def newBest (o : Nat → Int) (x : Hn) : Nat → Int := if o x.at < x.v then updH o x.at x.v else o
/-- of how many of the first m something came -/
def manyH (o : Nat → Int) : Nat → Nat
  | 0 => 0
  | m + 1 => manyH o m + (if 0 < o m then 1 else 0)
theorem many_off {o : Nat → Int} {i : Nat} {v : Int} : ∀ m, m ≤ i → manyH (updH o i v) m = manyH o m := by
  intro m
  induction m with
  | zero => intro _; rfl
  | succ m ih =>
    intro h
    have e : updH o i v m = o m := by unfold updH; rw [if_neg (by omega)]
    rw [manyH, manyH, ih (by omega), e]
theorem many_same {o : Nat → Int} {i : Nat} {v : Int} (hv : 0 < v) (ho : 0 < o i) : ∀ m, manyH (updH o i v) m = manyH o m := by
  intro m
  induction m with
  | zero => rfl
  | succ m ih =>
    rw [manyH, manyH, ih]
    by_cases h : m = i
    · subst h
      have e : updH o m v m = v := by unfold updH; rw [if_pos rfl]
      rw [e, if_pos hv, if_pos ho]
    · have e : updH o i v m = o m := by unfold updH; rw [if_neg h]
      rw [e]
theorem many_more {o : Nat → Int} {i : Nat} {v : Int} (hv : 0 < v) (ho : ¬ 0 < o i) : ∀ m, i < m → manyH (updH o i v) m = manyH o m + 1 := by
  intro m
  induction m with
  | zero => intro h; omega
  | succ m ih =>
    intro h
    by_cases hm : m = i
    · subst hm
      have e : updH o m v m = v := by unfold updH; rw [if_pos rfl]
      rw [manyH, manyH, many_off m (Nat.le_refl _), e, if_pos hv, if_neg ho]
    · have e : updH o i v m = o m := by unfold updH; rw [if_neg hm]
      rw [manyH, manyH, ih (by omega), e]
      omega
/-- what is there, against the newest that came -/
structure Best (l : List Hn) (lost : Nat) (o : Nat → Int) : Prop where
  good : GoodH l
  le : ∀ i, o i ≤ 1000
  pos : ∀ i, 0 ≤ o i
  is : lost = 0 → ∀ x ∈ l, o x.at = x.v
  has : lost = 0 → ∀ i, 0 < o i → ∃ x ∈ l, x.at = i
  cnt : lost = 0 → manyH o 48 = l.length
theorem many_zero (m : Nat) : manyH (fun _ => 0) m = 0 := by
  induction m with
  | zero => rfl
  | succ m ih => rw [manyH, ih]; rfl
theorem Best.nil : Best [] 0 (fun _ => 0) :=
  ⟨GoodH.nil, fun _ => by omega, fun _ => by omega, fun _ _ h => (by cases h), fun _ _ h => by omega, fun _ => many_zero 48⟩
theorem Best.add {l : List Hn} {lost : Nat} {o : Nat → Int} (h : Best l lost o) {x : Hn} (hx : x.ok = true) : Best (addH x l) (lost + addN x l) (newBest o x) := by
  have hr := (Hn.ok_iff x).1 hx
  have eA : addH x l = putH x l := by rw [addH, if_pos hx]
  have hG : GoodH (addH x l) := h.good.add x
  have hle : ∀ i, newBest o x i ≤ 1000 := fun i => by
    unfold newBest updH
    split
    · show (if i = x.at then x.v else o i) ≤ 1000
      split
      · omega
      · exact h.le i
    · exact h.le i
  have hpos : ∀ i, 0 ≤ newBest o x i := fun i => by
    unfold newBest updH
    split
    · show 0 ≤ (if i = x.at then x.v else o i)
      split
      · omega
      · exact h.pos i
    · exact h.pos i
  -- what is so where none was lost
  have key : lost + addN x l = 0 → (∀ y ∈ addH x l, newBest o x y.at = y.v) ∧ (∀ i, 0 < newBest o x i → ∃ y ∈ addH x l, y.at = i) ∧ manyH (newBest o x) 48 = (addH x l).length := by
    intro h0
    have hl0 : lost = 0 := by omega
    have hN : addN x l = 0 := by omega
    have hL : lostH x l = false := by
      cases hL : lostH x l
      · rfl
      · rw [addN, if_pos ⟨hx, hL⟩] at hN
        cases hN
    have his := h.is hl0
    have hhas := h.has hl0
    have hcnt := h.cnt hl0
    rw [eA]
    cases hn : newerH x l
    · have hl10 : ¬ 10 < (offH x l ++ [x]).length := by
        rw [lostH, hn, if_neg (by simp)] at hL
        exact of_decide_eq_false hL
      have eP : putH x l = offH x l ++ [x] := by rw [putH, hn, if_neg (by simp), if_neg hl10]
      rw [eP]
      -- of x's own place
      have hat : o x.at ≤ x.v ∧ newBest o x x.at = x.v := by
        have h1 : o x.at ≤ x.v := by
          by_cases hp : 0 < o x.at
          · obtain ⟨y, hy, e⟩ := hhas _ hp
            have hs := (at_same (h.good.ok y hy) hx).1 e
            have e2 := h.good.newer hy ((hSame_iff x y).2 hs)
            rw [hn] at e2
            have e3 := of_decide_eq_false e2.symm
            have e4 := his y hy
            rw [e] at e4
            omega
          · omega
        refine ⟨h1, ?_⟩
        unfold newBest updH
        split
        · simp
        · omega
      have hoff : ∀ i, i ≠ x.at → newBest o x i = o i := fun i hi => by
        unfold newBest updH
        split
        · simp [hi]
        · rfl
      refine ⟨fun y hy => ?_, fun i hi => ?_, ?_⟩
      · rcases List.mem_append.1 hy with hy | hy
        · obtain ⟨hy1, hy2⟩ := mem_off.1 hy
          rw [hoff _ (fun e => hy2 ((at_same (h.good.ok y hy1) hx).1 e))]
          exact his y hy1
        · obtain rfl := List.mem_singleton.1 hy
          exact hat.2
      · by_cases e : i = x.at
        · exact ⟨x, List.mem_append.2 (.inr (List.mem_singleton.2 rfl)), e.symm⟩
        · rw [hoff _ e] at hi
          obtain ⟨y, hy, ey⟩ := hhas i hi
          refine ⟨y, List.mem_append.2 (.inl (mem_off.2 ⟨hy, fun hs => e ?_⟩)), ey⟩
          rw [← ey]
          exact (at_same (h.good.ok y hy) hx).2 hs
      · by_cases hp : 0 < o x.at
        · obtain ⟨y, hy, e⟩ := hhas _ hp
          have hs := (at_same (h.good.ok y hy) hx).1 e
          obtain ⟨j, hj, rfl⟩ := List.getElem_of_mem hy
          have e1 : manyH (newBest o x) 48 = manyH o 48 := by
            unfold newBest
            split
            · exact many_same (by omega) hp 48
            · rfl
          rw [e1, hcnt, h.good.off hj ((hSame_iff x _).2 hs), List.length_append, List.length_eraseIdx_of_lt hj]
          simp
          omega
        · have hno : ∀ y ∈ l, hSame x y = false := fun y hy => by
            cases hsy : hSame x y
            · rfl
            · have e := (at_same (h.good.ok y hy) hx).2 ((hSame_iff x y).1 hsy)
              have e4 := his y hy
              have e5 := (Hn.ok_iff y).1 (h.good.ok y hy)
              rw [e] at e4
              omega
          have e1 : manyH (newBest o x) 48 = manyH o 48 + 1 := by
            unfold newBest
            rw [if_pos (by omega)]
            exact many_more (by omega) hp 48 (Hn.at_lt hx)
          rw [e1, hcnt, off_none hno, List.length_append]
          rfl
    · have eP : putH x l = l := by rw [putH, hn, if_pos rfl]
      have eB : newBest o x = o := by
        obtain ⟨z, hz, hz2⟩ := List.any_eq_true.1 hn
        rw [Bool.and_eq_true] at hz2
        have e := (at_same (h.good.ok z hz) hx).2 ((hSame_iff x z).1 hz2.1)
        have e2 := of_decide_eq_true hz2.2
        have e3 := his z hz
        rw [e] at e3
        unfold newBest
        rw [if_neg (by omega)]
      rw [eP, eB]
      exact ⟨his, hhas, hcnt⟩
  exact ⟨hG, hle, hpos, fun h0 => (key h0).1, fun h0 => (key h0).2.1, fun h0 => (key h0).2.2⟩
/-- those of a node and the others, one by one -/
theorem take_step (node : Int) (l : List Hn) (i : Nat) (h : i < l.length) :
    takeH node (l.take (i + 1)) = takeH node (l.take i) ++ (if (l[i].n == node) = true then [l[i]] else []) ∧
    leaveH node (l.take (i + 1)) = leaveH node (l.take i) ++ (if (l[i].n == node) = true then [] else [l[i]]) := by
  rw [List.take_succ_eq_append_getElem h, takeH, takeH, leaveH, leaveH, List.filter_append, List.filter_append]
  cases hb : (l[i].n == node) <;> simp [hb]
theorem take_before {node : Int} {l : List Hn} {i : Nat} (h : i < l.length) (hb : (l[i].n == node) = true) :
    (takeH node (l.take i)).length < (takeH node l).length ∧ (takeH node l)[(takeH node (l.take i)).length]? = some l[i] := by
  have e : takeH node l = takeH node (l.take i) ++ (l[i] :: takeH node (l.drop (i + 1))) := by
    conv => lhs; rw [← List.take_append_drop i l, List.drop_eq_getElem_cons h]
    rw [takeH, takeH, takeH, List.filter_append, List.filter_cons, if_pos hb]
  rw [e]
  exact ⟨by simp, by simp⟩
theorem leave_before {node : Int} {l : List Hn} {i : Nat} (h : i < l.length) (hb : (l[i].n == node) = false) :
    (leaveH node (l.take i)).length < (leaveH node l).length ∧ (leaveH node l)[(leaveH node (l.take i)).length]? = some l[i] := by
  have e : leaveH node l = leaveH node (l.take i) ++ (l[i] :: leaveH node (l.drop (i + 1))) := by
    conv => lhs; rw [← List.take_append_drop i l, List.drop_eq_getElem_cons h]
    rw [leaveH, leaveH, leaveH, List.filter_append, List.filter_cons, if_pos (by simp [hb])]
  rw [e]
  exact ⟨by simp, by simp⟩
end Go.Proofs.Ytkhdeaegbkenfah
