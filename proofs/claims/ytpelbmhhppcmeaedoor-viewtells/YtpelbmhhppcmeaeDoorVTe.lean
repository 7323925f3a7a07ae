/-
  What the document asks of views, on lists: for ViewTells.
-/
import Derived.Test.YtpelbmhhppcmeaeDoorVwA
import Derived.Test.YtpelbmhhppcmeaeDoorVwN
import Derived.Test.YtpelbmhhppcmeaeDoorRfN
import Derived.Test.YtpelbmhhppcmeaeDoorErrA
namespace Go.Proofs.YtpelbmhhppcmeaeDoor
set_option linter.unusedVariables false
set_option linter.unusedSimpArgs false
open Go.RowKit

theorem newV_bad {a b : Mm} {q : Bool} {E : Int} (h : newV a b = (q, E)) (hb : (!a.ok || !b.ok) = true) : q = false ∧ E = 1 := by
  unfold newV at h
  rw [if_pos] at h
  · cases h
    exact ⟨rfl, rfl⟩
  · cases ha : a.ok <;> cases hc : b.ok <;> simp_all
theorem newV_ok {a b : Mm} {q : Bool} {E : Int} (h : newV a b = (q, E)) (hb : (!a.ok || !b.ok) = false) : (a.n = b.n → q = nwB a b ∧ E = 0) ∧ (a.n ≠ b.n → q = false ∧ E = 3) := by
  unfold newV at h
  rw [if_neg] at h
  · constructor
    · intro hn
      rw [if_neg (by simpa using hn)] at h
      cases h
      exact ⟨rfl, rfl⟩
    · intro hn
      rw [if_pos hn] at h
      cases h
      exact ⟨rfl, rfl⟩
  · cases ha : a.ok <;> cases hc : b.ok <;> simp_all
theorem addV_e {l R1 : List Mm} {m : Mm} {R2 : Bool} {E : Int} (h : addV l m = (R1, R2, E)) : if ((badV l == 0) && !m.ok) = true then E = 1 else E = badV l := by
  unfold addV at h
  by_cases h0 : badV l = 0
  · rw [if_neg (by simpa using h0)] at h
    cases hm : m.ok
    · rw [if_pos hm] at h
      cases h
      rw [if_pos (by simp [h0])]
    · rw [if_neg (by rw [hm]; simp)] at h
      cases h
      rw [if_neg (by simp), h0]
  · rw [if_pos h0] at h
    cases h
    rw [if_neg (by simp [h0])]
theorem addV_zero {l R1 : List Mm} {m : Mm} {R2 : Bool} {E : Int} (h : addV l m = (R1, R2, E)) (hE : E = 0) : GoodV l ∧ addM m l = R1 ∧ isM m l = R2 := by
  unfold addV at h
  by_cases h0 : badV l = 0
  · rw [if_neg (by simpa using h0)] at h
    cases hm : m.ok
    · rw [if_pos hm] at h
      cases h
      omega
    · rw [if_neg (by rw [hm]; simp)] at h
      cases h
      exact ⟨badV_good h0, rfl, rfl⟩
  · rw [if_pos h0] at h
    cases h
    omega
theorem addV_not {l R1 : List Mm} {m : Mm} {R2 : Bool} {E : Int} (h : addV l m = (R1, R2, E)) (hE : E ≠ 0) : R1 = [] ∧ R2 = false := by
  unfold addV at h
  by_cases h0 : badV l = 0
  · rw [if_neg (by simpa using h0)] at h
    cases hm : m.ok
    · rw [if_pos hm] at h
      cases h
      exact ⟨rfl, rfl⟩
    · rw [if_neg (by rw [hm]; simp)] at h
      cases h
      exact absurd rfl hE
  · rw [if_pos h0] at h
    cases h
    exact ⟨rfl, rfl⟩
theorem bothV_e {a b R : List Mm} {E : Int} (h : bothV a b = (R, E)) : (badV a = 0 → E = badV b) ∧ (badV a ≠ 0 → E = badV a) := by
  unfold bothV at h
  by_cases h0 : badV a = 0
  · rw [if_neg (by simpa using h0)] at h
    by_cases h1 : badV b = 0
    · rw [if_neg (by simpa using h1)] at h
      cases h
      exact ⟨fun _ => h1.symm, fun h => absurd h0 h⟩
    · rw [if_pos h1] at h
      cases h
      exact ⟨fun _ => rfl, fun h => absurd h0 h⟩
  · rw [if_pos h0] at h
    cases h
    exact ⟨fun h => absurd h h0, fun _ => rfl⟩
theorem bothV_zero {a b R : List Mm} {E : Int} (h : bothV a b = (R, E)) (hE : E = 0) : GoodV a ∧ GoodV b ∧ bothM a b = R := by
  unfold bothV at h
  by_cases h0 : badV a = 0
  · rw [if_neg (by simpa using h0)] at h
    by_cases h1 : badV b = 0
    · rw [if_neg (by simpa using h1)] at h
      cases h
      exact ⟨badV_good h0, badV_good h1, rfl⟩
    · rw [if_pos h1] at h
      cases h
      exact absurd hE h1
  · rw [if_pos h0] at h
    cases h
    exact absurd hE h0
theorem bothV_not {a b R : List Mm} {E : Int} (h : bothV a b = (R, E)) (hE : E ≠ 0) : R = [] := by
  unfold bothV at h
  by_cases h0 : badV a = 0
  · rw [if_neg (by simpa using h0)] at h
    by_cases h1 : badV b = 0
    · rw [if_neg (by simpa using h1)] at h
      cases h
      exact absurd rfl hE
    · rw [if_pos h1] at h
      cases h
      rfl
  · rw [if_pos h0] at h
    cases h
    rfl
/-- the fault of an answer by what is there -/
def errA : Option Mm → Int
  | none => 5
  | some y => if y.s ≠ 0 ∧ y.f = 100 then 4 else 0
/-- a member as the document turns it -/
def upW (node : Int) (y : Mm) : Mm := if y.n = node then (if y.s ≠ 0 ∧ y.f = 100 then y else upM y) else y
theorem ansV_e {l R : List Mm} {node E : Int} (h : ansV l node = (R, E)) : badAns l node = E ∧ (E ≠ 0 → R = []) ∧ (E = 0 → R = ansM l node) := by
  unfold ansV at h
  by_cases h0 : badAns l node = 0
  · rw [if_neg (by simpa using h0)] at h
    cases h
    exact ⟨h0, fun h => absurd rfl h, fun _ => rfl⟩
  · rw [if_pos h0] at h
    cases h
    exact ⟨rfl, fun _ => rfl, fun h => absurd h h0⟩
theorem badAns_get {l : List Mm} {node : Int} (h : badV l = 0) (hn : inR node 0 5 = true) : badAns l node = errA (getM l node) := by
  cases hg : getM l node with
  | none => exact badAns_none h hn hg
  | some y => exact badAns_some h hn hg
theorem getM_app (a b : List Mm) (k : Int) : getM (a ++ b) k = (getM a k).or (getM b k) := by
  unfold getM
  exact List.find?_append
theorem take_low {l : List Mm} (h : RiseM l) {j : Nat} (hj : j < l.length) : getM (l.take j) l[j].n = none := by
  refine getM_none fun x hx => ?_
  obtain ⟨i, hi, rfl⟩ := List.getElem_of_mem hx
  rw [List.length_take] at hi
  rw [List.getElem_take]
  have := List.pairwise_iff_getElem.1 h i j (by omega) hj (by omega)
  omega
theorem errA_hit {l : List Mm} {j : Nat} {x : Mm} {node : Int} (h : RiseM l) (hj : j < l.length) (hx : l[j] = x) (hn : x.n = node) : errA (getM (l.take (j + 1)) node) = errA (some x) := by
  subst hx
  subst hn
  rw [List.take_succ_eq_append_getElem hj, getM_app, take_low h hj, getM_cons, if_pos rfl]
  rfl
theorem errA_miss {l : List Mm} {j : Nat} {x : Mm} {node : Int} (hj : j < l.length) (hx : l[j] = x) (hn : x.n ≠ node) : errA (getM (l.take (j + 1)) node) = errA (getM (l.take j) node) := by
  subst hx
  rw [List.take_succ_eq_append_getElem hj, getM_app, getM_cons, if_neg hn]
  cases getM (l.take j) node <;> rfl
theorem upW_step {l : List Mm} {j : Nat} {x : Mm} {node : Int} (hj : j < l.length) (hx : l[j] = x) : (l.take (j + 1)).map (upW node) = (l.take j).map (upW node) ++ [upW node x] := by
  subst hx
  rw [List.take_succ_eq_append_getElem hj, List.map_append]
  rfl
theorem upW_all {l : List Mm} {node : Int} (h : RiseM l) (hE : errA (getM l node) = 0) : l.map (upW node) = ansM l node := by
  unfold ansM
  refine List.map_congr_left fun y hy => ?_
  unfold upW
  by_cases hn : y.n = node
  · rw [if_pos hn, if_pos hn, if_neg]
    intro hq
    have := getM_at h hy
    rw [hn] at this
    rw [this] at hE
    have e : errA (some y) = 4 := if_pos hq
    omega
  · rw [if_neg hn, if_neg hn]
theorem upW_other {node : Int} {x : Mm} (h : x.n ≠ node) : upW node x = x := by
  unfold upW
  rw [if_neg h]
theorem upW_full {node : Int} {x : Mm} (h : x.n = node) (hs : x.s ≠ 0) (hf : x.f = 100) : upW node x = x := by
  unfold upW
  rw [if_pos h, if_pos ⟨hs, hf⟩]
theorem upW_up {node : Int} {x : Mm} (h : x.n = node) (hs : x.s ≠ 0) (hf : x.f ≠ 100) : upW node x = ⟨x.n, x.f + 1, 0⟩ := by
  unfold upW
  rw [if_pos h, if_neg (by rintro ⟨_, h⟩; exact hf h), upM_up hs]
theorem upW_alive {node : Int} {x : Mm} (h : x.n = node) (hs : x.s = 0) : upW node x = x := by
  unfold upW
  rw [if_pos h, if_neg (by rintro ⟨h, _⟩; exact h hs), upM_self hs]
theorem errA_full {x : Mm} (hs : x.s ≠ 0) (hf : x.f = 100) : errA (some x) = 4 := if_pos ⟨hs, hf⟩
theorem errA_fine {x : Mm} (h : x.s = 0 ∨ x.f ≠ 100) : errA (some x) = 0 := if_neg (by rintro ⟨h1, h2⟩; rcases h with h | h; exact h1 h; exact h h2)
end Go.Proofs.YtpelbmhhppcmeaeDoor
