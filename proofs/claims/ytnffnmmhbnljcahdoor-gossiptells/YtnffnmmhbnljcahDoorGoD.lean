/-
  Who knows what, on lists: what is wrong with calls, what each knows behind them.
-/
import Derived.Test.YtnffnmmhbnljcahDoorEn2
namespace Go.Proofs.YtnffnmmhbnljcahDoor
set_option linter.unusedVariables false
set_option linter.unusedSimpArgs false
open Go.RowKit

/-- two tell each other all that they know -/
def stepG (s : List Nat) (c : Nat × Nat) : List Nat := (s.set c.1 (s.getD c.1 0 ||| s.getD c.2 0)).set c.2 (s.getD c.1 0 ||| s.getD c.2 0)
def playG (s : List Nat) (cs : List (Nat × Nat)) : List Nat := cs.foldl stepG s
/-- at first each knows its own -/
def ownG (n : Nat) : List Nat := (List.range n).map (fun i => 2 ^ i)
def okC (n : Nat) (c : Nat × Nat) : Prop := c.1 < n ∧ c.2 < n ∧ c.1 ≠ c.2
def fullG (n : Nat) : Nat := 2 ^ n - 1
def doneG (n : Nat) (s : List Nat) : Prop := ∀ i, i < n → s.getD i 0 = fullG n
def pairsG (n : Nat) : List (Nat × Nat) := (List.range n).flatMap (fun a => ((List.range n).filter (fun b => Nat.blt a b)).map (fun b => (a, b)))
theorem stepG_len (s : List Nat) (c : Nat × Nat) : (stepG s c).length = s.length := by simp [stepG]
theorem playG_len : ∀ (cs : List (Nat × Nat)) (s : List Nat), (playG s cs).length = s.length := by
  intro cs
  induction cs with
  | nil => intro s; rfl
  | cons c cs ih =>
    intro s
    show (playG (stepG s c) cs).length = _
    rw [ih, stepG_len]
theorem ownG_len (n : Nat) : (ownG n).length = n := by simp [ownG]
theorem getD_set_same {s : List Nat} {i x : Nat} (h : i < s.length) : (s.set i x).getD i 0 = x := by
  rw [List.getD_eq_getElem?_getD, List.getElem?_set_self h]
  rfl
theorem getD_set_other {s : List Nat} {i j x : Nat} (h : i ≠ j) : (s.set j x).getD i 0 = s.getD i 0 := by
  rw [List.getD_eq_getElem?_getD, List.getElem?_set_ne (Ne.symm h), List.getD_eq_getElem?_getD]
theorem stepG_other {s : List Nat} {c : Nat × Nat} {i : Nat} (h1 : i ≠ c.1) (h2 : i ≠ c.2) : (stepG s c).getD i 0 = s.getD i 0 := by
  unfold stepG
  rw [getD_set_other h2, getD_set_other h1]
theorem stepG_one {s : List Nat} {c : Nat × Nat} (h1 : c.1 < s.length) (h : c.1 ≠ c.2) : (stepG s c).getD c.1 0 = s.getD c.1 0 ||| s.getD c.2 0 := by
  unfold stepG
  rw [getD_set_other h, getD_set_same h1]
theorem stepG_two {s : List Nat} {c : Nat × Nat} (h2 : c.2 < s.length) : (stepG s c).getD c.2 0 = s.getD c.1 0 ||| s.getD c.2 0 := by
  unfold stepG
  rw [getD_set_same (by simpa using h2)]
/-- what is known stays known -/
theorem lor_full {n x : Nat} (h : x < 2 ^ n) : fullG n ||| x = fullG n := by
  unfold fullG
  refine Nat.eq_of_testBit_eq fun i => ?_
  rw [Nat.testBit_or, Nat.testBit_two_pow_sub_one]
  by_cases hi : i < n
  · simp [hi]
  · rw [Nat.testBit_lt_two_pow (Nat.lt_of_lt_of_le h (Nat.pow_le_pow_right (by omega) (by omega)))]
    simp
def smallG (n : Nat) (s : List Nat) : Prop := ∀ i, s.getD i 0 < 2 ^ n
theorem stepG_cases (s : List Nat) (c : Nat × Nat) (i : Nat) : (stepG s c).getD i 0 = s.getD i 0 ∨ (stepG s c).getD i 0 = s.getD c.1 0 ||| s.getD c.2 0 := by
  unfold stepG
  by_cases h2 : i = c.2
  · by_cases hl : c.2 < s.length
    · exact .inr (by rw [h2]; exact getD_set_same (by simpa using hl))
    · left
      rw [h2, List.set_eq_of_length_le (i := c.2) (by simp; omega)]
      by_cases h1 : c.2 = c.1
      · rw [h1, List.set_eq_of_length_le (by omega)]
      · rw [getD_set_other h1]
  · rw [getD_set_other h2]
    by_cases h1 : i = c.1
    · by_cases hl : c.1 < s.length
      · exact .inr (by rw [h1]; exact getD_set_same hl)
      · left
        rw [List.set_eq_of_length_le (by omega)]
    · rw [getD_set_other h1]
      exact .inl rfl
theorem stepG_small {n : Nat} {s : List Nat} (c : Nat × Nat) (h : smallG n s) : smallG n (stepG s c) := fun i => by
  rcases stepG_cases s c i with e | e <;> rw [e]
  · exact h i
  · exact Nat.or_lt_two_pow (h _) (h _)
theorem playG_small {n : Nat} : ∀ {cs : List (Nat × Nat)} {s : List Nat}, smallG n s → smallG n (playG s cs) := by
  intro cs
  induction cs with
  | nil => intro s h; exact h
  | cons c cs ih => intro s h; exact ih (stepG_small c h)
theorem ownG_small (n : Nat) : smallG n (ownG n) := fun i => by
  unfold ownG
  rw [List.getD_eq_getElem?_getD]
  by_cases hi : i < n
  · rw [List.getElem?_eq_getElem (by simpa using hi)]
    simp
    exact Nat.pow_lt_pow_right (by omega) hi
  · rw [List.getElem?_eq_none (by simp; omega)]
    exact Nat.two_pow_pos n
theorem stepG_done {n : Nat} {s : List Nat} {c : Nat × Nat} (hc : okC n c) (hs : smallG n s) (hd : doneG n s) : doneG n (stepG s c) := fun i hi => by
  rcases stepG_cases s c i with e | e <;> rw [e]
  · exact hd i hi
  · rw [hd _ hc.1]
    exact lor_full (hs _)
theorem playG_done {n : Nat} : ∀ {cs : List (Nat × Nat)} {s : List Nat}, (∀ c ∈ cs, okC n c) → smallG n s → doneG n s → doneG n (playG s cs) := by
  intro cs
  induction cs with
  | nil => intro s _ _ h; exact h
  | cons c cs ih => intro s hc hs hd; exact ih (fun x hx => hc x (List.mem_cons_of_mem _ hx)) (stepG_small c hs) (stepG_done (hc c (by simp)) hs hd)
theorem playG_app (s : List Nat) (a b : List (Nat × Nat)) : playG s (a ++ b) = playG (playG s a) b := by
  unfold playG
  rw [List.foldl_append]
/-- what is wrong with a call of n nodes -/
def callE (n : Int) (c : List Int) : Int := if c.length = 2 then (if c.any (fun x => !inR x 0 (n - 1)) = true then 1 else if c.getD 0 0 = c.getD 1 0 then 3 else 0) else 3
/-- what is wrong with the first call with which something is -/
def firstE (n : Int) : List (List Int) → Int
  | [] => 0
  | c :: cs => if callE n c = 0 then firstE n cs else callE n c
def callsE (n : Int) (cs : List (List Int)) : Int := if inR n 1 6 = true then (if 40 < cs.length then 4 else firstE n cs) else 1
def pairC (c : List Int) : Nat × Nat := ((c.getD 0 0).toNat, (c.getD 1 0).toNat)
theorem callE_ok {n : Nat} {c : List Int} (h : callE n c = 0) : ∃ a b : Nat, c = [(a : Int), (b : Int)] ∧ a < n ∧ b < n ∧ a ≠ b := by
  unfold callE at h
  split at h
  · rename_i hl
    match c, hl with
    | [x, y], _ =>
      split at h
      · omega
      · rename_i h1
        split at h
        · omega
        · rename_i h2
          have hx : inR x 0 ((n : Int) - 1) = true := by
            cases e : inR x 0 ((n : Int) - 1)
            · exact absurd (by simp [e]) h1
            · rfl
          have hy : inR y 0 ((n : Int) - 1) = true := by
            cases e : inR y 0 ((n : Int) - 1)
            · exact absurd (by simp [e]) h1
            · rfl
          simp [inR] at hx hy h2
          exact ⟨x.toNat, y.toNat, by rw [Int.toNat_of_nonneg hx.1, Int.toNat_of_nonneg hy.1], by omega, by omega, by omega⟩
  · omega
theorem firstE_zero {n : Int} : ∀ {cs : List (List Int)}, firstE n cs = 0 → ∀ c ∈ cs, callE n c = 0 := by
  intro cs
  induction cs with
  | nil => intro _ c hc; cases hc
  | cons d cs ih =>
    intro h c hc
    unfold firstE at h
    split at h
    · rename_i h0
      rcases List.mem_cons.1 hc with rfl | hc
      · exact h0
      · exact ih h c hc
    · omega
theorem firstE_of {n : Int} : ∀ {cs : List (List Int)}, (∀ c ∈ cs, callE n c = 0) → firstE n cs = 0 := by
  intro cs
  induction cs with
  | nil => intro _; rfl
  | cons d cs ih =>
    intro h
    unfold firstE
    rw [if_pos (h d (by simp))]
    exact ih (fun c hc => h c (List.mem_cons_of_mem _ hc))
theorem firstE_drop {n : Int} {cs : List (List Int)} {j : Nat} (hj : j < cs.length) : firstE n (cs.drop j) = if callE n cs[j] = 0 then firstE n (cs.drop (j + 1)) else callE n cs[j] := by
  rw [List.drop_eq_getElem_cons hj]
  rfl
theorem inR_nat {n : Int} (h : inR n 1 6 = true) : ∃ k : Nat, n = k ∧ 1 ≤ k ∧ k ≤ 6 := by
  simp [inR] at h
  exact ⟨n.toNat, by omega, by omega, by omega⟩
theorem callsE_ok {n : Int} {cs : List (List Int)} (h : callsE n cs = 0) : (∃ k : Nat, n = k ∧ 1 ≤ k ∧ k ≤ 6) ∧ cs.length ≤ 40 ∧ ∀ c ∈ cs, callE n c = 0 := by
  unfold callsE at h
  split at h
  · rename_i h1
    split at h
    · omega
    · exact ⟨inR_nat h1, by omega, firstE_zero h⟩
  · omega
theorem callE_pair {n : Nat} {c : List Int} (h : callE n c = 0) : okC n (pairC c) ∧ c = [((pairC c).1 : Int), ((pairC c).2 : Int)] := by
  obtain ⟨a, b, rfl, ha, hb, hab⟩ := callE_ok h
  have e : pairC [(a : Int), (b : Int)] = (a, b) := by simp [pairC]
  rw [e]
  exact ⟨⟨ha, hb, hab⟩, rfl⟩
/-- what each knows behind calls -/
def knowG (n : Nat) (cs : List (List Int)) : List Nat := playG (ownG n) (cs.map pairC)
theorem knowG_len (n : Nat) (cs : List (List Int)) : (knowG n cs).length = n := by rw [knowG, playG_len, ownG_len]
theorem knowG_small (n : Nat) (cs : List (List Int)) : smallG n (knowG n cs) := playG_small (ownG_small n)
theorem knowG_take {n : Nat} {cs : List (List Int)} {j : Nat} (hj : j < cs.length) : knowG n (cs.take (j + 1)) = stepG (knowG n (cs.take j)) (pairC cs[j]) := by
  rw [List.take_succ_eq_append_getElem hj, knowG, List.map_append, playG_app]
  rfl
def numZ (l : List Nat) : List Int := l.map (fun (x : Nat) => (x : Int))
/-- what Play tells -/
def playZ (n : Int) (cs : List (List Int)) : List Int := if callsE n cs = 0 then numZ (knowG n.toNat cs) else []
/-- what Done tells -/
def doneZ (n : Int) (cs : List (List Int)) : Bool := decide (callsE n cs = 0) && (knowG n.toNat cs).all (fun x => x == fullG n.toNat)
theorem doneG_all {n : Nat} {s : List Nat} (hl : s.length = n) : s.all (fun x => x == fullG n) = true ↔ doneG n s := by
  rw [List.all_eq_true]
  constructor
  · intro h i hi
    rw [List.getD_eq_getElem?_getD, List.getElem?_eq_getElem (by omega)]
    have := h _ (List.getElem_mem (show i < s.length by omega))
    simpa using this
  · intro h x hx
    obtain ⟨i, hi, rfl⟩ := List.getElem_of_mem hx
    have := h i (by omega)
    rw [List.getD_eq_getElem?_getD, List.getElem?_eq_getElem hi] at this
    simpa using this
end Go.Proofs.YtnffnmmhbnljcahDoor
