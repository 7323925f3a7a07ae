/-
  Plain mathematics of a store: what was done, one behind the other; what a key was at a number; put, delete and swap as functions on what was done.
-/
import Derived.Test.YtpcnfoaoajfhlaaDoorStPure
namespace Go.Proofs.YtpcnfoaoajfhlaaDoor
set_option linter.unusedVariables false
set_option linter.unusedSimpArgs false

/-- something done: to a key, gone or put, the text -/
structure Deed where
  key : Int
  gone : Bool
  text : ByteArray

/-- the changes of a key, numbered from n + 1 on -/
def pastFrom (k : Int) : Nat → List Deed → List Chg
  | _, [] => []
  | n, d :: l => if d.key = k then ⟨(n : Int) + 1, d.gone, d.text⟩ :: pastFrom k (n + 1) l else pastFrom k (n + 1) l
def pastOf (done : List Deed) (k : Int) : List Chg := pastFrom k 0 done
/-- the newest change of a key -/
def lastFrom (k : Int) : Nat → List Deed → Chg → Chg
  | _, [], c => c
  | n, d :: l, c => lastFrom k (n + 1) l (if d.key = k then ⟨(n : Int) + 1, d.gone, d.text⟩ else c)
def lastOf (done : List Deed) (k : Int) : Chg := lastFrom k 0 done none0

theorem pastFrom_append (k : Int) (l m : List Deed) (n : Nat) : pastFrom k n (l ++ m) = pastFrom k n l ++ pastFrom k (n + l.length) m := by
  induction l generalizing n with
  | nil => simp [pastFrom]
  | cons d l ih =>
    simp only [List.cons_append, pastFrom, ih, List.length_cons]
    rw [show n + 1 + l.length = n + (l.length + 1) by omega]
    split <;> simp
theorem lastFrom_append (k : Int) (l m : List Deed) (n : Nat) (c : Chg) : lastFrom k n (l ++ m) c = lastFrom k (n + l.length) m (lastFrom k n l c) := by
  induction l generalizing n c with
  | nil => simp [lastFrom]
  | cons d l ih =>
    simp only [List.cons_append, lastFrom, ih, List.length_cons]
    rw [show n + 1 + l.length = n + (l.length + 1) by omega]
theorem pastFrom_length (k : Int) (l : List Deed) (n : Nat) : (pastFrom k n l).length ≤ l.length := by
  induction l generalizing n with
  | nil => simp [pastFrom]
  | cons d l ih =>
    have := ih (n + 1)
    simp only [pastFrom, List.length_cons]
    split <;> (try simp only [List.length_cons]) <;> omega
theorem pastOf_snoc (k : Int) (l : List Deed) (d : Deed) : pastOf (l ++ [d]) k = if d.key = k then pastOf l k ++ [⟨(l.length : Int) + 1, d.gone, d.text⟩] else pastOf l k := by
  unfold pastOf
  rw [pastFrom_append]
  simp only [pastFrom, Nat.zero_add]
  split <;> simp
theorem lastOf_snoc (k : Int) (l : List Deed) (d : Deed) : lastOf (l ++ [d]) k = if d.key = k then ⟨(l.length : Int) + 1, d.gone, d.text⟩ else lastOf l k := by
  unfold lastOf
  rw [lastFrom_append]
  simp only [lastFrom, Nat.zero_add]
theorem lastOf_nil (k : Int) : lastOf [] k = none0 := rfl
theorem pastOf_length (k : Int) (l : List Deed) : (pastOf l k).length ≤ l.length := pastFrom_length k l 0

/-- what the program seeks from the end is what the document says -/
theorem pick_pastOf (k : Int) (l : List Deed) (s : Nat) : pick (pastOf l k) s = lastOf (l.take s) k := by
  obtain ⟨r, rfl⟩ : ∃ r, l = List.reverse r := ⟨l.reverse, by simp⟩
  induction r generalizing s with
  | nil => simp [pastOf, pastFrom, lastOf, lastFrom, pick]
  | cons d r ih =>
    rw [List.reverse_cons, pastOf_snoc]
    by_cases hs : s ≤ r.reverse.length
    · rw [List.take_append_of_le_length hs]
      split
      · rw [pick_snoc_gt _ _ _ (by simp only []; omega)]; exact ih s
      · exact ih s
    · rw [List.take_of_length_le (by simp at hs ⊢; omega), lastOf_snoc]
      split
      · rw [pick_snoc_le _ _ _ (by simp only []; omega)]
      · rw [ih s, List.take_of_length_le (by omega)]

def stK (k : Int) : Bool := decide (0 ≤ k) && decide (k < 8)
theorem stK_iff (k : Int) : stK k = true ↔ 0 ≤ k ∧ k < 8 := by simp [stK]
/-- what a call leaves: what was done, the number, the fault -/
structure Out where
  done : List Deed
  num : Int
  err : Int
def recO (l : List Deed) (k : Int) (g : Bool) (t : ByteArray) : Out := if 1000 ≤ l.length then ⟨l, 0, 4⟩ else ⟨l ++ [⟨k, g, t⟩], (l.length : Int) + 1, 0⟩
def putO (l : List Deed) (k : Int) (t : ByteArray) : Out :=
  if ¬ stK k = true then ⟨l, 0, 1⟩ else if 12 < t.size then ⟨l, 0, 4⟩ else recO l k false t
def delO (l : List Deed) (k : Int) : Out :=
  if ¬ stK k = true then ⟨l, 0, 1⟩ else if (lastOf l k).gone = true then ⟨l, 0, 5⟩ else recO l k true ByteArray.empty
def swapO (l : List Deed) (k v : Int) (t : ByteArray) : Out :=
  if ¬ stK k = true then ⟨l, 0, 1⟩ else if 12 < t.size then ⟨l, 0, 4⟩ else if ¬ (lastOf l k).ver = v then ⟨l, 0, 7⟩ else recO l k false t
end Go.Proofs.YtpcnfoaoajfhlaaDoor
