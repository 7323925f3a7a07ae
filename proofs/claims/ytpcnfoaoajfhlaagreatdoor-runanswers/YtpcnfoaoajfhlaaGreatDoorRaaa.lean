/-
  Plain mathematics on a store's changes: the cells of a row of changes; which change of a key is the newest up to a number.
  Plain mathematics of a store: what was done, one behind the other; what a key was at a number; put, delete and swap as functions on what was done.
  Plain: the cells of the document's store; what is newest, step by step.
  Plain mathematics of a store's past: what was at a number stays; from its version on it is the same; ahead of it it is older; what is kept is right.
  Package entry by its contracts: what is wrong with an entry, what two entries know, whether one is true at a number. Nothing old in memory turns.
-/
import GoSem.Claim
import Derived.Test.YtpcnfoaoajfhlaaGreatDoorRows
import Derived.WalkKit
import Derived.Laws.StructEq
import Derived.Deep.DeepCutAuto
import Derived.Deep.CutBlock
import Derived.Deep.LoopGhost
import Derived.ProofKit
import Derived.OpenShut
import Derived.Handy
import Derived.WalkSmall
namespace Go.Proofs.YtpcnfoaoajfhlaaGreatDoor
set_option linter.unusedVariables false
set_option linter.unusedSimpArgs false
set_option linter.unusedVariables false
set_option linter.unusedSimpArgs false

/-- a change of a key: its number, gone or not, its text -/
structure Chg where
  ver : Int
  gone : Bool
  text : ByteArray

def Chg.cells (c : Chg) : List Value := [.int .i64 c.ver, .bool c.gone, .string c.text]
def Chg.val (c : Chg) : Value := .agg #[.int .i64 c.ver, .bool c.gone, .string c.text]
def rowOf : List Chg → List Value
  | [] => []
  | c :: l => c.cells ++ rowOf l
theorem rowOf_length (l : List Chg) : (rowOf l).length = l.length * 3 := by
  induction l with
  | nil => rfl
  | cons c l ih => simp only [rowOf, List.length_append, ih, List.length_cons, Chg.cells, List.length_nil]; omega
theorem rowOf_append (l m : List Chg) : rowOf (l ++ m) = rowOf l ++ rowOf m := by
  induction l with
  | nil => rfl
  | cons c l ih => simp only [List.cons_append, rowOf, ih, List.append_assoc]
theorem rowOf_get (l : List Chg) (j : Nat) (h : j < l.length) :
    (rowOf l)[j * 3]? = some (.int .i64 l[j].ver) ∧ (rowOf l)[j * 3 + 1]? = some (.bool l[j].gone) ∧ (rowOf l)[j * 3 + 2]? = some (.string l[j].text) := by
  induction l generalizing j with
  | nil => simp at h
  | cons c l ih =>
    cases j with
    | zero => simp [rowOf, Chg.cells]
    | succ j =>
      have e := ih j (by simpa using h)
      have e0 : (j + 1) * 3 = j * 3 + 3 := by omega
      simp only [rowOf, Chg.cells, List.cons_append, List.nil_append, e0, List.getElem_cons_succ]
      have e1 : j * 3 + 3 + 1 = (j * 3 + 1) + 3 := by omega
      have e2 : j * 3 + 3 + 2 = (j * 3 + 2) + 3 := by omega
      rw [e1, e2]
      simpa using e

def none0 : Chg := ⟨0, true, ByteArray.empty⟩
/-- the newest change up to s -/
def pick (l : List Chg) (s : Int) : Chg := (l.reverse.find? fun c => decide (c.ver ≤ s)).getD none0
theorem pick_nil (s : Int) : pick [] s = none0 := rfl
theorem pick_snoc_le (l : List Chg) (c : Chg) (s : Int) (h : c.ver ≤ s) : pick (l ++ [c]) s = c := by simp [pick, h]
theorem pick_snoc_gt (l : List Chg) (c : Chg) (s : Int) (h : ¬ c.ver ≤ s) : pick (l ++ [c]) s = pick l s := by simp [pick, h]
theorem pick_take_succ (l : List Chg) (s : Int) (m : Nat) (h : m < l.length) : l.take (m + 1) = l.take m ++ [l[m]] := by
  rw [List.take_succ_eq_append_getElem h]
end Go.Proofs.YtpcnfoaoajfhlaaGreatDoor

namespace Go.Proofs.YtpcnfoaoajfhlaaGreatDoor
set_option linter.unusedVariables false
set_option linter.unusedSimpArgs false

/-- something done: to a key, gone or put, the text -/
structure Deed where
  key : Int
  gone : Bool
  text : ByteArray

/-- the changes of a key, numbered from n + 1 on -/
def pastFrom (k : Int) : Nat → List Deed → List Chg
  | _, [] => []
  | n, d :: l => if d.key = k then ⟨(n : Int) + 1, d.gone, d.text⟩ :: pastFrom k (n + 1) l else pastFrom k (n + 1) l
def pastOf (done : List Deed) (k : Int) : List Chg := pastFrom k 0 done
/-- the newest change of a key -/
def lastFrom (k : Int) : Nat → List Deed → Chg → Chg
  | _, [], c => c
  | n, d :: l, c => lastFrom k (n + 1) l (if d.key = k then ⟨(n : Int) + 1, d.gone, d.text⟩ else c)
def lastOf (done : List Deed) (k : Int) : Chg := lastFrom k 0 done none0

theorem pastFrom_append (k : Int) (l m : List Deed) (n : Nat) : pastFrom k n (l ++ m) = pastFrom k n l ++ pastFrom k (n + l.length) m := by
  induction l generalizing n with
  | nil => simp [pastFrom]
  | cons d l ih =>
    simp only [List.cons_append, pastFrom, ih, List.length_cons]
    rw [show n + 1 + l.length = n + (l.length + 1) by omega]
    split <;> simp
theorem lastFrom_append (k : Int) (l m : List Deed) (n : Nat) (c : Chg) : lastFrom k n (l ++ m) c = lastFrom k (n + l.length) m (lastFrom k n l c) := by
  induction l generalizing n c with
  | nil => simp [lastFrom]
  | cons d l ih =>
    simp only [List.cons_append, lastFrom, ih, List.length_cons]
    rw [show n + 1 + l.length = n + (l.length + 1) by omega]
theorem pastFrom_length (k : Int) (l : List Deed) (n : Nat) : (pastFrom k n l).length ≤ l.length := by
  induction l generalizing n with
  | nil => simp [pastFrom]
  | cons d l ih =>
    have := ih (n + 1)
    simp only [pastFrom, List.length_cons]
    split <;> (try simp only [List.length_cons]) <;> omega
theorem pastOf_snoc (k : Int) (l : List Deed) (d : Deed) : pastOf (l ++ [d]) k = if d.key = k then pastOf l k ++ [⟨(l.length : Int) + 1, d.gone, d.text⟩] else pastOf l k := by
  unfold pastOf
  rw [pastFrom_append]
  simp only [pastFrom, Nat.zero_add]
  split <;> simp
theorem lastOf_snoc (k : Int) (l : List Deed) (d : Deed) : lastOf (l ++ [d]) k = if d.key = k then ⟨(l.length : Int) + 1, d.gone, d.text⟩ else lastOf l k := by
  unfold lastOf
  rw [lastFrom_append]
  simp only [lastFrom, Nat.zero_add]
theorem lastOf_nil (k : Int) : lastOf [] k = none0 := rfl
theorem pastOf_length (k : Int) (l : List Deed) : (pastOf l k).length ≤ l.length := pastFrom_length k l 0

/-- what the program seeks from the end is what the document says -/
theorem pick_pastOf (k : Int) (l : List Deed) (s : Nat) : pick (pastOf l k) s = lastOf (l.take s) k := by
  obtain ⟨r, rfl⟩ : ∃ r, l = List.reverse r := ⟨l.reverse, by simp⟩
  induction r generalizing s with
  | nil => simp [pastOf, pastFrom, lastOf, lastFrom, pick]
  | cons d r ih =>
    rw [List.reverse_cons, pastOf_snoc]
    by_cases hs : s ≤ r.reverse.length
    · rw [List.take_append_of_le_length hs]
      split
      · rw [pick_snoc_gt _ _ _ (by simp only []; omega)]; exact ih s
      · exact ih s
    · rw [List.take_of_length_le (by simp at hs ⊢; omega), lastOf_snoc]
      split
      · rw [pick_snoc_le _ _ _ (by simp only []; omega)]
      · rw [ih s, List.take_of_length_le (by omega)]

def stK (k : Int) : Bool := decide (0 ≤ k) && decide (k < 8)
theorem stK_iff (k : Int) : stK k = true ↔ 0 ≤ k ∧ k < 8 := by simp [stK]
/-- what a call leaves: what was done, the number, the fault -/
structure Out where
  done : List Deed
  num : Int
  err : Int
def recO (l : List Deed) (k : Int) (g : Bool) (t : ByteArray) : Out := if 1000 ≤ l.length then ⟨l, 0, 4⟩ else ⟨l ++ [⟨k, g, t⟩], (l.length : Int) + 1, 0⟩
def putO (l : List Deed) (k : Int) (t : ByteArray) : Out :=
  if ¬ stK k = true then ⟨l, 0, 1⟩ else if 12 < t.size then ⟨l, 0, 4⟩ else recO l k false t
def delO (l : List Deed) (k : Int) : Out :=
  if ¬ stK k = true then ⟨l, 0, 1⟩ else if (lastOf l k).gone = true then ⟨l, 0, 5⟩ else recO l k true ByteArray.empty
def swapO (l : List Deed) (k v : Int) (t : ByteArray) : Out :=
  if ¬ stK k = true then ⟨l, 0, 1⟩ else if 12 < t.size then ⟨l, 0, 4⟩ else if ¬ (lastOf l k).ver = v then ⟨l, 0, 7⟩ else recO l k false t
end Go.Proofs.YtpcnfoaoajfhlaaGreatDoor

namespace Go.Proofs.YtpcnfoaoajfhlaaGreatDoor
set_option linter.unusedVariables false
set_option linter.unusedSimpArgs false

def Deed.cells (d : Deed) : List Value := [.int .i64 d.key, .int .i64 0, .int .i64 0, .bool d.gone, .string d.text]
def rowE : List Deed → List Value
  | [] => []
  | d :: l => d.cells ++ rowE l
theorem rowE_length (l : List Deed) : (rowE l).length = l.length * 5 := by
  induction l with
  | nil => rfl
  | cons c l ih => simp only [rowE, List.length_append, ih, List.length_cons, Deed.cells, List.length_nil]; omega
theorem rowE_append (l m : List Deed) : rowE (l ++ m) = rowE l ++ rowE m := by
  induction l with
  | nil => rfl
  | cons c l ih => simp only [List.cons_append, rowE, ih, List.append_assoc]
theorem rowE_get (l : List Deed) (j : Nat) (h : j < l.length) :
    (rowE l)[j * 5]? = some (.int .i64 l[j].key) ∧ (rowE l)[j * 5 + 3]? = some (.bool l[j].gone) ∧ (rowE l)[j * 5 + 4]? = some (.string l[j].text) := by
  induction l generalizing j with
  | nil => simp at h
  | cons c l ih =>
    cases j with
    | zero => simp [rowE, Deed.cells]
    | succ j =>
      have e := ih j (by simpa using h)
      have e0 : (j + 1) * 5 = j * 5 + 5 := by omega
      simp only [rowE, Deed.cells, List.cons_append, List.nil_append, e0, List.getElem_cons_succ]
      have e1 : j * 5 + 5 + 3 = (j * 5 + 3) + 5 := by omega
      have e2 : j * 5 + 5 + 4 = (j * 5 + 4) + 5 := by omega
      rw [e1, e2]
      simpa using e
theorem lastOf_take_hit (l : List Deed) (k : Int) (j : Nat) (h : j < l.length) (hk : l[j].key = k) : lastOf (l.take (j + 1)) k = ⟨(j : Int) + 1, l[j].gone, l[j].text⟩ := by
  rw [List.take_succ_eq_append_getElem h, lastOf_snoc, if_pos hk]
  simp only [List.length_take]
  rw [Nat.min_eq_left (by omega)]
theorem lastOf_take_miss (l : List Deed) (k : Int) (j : Nat) (h : j < l.length) (hk : ¬ l[j].key = k) : lastOf (l.take (j + 1)) k = lastOf (l.take j) k := by
  rw [List.take_succ_eq_append_getElem h, lastOf_snoc, if_neg hk]
end Go.Proofs.YtpcnfoaoajfhlaaGreatDoor

namespace Go.Proofs.YtpcnfoaoajfhlaaGreatDoor
set_option linter.unusedVariables false
set_option linter.unusedSimpArgs false

theorem lastOf_ver (l : List Deed) (k : Int) : 0 ≤ (lastOf l k).ver ∧ (lastOf l k).ver ≤ l.length := by
  obtain ⟨r, rfl⟩ : ∃ r, l = List.reverse r := ⟨l.reverse, by simp⟩
  induction r with
  | nil => simp [lastOf, lastFrom, none0]
  | cons d r ih =>
    rw [List.reverse_cons, lastOf_snoc]
    simp only [List.length_append, List.length_cons, List.length_nil]
    split
    · simp only []; omega
    · omega
theorem lastOf_take_ver (l : List Deed) (k : Int) (s : Nat) : 0 ≤ (lastOf (l.take s) k).ver ∧ (lastOf (l.take s) k).ver ≤ s := by
  have h := lastOf_ver (l.take s) k
  have : (l.take s).length ≤ s := List.length_take_le _ _
  omega
/-- from its version on, up to its time, each time tells the same -/
theorem lastOf_between (l : List Deed) (k : Int) (s q : Nat) (hs : s ≤ l.length) (h1 : (lastOf (l.take s) k).ver ≤ q) (h2 : q ≤ s) : lastOf (l.take q) k = lastOf (l.take s) k := by
  induction s with
  | zero => obtain rfl : q = 0 := by omega
            rfl
  | succ s ih =>
    have hlt : s < l.length := by omega
    by_cases hq : q = s + 1
    · rw [hq]
    · by_cases hk : l[s].key = k
      · rw [lastOf_take_hit l k s hlt hk] at h1
        simp only [] at h1
        omega
      · rw [lastOf_take_miss l k s hlt hk] at h1 ⊢
        exact ih (by omega) h1 (by omega)
/-- what was at a number is the same whatever is done later -/
theorem lastOf_later (l m : List Deed) (k : Int) (s : Nat) (hs : s ≤ l.length) : lastOf ((l ++ m).take s) k = lastOf (l.take s) k := by
  rw [List.take_append_of_le_length hs]

/-- what is right: texts of at most 12 bytes, of what is gone none -/
def GoodD (d : Deed) : Prop := d.text.size ≤ 12 ∧ (d.gone = true → d.text = ByteArray.empty)
def Good (l : List Deed) : Prop := ∀ d ∈ l, GoodD d
theorem lastFrom_good (k : Int) (l : List Deed) (h : Good l) (n : Nat) (c : Chg) (hc : c.text.size ≤ 12 ∧ (c.gone = true → c.text = ByteArray.empty)) :
    (lastFrom k n l c).text.size ≤ 12 ∧ ((lastFrom k n l c).gone = true → (lastFrom k n l c).text = ByteArray.empty) := by
  induction l generalizing n c with
  | nil => exact hc
  | cons d l ih =>
    simp only [lastFrom]
    refine ih (fun x hx => h x (List.mem_cons_of_mem _ hx)) _ _ ?_
    split
    · exact h d List.mem_cons_self
    · exact hc
theorem lastOf_good (k : Int) (l : List Deed) (h : Good l) : (lastOf l k).text.size ≤ 12 ∧ ((lastOf l k).gone = true → (lastOf l k).text = ByteArray.empty) :=
  lastFrom_good k l h 0 none0 ⟨by decide, fun _ => rfl⟩
theorem good_take (l : List Deed) (h : Good l) (s : Nat) : Good (l.take s) := fun d hd => h d (List.mem_of_mem_take hd)
theorem good_rec (l : List Deed) (k : Int) (g : Bool) (t : ByteArray) (h : Good l) (hd : GoodD ⟨k, g, t⟩) : Good (recO l k g t).done := by
  unfold recO
  split
  · exact h
  · intro d hm
    rcases List.mem_append.1 hm with h1 | h1
    · exact h d h1
    · rw [List.mem_singleton.1 h1]; exact hd
theorem good_put (l : List Deed) (k : Int) (t : ByteArray) (h : Good l) : Good (putO l k t).done := by
  unfold putO
  split
  · exact h
  · split
    · exact h
    · rename_i h12
      exact good_rec l k false t h ⟨by simp only []; omega, fun e => by cases e⟩
theorem good_del (l : List Deed) (k : Int) (h : Good l) : Good (delO l k).done := by
  unfold delO
  split
  · exact h
  · split
    · exact h
    · exact good_rec l k true ByteArray.empty h ⟨show ByteArray.empty.size ≤ 12 by decide, fun _ => rfl⟩
theorem rec_grows (l : List Deed) (k : Int) (g : Bool) (t : ByteArray) : ∃ m, (recO l k g t).done = l ++ m := by
  unfold recO
  split
  · exact ⟨[], by simp⟩
  · exact ⟨_, rfl⟩
theorem put_grows (l : List Deed) (k : Int) (t : ByteArray) : ∃ m, (putO l k t).done = l ++ m := by
  unfold putO
  split
  · exact ⟨[], by simp⟩
  · split
    · exact ⟨[], by simp⟩
    · exact rec_grows l k false t
theorem del_grows (l : List Deed) (k : Int) : ∃ m, (delO l k).done = l ++ m := by
  unfold delO
  split
  · exact ⟨[], by simp⟩
  · split
    · exact ⟨[], by simp⟩
    · exact rec_grows l k true ByteArray.empty
end Go.Proofs.YtpcnfoaoajfhlaaGreatDoor

namespace Go.Proofs.YtpcnfoaoajfhlaaGreatDoor
set_option linter.unusedVariables false
set_option linter.unusedSimpArgs false
open Go.RowKit

/-- an entry -/
structure En where
  k : Int
  v : Int
  a : Int
  g : Bool
  t : ByteArray
def En.val (e : En) : Value := .agg #[.int .i64 e.k, .int .i64 e.v, .int .i64 e.a, .bool e.g, .string e.t]
def inR (n lo hi : Int) : Bool := decide (lo ≤ n) && decide (n ≤ hi)
/-- what is wrong with an entry: 0, nothing -/
def bad (k v a : Int) (g : Bool) (t : ByteArray) : Int :=
  if (inR k 0 7 && inR v 0 1000 && inR a v 1000) = false then 1 else if 12 < (t.size : Int) then 4 else if (g && !t.toList.isEmpty) = true then 3 else 0
/-- an error's value: 0, none -/
def eV (n : Int) : Value := if n = 0 then .nilIface else .iface 85 (.int .i64 n)

theorem within_c (n lo hi : Int) (w : World) : Calls Tryz.prog 69 #[.int .i64 n, .int .i64 lo, .int .i64 hi] w fun e w' => e = .returned (.bool (inR n lo hi)) ∧ w' = w := by
  go_enter Tryz.func69, Tryz.ntmps69
  go_wp2_with fail
  · go_ret
    refine ⟨?_, rfl⟩
    rename_i h
    simp [inR, h]
  · go_ret
    refine ⟨?_, rfl⟩
    rename_i h
    have h2 : ¬ lo ≤ n := by omega
    simp [inR, h2]
theorem within_b (n lo hi : Int) (b : Bool) (w : World) (hb : inR n lo hi = b) : Calls Tryz.prog 69 #[.int .i64 n, .int .i64 lo, .int .i64 hi] w fun e w' => e = .returned (.bool b) ∧ w' = w := by
  subst hb
  exact within_c n lo hi w
theorem bad_ver {k v a : Int} {g : Bool} {t : ByteArray} (h : (inR k 0 7 && inR v 0 1000 && inR a v 1000) = false) : bad k v a g t = 1 := by
  unfold bad
  rw [if_pos h]
theorem bad_full {k v a : Int} {g : Bool} {t : ByteArray} (h : (inR k 0 7 && inR v 0 1000 && inR a v 1000) = true) (h2 : 12 < (t.size : Int)) : bad k v a g t = 4 := by
  unfold bad
  rw [if_neg (by simp [h]), if_pos h2]
theorem bad_shape {k v a : Int} {g : Bool} {t : ByteArray} (h : (inR k 0 7 && inR v 0 1000 && inR a v 1000) = true) (h2 : ¬ 12 < (t.size : Int)) (h3 : (g && !t.toList.isEmpty) = true) : bad k v a g t = 3 := by
  unfold bad
  rw [if_neg (by simp [h]), if_neg h2, if_pos h3]
theorem bad_none {k v a : Int} {g : Bool} {t : ByteArray} (h : (inR k 0 7 && inR v 0 1000 && inR a v 1000) = true) (h2 : ¬ 12 < (t.size : Int)) (h3 : (g && !t.toList.isEmpty) = false) : bad k v a g t = 0 := by
  unfold bad
  rw [if_neg (by simp [h]), if_neg h2, if_neg (by rw [h3]; simp)]
set_option maxHeartbeats 4000000 in
theorem check_c (k v a : Int) (g : Bool) (t : ByteArray) (w : World) :
    Calls Tryz.prog 27 #[.agg #[.int .i64 k, .int .i64 v, .int .i64 a, .bool g, .string t]] w fun e w' => e = .returned (eV (bad k v a g t)) ∧ Below w.heap.size w w' := by
  obtain ⟨b0, H0⟩ : ∃ b, Hid (inR k 0 7 = b) := ⟨_, rfl⟩
  obtain ⟨b1, H1⟩ : ∃ b, Hid (inR v 0 1000 = b) := ⟨_, rfl⟩
  obtain ⟨b2, H2⟩ : ∃ b, Hid (inR a v 1000 = b) := ⟨_, rfl⟩
  cases b0
  · rw [bad_ver (by rw [H0.out]; rfl)]
    go_enter Tryz.func27, Tryz.ntmps27
    go_wp2_with (go_at_call 69; refine (within_c _ _ _ _).mono ?_; rintro e w' ⟨rfl, rfl⟩; first | rw [H0.out] | rw [H1.out] | rw [H2.out])
    go_ret
    exact ⟨rfl, by go_grown⟩
  cases b1
  · rw [bad_ver (by rw [H0.out, H1.out]; rfl)]
    go_enter Tryz.func27, Tryz.ntmps27
    go_wp2_with (go_at_call 69; refine (within_c _ _ _ _).mono ?_; rintro e w' ⟨rfl, rfl⟩; first | rw [H0.out] | rw [H1.out] | rw [H2.out])
    go_ret
    exact ⟨rfl, by go_grown⟩
  cases b2
  · rw [bad_ver (by rw [H0.out, H1.out, H2.out]; rfl)]
    go_enter Tryz.func27, Tryz.ntmps27
    go_wp2_with (go_at_call 69; refine (within_c _ _ _ _).mono ?_; rintro e w' ⟨rfl, rfl⟩; first | rw [H0.out] | rw [H1.out] | rw [H2.out])
    go_ret
    exact ⟨rfl, by go_grown⟩
  have HR : Hid ((inR k 0 7 && inR v 0 1000 && inR a v 1000) = true) := by rw [H0.out, H1.out, H2.out]; rfl
  by_cases h2 : 12 < (t.size : Int)
  · rw [bad_full HR.out h2]
    go_enter Tryz.func27, Tryz.ntmps27
    go_wp2_with (go_at_call 69; refine (within_c _ _ _ _).mono ?_; rintro e w' ⟨rfl, rfl⟩; first | rw [H0.out] | rw [H1.out] | rw [H2.out])
    go_ret
    exact ⟨rfl, by go_grown⟩
  cases g
  · rw [bad_none HR.out h2 rfl]
    go_enter Tryz.func27, Tryz.ntmps27
    go_wp2_with (go_at_call 69; refine (within_c _ _ _ _).mono ?_; rintro e w' ⟨rfl, rfl⟩; first | rw [H0.out] | rw [H1.out] | rw [H2.out])
    go_ret
    exact ⟨rfl, by go_grown⟩
  · obtain ⟨B, HB⟩ : ∃ B, Hid (bad k v a true t = B) := ⟨_, rfl⟩
    rw [HB.out]
    go_enter Tryz.func27, Tryz.ntmps27
    go_wp2_with (go_at_call 69; refine (within_c _ _ _ _).mono ?_; rintro e w' ⟨rfl, rfl⟩; first | rw [H0.out] | rw [H1.out] | rw [H2.out])
    · rename_i hx
      go_ret
      refine ⟨?_, by go_grown⟩
      rw [← HB.out, bad_shape HR.out (by omega) (by simpa using hx)]
      rfl
    · rename_i hx
      go_ret
      refine ⟨?_, by go_grown⟩
      rw [← HB.out, bad_none HR.out (by omega) (by simpa using hx)]
      rfl
end Go.Proofs.YtpcnfoaoajfhlaaGreatDoor
