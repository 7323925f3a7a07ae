/-
  Plain mathematics on a store's changes: the cells of a row of changes; which change of a key is the newest up to a number.
  Plain mathematics of a store: what was done, one behind the other; what a key was at a number; put, delete and swap as functions on what was done.
  Plain: the cells of the document's store; what is newest, step by step.
  Plain mathematics of a store's past: what was at a number stays; from its version on it is the same; ahead of it it is older; what is kept is right.
  Package entry by its contracts: what is wrong with an entry, what two entries know, whether one is true at a number. Nothing old in memory turns.
  Package entry by its contracts: what two entries know.
-/
import GoSem.Claim
import Derived.Test.YtpcnfoaoajfhlaaGreatDoorRows
import Derived.WalkKit
import Derived.Laws.StructEq
import Derived.Deep.DeepCutAuto
import Derived.Deep.CutBlock
import Derived.Deep.LoopGhost
import Derived.ProofKit
import Derived.OpenShut
import Derived.Handy
import Derived.WalkSmall
namespace Go.Proofs.YtpcnfoaoajfhlaaGreatDoor
set_option linter.unusedVariables false
set_option linter.unusedSimpArgs false
set_option linter.unusedVariables false
set_option linter.unusedSimpArgs false

/-- a change of a key: its number, gone or not, its text -/
structure Chg where
  ver : Int
  gone : Bool
  text : ByteArray

def Chg.cells (c : Chg) : List Value := [.int .i64 c.ver, .bool c.gone, .string c.text]
def Chg.val (c : Chg) : Value := .agg #[.int .i64 c.ver, .bool c.gone, .string c.text]
def rowOf : List Chg → List Value
  | [] => []
  | c :: l => c.cells ++ rowOf l
theorem rowOf_length (l : List Chg) : (rowOf l).length = l.length * 3 := by
  induction l with
  | nil => rfl
  | cons c l ih => simp only [rowOf, List.length_append, ih, List.length_cons, Chg.cells, List.length_nil]; omega
theorem rowOf_append (l m : List Chg) : rowOf (l ++ m) = rowOf l ++ rowOf m := by
  induction l with
  | nil => rfl
  | cons c l ih => simp only [List.cons_append, rowOf, ih, List.append_assoc]
theorem rowOf_get (l : List Chg) (j : Nat) (h : j < l.length) :
    (rowOf l)[j * 3]? = some (.int .i64 l[j].ver) ∧ (rowOf l)[j * 3 + 1]? = some (.bool l[j].gone) ∧ (rowOf l)[j * 3 + 2]? = some (.string l[j].text) := by
  induction l generalizing j with
  | nil => simp at h
  | cons c l ih =>
    cases j with
    | zero => simp [rowOf, Chg.cells]
    | succ j =>
      have e := ih j (by simpa using h)
      have e0 : (j + 1) * 3 = j * 3 + 3 := by omega
      simp only [rowOf, Chg.cells, List.cons_append, List.nil_append, e0, List.getElem_cons_succ]
      have e1 : j * 3 + 3 + 1 = (j * 3 + 1) + 3 := by omega
      have e2 : j * 3 + 3 + 2 = (j * 3 + 2) + 3 := by omega
      rw [e1, e2]
      simpa using e

def none0 : Chg := ⟨0, true, ByteArray.empty⟩
/-- the newest change up to s -/
def pick (l : List Chg) (s : Int) : Chg := (l.reverse.find? fun c => decide (c.ver ≤ s)).getD none0
theorem pick_nil (s : Int) : pick [] s = none0 := rfl
theorem pick_snoc_le (l : List Chg) (c : Chg) (s : Int) (h : c.ver ≤ s) : pick (l ++ [c]) s = c := by simp [pick, h]
theorem pick_snoc_gt (l : List Chg) (c : Chg) (s : Int) (h : ¬ c.ver ≤ s) : pick (l ++ [c]) s = pick l s := by simp [pick, h]
theorem pick_take_succ (l : List Chg) (s : Int) (m : Nat) (h : m < l.length) : l.take (m + 1) = l.take m ++ [l[m]] := by
  rw [List.take_succ_eq_append_getElem h]
end Go.Proofs.YtpcnfoaoajfhlaaGreatDoor

namespace Go.Proofs.YtpcnfoaoajfhlaaGreatDoor
set_option linter.unusedVariables false
set_option linter.unusedSimpArgs false

/-- something done: to a key, gone or put, the text -/
structure Deed where
  key : Int
  gone : Bool
  text : ByteArray

/-- the changes of a key, numbered from n + 1 on -/
def pastFrom (k : Int) : Nat → List Deed → List Chg
  | _, [] => []
  | n, d :: l => if d.key = k then ⟨(n : Int) + 1, d.gone, d.text⟩ :: pastFrom k (n + 1) l else pastFrom k (n + 1) l
def pastOf (done : List Deed) (k : Int) : List Chg := pastFrom k 0 done
/-- the newest change of a key -/
def lastFrom (k : Int) : Nat → List Deed → Chg → Chg
  | _, [], c => c
  | n, d :: l, c => lastFrom k (n + 1) l (if d.key = k then ⟨(n : Int) + 1, d.gone, d.text⟩ else c)
def lastOf (done : List Deed) (k : Int) : Chg := lastFrom k 0 done none0

theorem pastFrom_append (k : Int) (l m : List Deed) (n : Nat) : pastFrom k n (l ++ m) = pastFrom k n l ++ pastFrom k (n + l.length) m := by
  induction l generalizing n with
  | nil => simp [pastFrom]
  | cons d l ih =>
    simp only [List.cons_append, pastFrom, ih, List.length_cons]
    rw [show n + 1 + l.length = n + (l.length + 1) by omega]
    split <;> simp
theorem lastFrom_append (k : Int) (l m : List Deed) (n : Nat) (c : Chg) : lastFrom k n (l ++ m) c = lastFrom k (n + l.length) m (lastFrom k n l c) := by
  induction l generalizing n c with
  | nil => simp [lastFrom]
  | cons d l ih =>
    simp only [List.cons_append, lastFrom, ih, List.length_cons]
    rw [show n + 1 + l.length = n + (l.length + 1) by omega]
theorem pastFrom_length (k : Int) (l : List Deed) (n : Nat) : (pastFrom k n l).length ≤ l.length := by
  induction l generalizing n with
  | nil => simp [pastFrom]
  | cons d l ih =>
    have := ih (n + 1)
    simp only [pastFrom, List.length_cons]
    split <;> (try simp only [List.length_cons]) <;> omega
theorem pastOf_snoc (k : Int) (l : List Deed) (d : Deed) : pastOf (l ++ [d]) k = if d.key = k then pastOf l k ++ [⟨(l.length : Int) + 1, d.gone, d.text⟩] else pastOf l k := by
  unfold pastOf
  rw [pastFrom_append]
  simp only [pastFrom, Nat.zero_add]
  split <;> simp
theorem lastOf_snoc (k : Int) (l : List Deed) (d : Deed) : lastOf (l ++ [d]) k = if d.key = k then ⟨(l.length : Int) + 1, d.gone, d.text⟩ else lastOf l k := by
  unfold lastOf
  rw [lastFrom_append]
  simp only [lastFrom, Nat.zero_add]
theorem lastOf_nil (k : Int) : lastOf [] k = none0 := rfl
theorem pastOf_length (k : Int) (l : List Deed) : (pastOf l k).length ≤ l.length := pastFrom_length k l 0

/-- what the program seeks from the end is what the document says -/
theorem pick_pastOf (k : Int) (l : List Deed) (s : Nat) : pick (pastOf l k) s = lastOf (l.take s) k := by
  obtain ⟨r, rfl⟩ : ∃ r, l = List.reverse r := ⟨l.reverse, by simp⟩
  induction r generalizing s with
  | nil => simp [pastOf, pastFrom, lastOf, lastFrom, pick]
  | cons d r ih =>
    rw [List.reverse_cons, pastOf_snoc]
    by_cases hs : s ≤ r.reverse.length
    · rw [List.take_append_of_le_length hs]
      split
      · rw [pick_snoc_gt _ _ _ (by simp only []; omega)]; exact ih s
      · exact ih s
    · rw [List.take_of_length_le (by simp at hs ⊢; omega), lastOf_snoc]
      split
      · rw [pick_snoc_le _ _ _ (by simp only []; omega)]
      · rw [ih s, List.take_of_length_le (by omega)]

def stK (k : Int) : Bool := decide (0 ≤ k) && decide (k < 8)
theorem stK_iff (k : Int) : stK k = true ↔ 0 ≤ k ∧ k < 8 := by simp [stK]
/-- what a call leaves: what was done, the number, the fault -/
structure Out where
  done : List Deed
  num : Int
  err : Int
def recO (l : List Deed) (k : Int) (g : Bool) (t : ByteArray) : Out := if 1000 ≤ l.length then ⟨l, 0, 4⟩ else ⟨l ++ [⟨k, g, t⟩], (l.length : Int) + 1, 0⟩
def putO (l : List Deed) (k : Int) (t : ByteArray) : Out :=
  if ¬ stK k = true then ⟨l, 0, 1⟩ else if 12 < t.size then ⟨l, 0, 4⟩ else recO l k false t
def delO (l : List Deed) (k : Int) : Out :=
  if ¬ stK k = true then ⟨l, 0, 1⟩ else if (lastOf l k).gone = true then ⟨l, 0, 5⟩ else recO l k true ByteArray.empty
def swapO (l : List Deed) (k v : Int) (t : ByteArray) : Out :=
  if ¬ stK k = true then ⟨l, 0, 1⟩ else if 12 < t.size then ⟨l, 0, 4⟩ else if ¬ (lastOf l k).ver = v then ⟨l, 0, 7⟩ else recO l k false t
end Go.Proofs.YtpcnfoaoajfhlaaGreatDoor

namespace Go.Proofs.YtpcnfoaoajfhlaaGreatDoor
set_option linter.unusedVariables false
set_option linter.unusedSimpArgs false

def Deed.cells (d : Deed) : List Value := [.int .i64 d.key, .int .i64 0, .int .i64 0, .bool d.gone, .string d.text]
def rowE : List Deed → List Value
  | [] => []
  | d :: l => d.cells ++ rowE l
theorem rowE_length (l : List Deed) : (rowE l).length = l.length * 5 := by
  induction l with
  | nil => rfl
  | cons c l ih => simp only [rowE, List.length_append, ih, List.length_cons, Deed.cells, List.length_nil]; omega
theorem rowE_append (l m : List Deed) : rowE (l ++ m) = rowE l ++ rowE m := by
  induction l with
  | nil => rfl
  | cons c l ih => simp only [List.cons_append, rowE, ih, List.append_assoc]
theorem rowE_get (l : List Deed) (j : Nat) (h : j < l.length) :
    (rowE l)[j * 5]? = some (.int .i64 l[j].key) ∧ (rowE l)[j * 5 + 3]? = some (.bool l[j].gone) ∧ (rowE l)[j * 5 + 4]? = some (.string l[j].text) := by
  induction l generalizing j with
  | nil => simp at h
  | cons c l ih =>
    cases j with
    | zero => simp [rowE, Deed.cells]
    | succ j =>
      have e := ih j (by simpa using h)
      have e0 : (j + 1) * 5 = j * 5 + 5 := by omega
      simp only [rowE, Deed.cells, List.cons_append, List.nil_append, e0, List.getElem_cons_succ]
      have e1 : j * 5 + 5 + 3 = (j * 5 + 3) + 5 := by omega
      have e2 : j * 5 + 5 + 4 = (j * 5 + 4) + 5 := by omega
      rw [e1, e2]
      simpa using e
theorem lastOf_take_hit (l : List Deed) (k : Int) (j : Nat) (h : j < l.length) (hk : l[j].key = k) : lastOf (l.take (j + 1)) k = ⟨(j : Int) + 1, l[j].gone, l[j].text⟩ := by
  rw [List.take_succ_eq_append_getElem h, lastOf_snoc, if_pos hk]
  simp only [List.length_take]
  rw [Nat.min_eq_left (by omega)]
theorem lastOf_take_miss (l : List Deed) (k : Int) (j : Nat) (h : j < l.length) (hk : ¬ l[j].key = k) : lastOf (l.take (j + 1)) k = lastOf (l.take j) k := by
  rw [List.take_succ_eq_append_getElem h, lastOf_snoc, if_neg hk]
end Go.Proofs.YtpcnfoaoajfhlaaGreatDoor

namespace Go.Proofs.YtpcnfoaoajfhlaaGreatDoor
set_option linter.unusedVariables false
set_option linter.unusedSimpArgs false

theorem lastOf_ver (l : List Deed) (k : Int) : 0 ≤ (lastOf l k).ver ∧ (lastOf l k).ver ≤ l.length := by
  obtain ⟨r, rfl⟩ : ∃ r, l = List.reverse r := ⟨l.reverse, by simp⟩
  induction r with
  | nil => simp [lastOf, lastFrom, none0]
  | cons d r ih =>
    rw [List.reverse_cons, lastOf_snoc]
    simp only [List.length_append, List.length_cons, List.length_nil]
    split
    · simp only []; omega
    · omega
theorem lastOf_take_ver (l : List Deed) (k : Int) (s : Nat) : 0 ≤ (lastOf (l.take s) k).ver ∧ (lastOf (l.take s) k).ver ≤ s := by
  have h := lastOf_ver (l.take s) k
  have : (l.take s).length ≤ s := List.length_take_le _ _
  omega
/-- from its version on, up to its time, each time tells the same -/
theorem lastOf_between (l : List Deed) (k : Int) (s q : Nat) (hs : s ≤ l.length) (h1 : (lastOf (l.take s) k).ver ≤ q) (h2 : q ≤ s) : lastOf (l.take q) k = lastOf (l.take s) k := by
  induction s with
  | zero => obtain rfl : q = 0 := by omega
            rfl
  | succ s ih =>
    have hlt : s < l.length := by omega
    by_cases hq : q = s + 1
    · rw [hq]
    · by_cases hk : l[s].key = k
      · rw [lastOf_take_hit l k s hlt hk] at h1
        simp only [] at h1
        omega
      · rw [lastOf_take_miss l k s hlt hk] at h1 ⊢
        exact ih (by omega) h1 (by omega)
/-- what was at a number is the same whatever is done later -/
theorem lastOf_later (l m : List Deed) (k : Int) (s : Nat) (hs : s ≤ l.length) : lastOf ((l ++ m).take s) k = lastOf (l.take s) k := by
  rw [List.take_append_of_le_length hs]

/-- what is right: texts of at most 12 bytes, of what is gone none -/
def GoodD (d : Deed) : Prop := d.text.size ≤ 12 ∧ (d.gone = true → d.text = ByteArray.empty)
def Good (l : List Deed) : Prop := ∀ d ∈ l, GoodD d
theorem lastFrom_good (k : Int) (l : List Deed) (h : Good l) (n : Nat) (c : Chg) (hc : c.text.size ≤ 12 ∧ (c.gone = true → c.text = ByteArray.empty)) :
    (lastFrom k n l c).text.size ≤ 12 ∧ ((lastFrom k n l c).gone = true → (lastFrom k n l c).text = ByteArray.empty) := by
  induction l generalizing n c with
  | nil => exact hc
  | cons d l ih =>
    simp only [lastFrom]
    refine ih (fun x hx => h x (List.mem_cons_of_mem _ hx)) _ _ ?_
    split
    · exact h d List.mem_cons_self
    · exact hc
theorem lastOf_good (k : Int) (l : List Deed) (h : Good l) : (lastOf l k).text.size ≤ 12 ∧ ((lastOf l k).gone = true → (lastOf l k).text = ByteArray.empty) :=
  lastFrom_good k l h 0 none0 ⟨by decide, fun _ => rfl⟩
theorem good_take (l : List Deed) (h : Good l) (s : Nat) : Good (l.take s) := fun d hd => h d (List.mem_of_mem_take hd)
theorem good_rec (l : List Deed) (k : Int) (g : Bool) (t : ByteArray) (h : Good l) (hd : GoodD ⟨k, g, t⟩) : Good (recO l k g t).done := by
  unfold recO
  split
  · exact h
  · intro d hm
    rcases List.mem_append.1 hm with h1 | h1
    · exact h d h1
    · rw [List.mem_singleton.1 h1]; exact hd
theorem good_put (l : List Deed) (k : Int) (t : ByteArray) (h : Good l) : Good (putO l k t).done := by
  unfold putO
  split
  · exact h
  · split
    · exact h
    · rename_i h12
      exact good_rec l k false t h ⟨by simp only []; omega, fun e => by cases e⟩
theorem good_del (l : List Deed) (k : Int) (h : Good l) : Good (delO l k).done := by
  unfold delO
  split
  · exact h
  · split
    · exact h
    · exact good_rec l k true ByteArray.empty h ⟨show ByteArray.empty.size ≤ 12 by decide, fun _ => rfl⟩
theorem rec_grows (l : List Deed) (k : Int) (g : Bool) (t : ByteArray) : ∃ m, (recO l k g t).done = l ++ m := by
  unfold recO
  split
  · exact ⟨[], by simp⟩
  · exact ⟨_, rfl⟩
theorem put_grows (l : List Deed) (k : Int) (t : ByteArray) : ∃ m, (putO l k t).done = l ++ m := by
  unfold putO
  split
  · exact ⟨[], by simp⟩
  · split
    · exact ⟨[], by simp⟩
    · exact rec_grows l k false t
theorem del_grows (l : List Deed) (k : Int) : ∃ m, (delO l k).done = l ++ m := by
  unfold delO
  split
  · exact ⟨[], by simp⟩
  · split
    · exact ⟨[], by simp⟩
    · exact rec_grows l k true ByteArray.empty
end Go.Proofs.YtpcnfoaoajfhlaaGreatDoor

namespace Go.Proofs.YtpcnfoaoajfhlaaGreatDoor
set_option linter.unusedVariables false
set_option linter.unusedSimpArgs false
open Go.RowKit

/-- an entry -/
structure En where
  k : Int
  v : Int
  a : Int
  g : Bool
  t : ByteArray
def En.val (e : En) : Value := .agg #[.int .i64 e.k, .int .i64 e.v, .int .i64 e.a, .bool e.g, .string e.t]
def inR (n lo hi : Int) : Bool := decide (lo ≤ n) && decide (n ≤ hi)
/-- what is wrong with an entry: 0, nothing -/
def bad (k v a : Int) (g : Bool) (t : ByteArray) : Int :=
  if (inR k 0 7 && inR v 0 1000 && inR a v 1000) = false then 1 else if 12 < (t.size : Int) then 4 else if (g && !t.toList.isEmpty) = true then 3 else 0
/-- an error's value: 0, none -/
def eV (n : Int) : Value := if n = 0 then .nilIface else .iface 85 (.int .i64 n)

theorem within_c (n lo hi : Int) (w : World) : Calls Tryz.prog 69 #[.int .i64 n, .int .i64 lo, .int .i64 hi] w fun e w' => e = .returned (.bool (inR n lo hi)) ∧ w' = w := by
  go_enter Tryz.func69, Tryz.ntmps69
  go_wp2_with fail
  · go_ret
    refine ⟨?_, rfl⟩
    rename_i h
    simp [inR, h]
  · go_ret
    refine ⟨?_, rfl⟩
    rename_i h
    have h2 : ¬ lo ≤ n := by omega
    simp [inR, h2]
theorem within_b (n lo hi : Int) (b : Bool) (w : World) (hb : inR n lo hi = b) : Calls Tryz.prog 69 #[.int .i64 n, .int .i64 lo, .int .i64 hi] w fun e w' => e = .returned (.bool b) ∧ w' = w := by
  subst hb
  exact within_c n lo hi w
theorem bad_ver {k v a : Int} {g : Bool} {t : ByteArray} (h : (inR k 0 7 && inR v 0 1000 && inR a v 1000) = false) : bad k v a g t = 1 := by
  unfold bad
  rw [if_pos h]
theorem bad_full {k v a : Int} {g : Bool} {t : ByteArray} (h : (inR k 0 7 && inR v 0 1000 && inR a v 1000) = true) (h2 : 12 < (t.size : Int)) : bad k v a g t = 4 := by
  unfold bad
  rw [if_neg (by simp [h]), if_pos h2]
theorem bad_shape {k v a : Int} {g : Bool} {t : ByteArray} (h : (inR k 0 7 && inR v 0 1000 && inR a v 1000) = true) (h2 : ¬ 12 < (t.size : Int)) (h3 : (g && !t.toList.isEmpty) = true) : bad k v a g t = 3 := by
  unfold bad
  rw [if_neg (by simp [h]), if_neg h2, if_pos h3]
theorem bad_none {k v a : Int} {g : Bool} {t : ByteArray} (h : (inR k 0 7 && inR v 0 1000 && inR a v 1000) = true) (h2 : ¬ 12 < (t.size : Int)) (h3 : (g && !t.toList.isEmpty) = false) : bad k v a g t = 0 := by
  unfold bad
  rw [if_neg (by simp [h]), if_neg h2, if_neg (by rw [h3]; simp)]
set_option maxHeartbeats 4000000 in
theorem check_c (k v a : Int) (g : Bool) (t : ByteArray) (w : World) :
    Calls Tryz.prog 27 #[.agg #[.int .i64 k, .int .i64 v, .int .i64 a, .bool g, .string t]] w fun e w' => e = .returned (eV (bad k v a g t)) ∧ Below w.heap.size w w' := by
  obtain ⟨b0, H0⟩ : ∃ b, Hid (inR k 0 7 = b) := ⟨_, rfl⟩
  obtain ⟨b1, H1⟩ : ∃ b, Hid (inR v 0 1000 = b) := ⟨_, rfl⟩
  obtain ⟨b2, H2⟩ : ∃ b, Hid (inR a v 1000 = b) := ⟨_, rfl⟩
  cases b0
  · rw [bad_ver (by rw [H0.out]; rfl)]
    go_enter Tryz.func27, Tryz.ntmps27
    go_wp2_with (go_at_call 69; refine (within_c _ _ _ _).mono ?_; rintro e w' ⟨rfl, rfl⟩; first | rw [H0.out] | rw [H1.out] | rw [H2.out])
    go_ret
    exact ⟨rfl, by go_grown⟩
  cases b1
  · rw [bad_ver (by rw [H0.out, H1.out]; rfl)]
    go_enter Tryz.func27, Tryz.ntmps27
    go_wp2_with (go_at_call 69; refine (within_c _ _ _ _).mono ?_; rintro e w' ⟨rfl, rfl⟩; first | rw [H0.out] | rw [H1.out] | rw [H2.out])
    go_ret
    exact ⟨rfl, by go_grown⟩
  cases b2
  · rw [bad_ver (by rw [H0.out, H1.out, H2.out]; rfl)]
    go_enter Tryz.func27, Tryz.ntmps27
    go_wp2_with (go_at_call 69; refine (within_c _ _ _ _).mono ?_; rintro e w' ⟨rfl, rfl⟩; first | rw [H0.out] | rw [H1.out] | rw [H2.out])
    go_ret
    exact ⟨rfl, by go_grown⟩
  have HR : Hid ((inR k 0 7 && inR v 0 1000 && inR a v 1000) = true) := by rw [H0.out, H1.out, H2.out]; rfl
  by_cases h2 : 12 < (t.size : Int)
  · rw [bad_full HR.out h2]
    go_enter Tryz.func27, Tryz.ntmps27
    go_wp2_with (go_at_call 69; refine (within_c _ _ _ _).mono ?_; rintro e w' ⟨rfl, rfl⟩; first | rw [H0.out] | rw [H1.out] | rw [H2.out])
    go_ret
    exact ⟨rfl, by go_grown⟩
  cases g
  · rw [bad_none HR.out h2 rfl]
    go_enter Tryz.func27, Tryz.ntmps27
    go_wp2_with (go_at_call 69; refine (within_c _ _ _ _).mono ?_; rintro e w' ⟨rfl, rfl⟩; first | rw [H0.out] | rw [H1.out] | rw [H2.out])
    go_ret
    exact ⟨rfl, by go_grown⟩
  · obtain ⟨B, HB⟩ : ∃ B, Hid (bad k v a true t = B) := ⟨_, rfl⟩
    rw [HB.out]
    go_enter Tryz.func27, Tryz.ntmps27
    go_wp2_with (go_at_call 69; refine (within_c _ _ _ _).mono ?_; rintro e w' ⟨rfl, rfl⟩; first | rw [H0.out] | rw [H1.out] | rw [H2.out])
    · rename_i hx
      go_ret
      refine ⟨?_, by go_grown⟩
      rw [← HB.out, bad_shape HR.out (by omega) (by simpa using hx)]
      rfl
    · rename_i hx
      go_ret
      refine ⟨?_, by go_grown⟩
      rw [← HB.out, bad_none HR.out (by omega) (by simpa using hx)]
      rfl
end Go.Proofs.YtpcnfoaoajfhlaaGreatDoor

namespace Go.Proofs.YtpcnfoaoajfhlaaGreatDoor
set_option linter.unusedVariables false
set_option linter.unusedSimpArgs false
open Go.RowKit
def newerB (va aa vb ab : Int) : Bool := if va = vb then decide (ab < aa) else decide (vb < va)
def clashB (v1 a1 : Int) (g1 : Bool) (t1 : ByteArray) (v2 : Int) (g2 : Bool) (t2 : ByteArray) : Bool := if v1 = v2 then (!(g1 == g2)) || !(t1.toList == t2.toList) else decide (v2 ≤ a1)
theorem isNewer_c (ka va aa : Int) (ga : Bool) (ta : ByteArray) (kb vb ab : Int) (gb : Bool) (tb : ByteArray) (w : World) :
    Calls Tryz.prog 164 #[.agg #[.int .i64 ka, .int .i64 va, .int .i64 aa, .bool ga, .string ta], .agg #[.int .i64 kb, .int .i64 vb, .int .i64 ab, .bool gb, .string tb]] w fun e w' => e = .returned (.bool (newerB va aa vb ab)) ∧ Below w.heap.size w w' := by
  go_enter Tryz.func164, Tryz.ntmps164
  go_wp2
  · go_ret
    rename_i h
    refine ⟨?_, by go_grown⟩
    simp_all [newerB]
  · go_ret
    rename_i h
    refine ⟨?_, by go_grown⟩
    simp_all [newerB]
theorem clash_c (ka va aa : Int) (ga : Bool) (ta : ByteArray) (kb vb ab : Int) (gb : Bool) (tb : ByteArray) (w : World) :
    Calls Tryz.prog 165 #[.agg #[.int .i64 ka, .int .i64 va, .int .i64 aa, .bool ga, .string ta], .agg #[.int .i64 kb, .int .i64 vb, .int .i64 ab, .bool gb, .string tb]] w fun e w' => e = .returned (.bool (clashB va aa ga ta vb gb tb)) ∧ Below w.heap.size w w' := by
  go_enter Tryz.func165, Tryz.ntmps165
  go_wp2
  · go_ret
    refine ⟨?_, by go_grown⟩
    simp_all [clashB]
  · go_ret
    refine ⟨?_, by go_grown⟩
    simp_all [clashB]
  · go_ret
    refine ⟨?_, by go_grown⟩
    simp_all [clashB]
theorem check_ok {k v a : Int} {g : Bool} {t : ByteArray} (h : bad k v a g t = 0) (w : World) :
    Calls Tryz.prog 27 #[.agg #[.int .i64 k, .int .i64 v, .int .i64 a, .bool g, .string t]] w fun e w' => e = .returned .nilIface ∧ Below w.heap.size w w' := by
  have c := check_c k v a g t w
  rw [h] at c
  exact c
theorem check_err {k v a : Int} {g : Bool} {t : ByteArray} {n : Int} (h : bad k v a g t = n) (hn : n ≠ 0) (w : World) :
    Calls Tryz.prog 27 #[.agg #[.int .i64 k, .int .i64 v, .int .i64 a, .bool g, .string t]] w fun e w' => e = .returned (.iface 85 (.int .i64 n)) ∧ Below w.heap.size w w' := by
  have c := check_c k v a g t w
  rw [h, eV, if_neg hn] at c
  exact c
/-- the fault of the first of two that has one -/
def bad2 (m n : Int) : Int := if m = 0 then n else m
theorem two_cells {b : Nat} {ka va aa : Int} {ga : Bool} {ta : ByteArray} {kb vb ab : Int} {gb : Bool} {tb : ByteArray} {w : World} (h : w.heap[b]? = some (.cells #[.int .i64 ka, .int .i64 va, .int .i64 aa, .bool ga, .string ta, .int .i64 kb, .int .i64 vb, .int .i64 ab, .bool gb, .string tb] 46)) :
    w.cell? ⟨b, 0, none⟩ = some (.int .i64 ka) ∧ w.cell? ⟨b, 1, none⟩ = some (.int .i64 va) ∧ w.cell? ⟨b, 2, none⟩ = some (.int .i64 aa) ∧ w.cell? ⟨b, 3, none⟩ = some (.bool ga) ∧ w.cell? ⟨b, 4, none⟩ = some (.string ta) ∧
    w.cell? ⟨b, 5, none⟩ = some (.int .i64 kb) ∧ w.cell? ⟨b, 6, none⟩ = some (.int .i64 vb) ∧ w.cell? ⟨b, 7, none⟩ = some (.int .i64 ab) ∧ w.cell? ⟨b, 8, none⟩ = some (.bool gb) ∧ w.cell? ⟨b, 9, none⟩ = some (.string tb) := by
  unfold World.cell?
  simp only [h]
  simp
set_option maxHeartbeats 4000000 in
theorem all_c (b : Nat) (ka va aa : Int) (ga : Bool) (ta : ByteArray) (kb vb ab : Int) (gb : Bool) (tb : ByteArray) (w : World)
    (h : w.heap[b]? = some (.cells #[.int .i64 ka, .int .i64 va, .int .i64 aa, .bool ga, .string ta, .int .i64 kb, .int .i64 vb, .int .i64 ab, .bool gb, .string tb] 46)) :
    Calls Tryz.prog 163 #[.slice (some ⟨b, 0, none⟩) 2 2] w fun e w' => e = .returned (eV (bad2 (bad ka va aa ga ta) (bad kb vb ab gb tb))) ∧ Below w.heap.size w w' := by
  have HH : Hid (w.heap[b]? = some (.cells #[.int .i64 ka, .int .i64 va, .int .i64 aa, .bool ga, .string ta, .int .i64 kb, .int .i64 vb, .int .i64 ab, .bool gb, .string tb] 46)) := h
  have HL : b < w.heap.size := (Array.getElem?_eq_some_iff.mp h).1
  obtain ⟨m, HM⟩ : ∃ m, Hid (bad ka va aa ga ta = m) := ⟨_, rfl⟩
  obtain ⟨n, HN⟩ : ∃ n, Hid (bad kb vb ab gb tb = n) := ⟨_, rfl⟩
  rw [HM.out, HN.out]
  clear h
  obtain ⟨z0, z1, z2, z3, z4, z5, z6, z7, z8, z9⟩ := two_cells HH.out
  go_enter Tryz.func163, Tryz.ntmps163
  go_wp2_with fail
  refine wp_loop_rounds 3 ?_
  rw [rounds_succ]
  go_wp2_with fail
  by_cases hm : m = 0
  · subst hm
    refine (check_ok HM.out _).mono ?_
    rintro e w1 ⟨rfl, hb⟩
    have B1 : Hid (Below w.heap.size w w1) := Below.trans (by go_grown) (hb.mono (by simp))
    have H1 : Hid (w1.heap[b]? = some (.cells #[.int .i64 ka, .int .i64 va, .int .i64 aa, .bool ga, .string ta, .int .i64 kb, .int .i64 vb, .int .i64 ab, .bool gb, .string tb] 46)) := (B1.out.block b HL).trans HH.out
    clear z0 z1 z2 z3 z4 z5 z6 z7 z8 z9 hb
    obtain ⟨z0, z1, z2, z3, z4, z5, z6, z7, z8, z9⟩ := two_cells H1.out
    go_wp2_with fail
    rw [rounds_succ]
    go_wp2_with fail
    by_cases hn : n = 0
    · subst hn
      refine (check_ok HN.out _).mono ?_
      rintro e w2 ⟨rfl, hb⟩
      have B2 : Hid (Below w.heap.size w w2) := (B1.out.alloc B1.out.size _).trans (hb.mono (by have := B1.out.size; simp; omega))
      clear hb
      go_wp2_with fail
      rw [rounds_succ]
      go_wp2_with fail
      go_ret
      exact ⟨by simp [bad2, eV], B2.out⟩
    · refine (check_err HN.out hn _).mono ?_
      rintro e w2 ⟨rfl, hb⟩
      have B2 : Hid (Below w.heap.size w w2) := (B1.out.alloc B1.out.size _).trans (hb.mono (by have := B1.out.size; simp; omega))
      clear hb
      go_wp2_with fail
      go_ret
      exact ⟨by simp [bad2, eV, hn], B2.out⟩
  · refine (check_err HM.out hm _).mono ?_
    rintro e w1 ⟨rfl, hb⟩
    have B1 : Hid (Below w.heap.size w w1) := Below.trans (by go_grown) (hb.mono (by simp))
    clear hb
    go_wp2_with fail
    go_ret
    refine ⟨?_, B1.out⟩
    simp [bad2, eV, hm]
/-- the result of Join -/
def joinE (x y : En) : En × Int :=
  if bad2 (bad x.k x.v x.a x.g x.t) (bad y.k y.v y.a y.g y.t) ≠ 0 then (⟨0, 0, 0, false, ⟨#[]⟩⟩, bad2 (bad x.k x.v x.a x.g x.t) (bad y.k y.v y.a y.g y.t))
  else if x.k ≠ y.k then (⟨0, 0, 0, false, ⟨#[]⟩⟩, 3)
  else if newerB x.v x.a y.v y.a = true then (if clashB y.v y.a y.g y.t x.v x.g x.t = true then (⟨0, 0, 0, false, ⟨#[]⟩⟩, 7) else (x, 0))
  else if clashB x.v x.a x.g x.t y.v y.g y.t = true then (⟨0, 0, 0, false, ⟨#[]⟩⟩, 7) else (y, 0)
/-- an entry's five cells at a block -/
structure BoxAt (w : World) (b : Nat) (k v a : Int) (g : Bool) (t : ByteArray) : Prop where
  c0 : w.cell? ⟨b, 0, none⟩ = some (.int .i64 k)
  c1 : w.cell? ⟨b, 1, none⟩ = some (.int .i64 v)
  c2 : w.cell? ⟨b, 2, none⟩ = some (.int .i64 a)
  c3 : w.cell? ⟨b, 3, none⟩ = some (.bool g)
  c4 : w.cell? ⟨b, 4, none⟩ = some (.string t)
  fz : ∀ j, w.frozen? ⟨b, j, none⟩ = false
theorem BoxAt.of_block {w w' : World} {b : Nat} {k v a : Int} {g : Bool} {t : ByteArray} (h : BoxAt w b k v a g t) (hb : w'.heap[b]? = w.heap[b]?) : BoxAt w' b k v a g t :=
  ⟨(World.cell?_of_block (a := ⟨b, 0, none⟩) hb).trans h.c0, (World.cell?_of_block (a := ⟨b, 1, none⟩) hb).trans h.c1, (World.cell?_of_block (a := ⟨b, 2, none⟩) hb).trans h.c2, (World.cell?_of_block (a := ⟨b, 3, none⟩) hb).trans h.c3, (World.cell?_of_block (a := ⟨b, 4, none⟩) hb).trans h.c4, fun j => (World.frozen?_of_block (a := ⟨b, j, none⟩) hb).trans (h.fz j)⟩
theorem BoxAt.below {w w' : World} {b B : Nat} {k v a : Int} {g : Bool} {t : ByteArray} (h : BoxAt w b k v a g t) (hb : Below B w w') (hB : b < B) : BoxAt w' b k v a g t := h.of_block (hb.block b hB)
theorem box_new (w : World) (k v a : Int) (g : Bool) (t : ByteArray) (b : Nat) (h : b = w.heap.size) : BoxAt (w.alloc (.cells #[.int .i64 k, .int .i64 v, .int .i64 a, .bool g, .string t] 46)) b k v a g t := by
  subst h
  exact ⟨by simp, by simp, by simp, by simp, by simp, fun j => by simp⟩
theorem BoxAt.alloc {w : World} {b : Nat} {k v a : Int} {g : Bool} {t : ByteArray} (h : BoxAt w b k v a g t) (o : Obj) : BoxAt (w.alloc o) b k v a g t :=
  h.of_block (Below.heap_alloc _ _ _ (World.block_lt_of_cell? w _ h.c0))
theorem BoxAt.lt {w : World} {b : Nat} {k v a : Int} {g : Bool} {t : ByteArray} (h : BoxAt w b k v a g t) : b < w.heap.size := World.block_lt_of_cell? w _ h.c0
theorem BoxAt.drew {w : World} {b : Nat} {k v a : Int} {g : Bool} {t : ByteArray} (h : BoxAt w b k v a g t) : BoxAt w.drew b k v a g t := h.of_block rfl
theorem BoxAt.set {w : World} {b : Nat} {k v a : Int} {g : Bool} {t : ByteArray} (h : BoxAt w b k v a g t) (x0 x1 x2 : Int) (x3 : Bool) (x4 : ByteArray) :
    BoxAt (((((w.setCell ⟨b, 0, none⟩ (.int .i64 x0)).setCell ⟨b, 1, none⟩ (.int .i64 x1)).setCell ⟨b, 2, none⟩ (.int .i64 x2)).setCell ⟨b, 3, none⟩ (.bool x3)).setCell ⟨b, 4, none⟩ (.string x4)) b x0 x1 x2 x3 x4 := by
  obtain ⟨h0, h1, h2, h3, h4, hf⟩ := h
  refine ⟨?_, ?_, ?_, ?_, ?_, fun j => by simp only [World.frozen?_setCell]; exact hf j⟩
  · rw [World.cell?_setCell_other _ _ _ _ (by simp), World.cell?_setCell_other _ _ _ _ (by simp), World.cell?_setCell_other _ _ _ _ (by simp), World.cell?_setCell_other _ _ _ _ (by simp), World.cell?_setCell_same _ _ _ h0]
  · rw [World.cell?_setCell_other _ _ _ _ (by simp), World.cell?_setCell_other _ _ _ _ (by simp), World.cell?_setCell_other _ _ _ _ (by simp)]
    exact World.cell?_setCell_same _ _ _ ((World.cell?_setCell_other _ _ _ _ (by simp)).trans h1)
  · rw [World.cell?_setCell_other _ _ _ _ (by simp), World.cell?_setCell_other _ _ _ _ (by simp)]
    exact World.cell?_setCell_same _ _ _ ((World.cell?_setCell_other _ _ _ _ (by simp)).trans ((World.cell?_setCell_other _ _ _ _ (by simp)).trans h2))
  · rw [World.cell?_setCell_other _ _ _ _ (by simp)]
    exact World.cell?_setCell_same _ _ _ ((World.cell?_setCell_other _ _ _ _ (by simp)).trans ((World.cell?_setCell_other _ _ _ _ (by simp)).trans ((World.cell?_setCell_other _ _ _ _ (by simp)).trans h3)))
  · exact World.cell?_setCell_same _ _ _ ((World.cell?_setCell_other _ _ _ _ (by simp)).trans ((World.cell?_setCell_other _ _ _ _ (by simp)).trans ((World.cell?_setCell_other _ _ _ _ (by simp)).trans ((World.cell?_setCell_other _ _ _ _ (by simp)).trans h4))))
theorem BoxAt.other {w : World} {b c : Nat} {k v a : Int} {g : Bool} {t : ByteArray} (h : BoxAt w b k v a g t) (hc : b ≠ c) (x0 x1 x2 x3 x4 : Value) :
    BoxAt (((((w.setCell ⟨c, 0, none⟩ x0).setCell ⟨c, 1, none⟩ x1).setCell ⟨c, 2, none⟩ x2).setCell ⟨c, 3, none⟩ x3).setCell ⟨c, 4, none⟩ x4) b k v a g t :=
  h.of_block (by rw [Below.heap_setCell _ _ _ b hc, Below.heap_setCell _ _ _ b hc, Below.heap_setCell _ _ _ b hc, Below.heap_setCell _ _ _ b hc, Below.heap_setCell _ _ _ b hc])
theorem alloc_at (w : World) (o : Obj) (b : Nat) (h : b = w.heap.size) : (w.alloc o).heap[b]? = some o := by
  subst h
  exact Array.getElem?_push_size
set_option maxHeartbeats 4000000 in
theorem join_bad (ka va aa : Int) (ga : Bool) (ta : ByteArray) (kb vb ab : Int) (gb : Bool) (tb : ByteArray) (w : World) (n : Int) (hn : n ≠ 0) (h : bad2 (bad ka va aa ga ta) (bad kb vb ab gb tb) = n) :
    Calls Tryz.prog 119 #[.agg #[.int .i64 ka, .int .i64 va, .int .i64 aa, .bool ga, .string ta], .agg #[.int .i64 kb, .int .i64 vb, .int .i64 ab, .bool gb, .string tb]] w fun e w' => e = .returned (.tuple #[.agg #[.int .i64 0, .int .i64 0, .int .i64 0, .bool false, .string ⟨#[]⟩], .iface 85 (.int .i64 n)]) ∧ Below w.heap.size w w' := by
  have H : Hid (bad2 (bad ka va aa ga ta) (bad kb vb ab gb tb) = n) := h
  clear h
  go_enter Tryz.func119, Tryz.ntmps119
  go_wp2_with fail
  refine (all_c (w.heap.size + 1 + 1 + 1) ka va aa ga ta kb vb ab gb tb _ (alloc_at _ _ _ (by simp))).mono ?_
  rintro e w1 ⟨rfl, hb⟩
  rw [H.out, eV, if_neg hn]
  have B1 : Hid (Below w.heap.size w w1) := Below.trans (by go_grown) (hb.mono (by simp; omega))
  obtain ⟨e0, e1, e2, e3, e4, ef⟩ := ((box_new _ 0 0 0 false ⟨#[]⟩ (w.heap.size + 1 + 1) (by simp)).alloc _).below hb (by simp)
  clear hb
  go_wp2_with fail
  refine bodyPost_ret (v := .tuple #[.agg #[.int .i64 0, .int .i64 0, .int .i64 0, .bool false, .string ⟨#[]⟩], .iface 85 (.int .i64 n)]) (by simp [results, Tryz.results119, go_sem, e0, e1, e2, e3, e4]) rfl ?_
  refine ⟨rfl, ?_⟩
  have hb := B1.out
  go_grown
set_option maxHeartbeats 4000000 in
theorem join_key (ka va aa : Int) (ga : Bool) (ta : ByteArray) (kb vb ab : Int) (gb : Bool) (tb : ByteArray) (w : World) (h : bad2 (bad ka va aa ga ta) (bad kb vb ab gb tb) = 0) (hk : ka ≠ kb) :
    Calls Tryz.prog 119 #[.agg #[.int .i64 ka, .int .i64 va, .int .i64 aa, .bool ga, .string ta], .agg #[.int .i64 kb, .int .i64 vb, .int .i64 ab, .bool gb, .string tb]] w fun e w' => e = .returned (.tuple #[.agg #[.int .i64 0, .int .i64 0, .int .i64 0, .bool false, .string ⟨#[]⟩], .iface 85 (.int .i64 3)]) ∧ Below w.heap.size w w' := by
  have H : Hid (bad2 (bad ka va aa ga ta) (bad kb vb ab gb tb) = 0) := h
  clear h
  go_enter Tryz.func119, Tryz.ntmps119
  go_wp2_with fail
  refine (all_c (w.heap.size + 1 + 1 + 1) ka va aa ga ta kb vb ab gb tb _ (alloc_at _ _ _ (by simp))).mono ?_
  rintro e w1 ⟨rfl, hb⟩
  rw [H.out, eV, if_pos rfl]
  have B1 : Hid (Below w.heap.size w w1) := Below.trans (by go_grown) (hb.mono (by simp; omega))
  obtain ⟨e0, e1, e2, e3, e4, ef⟩ := ((box_new _ 0 0 0 false ⟨#[]⟩ (w.heap.size + 1 + 1) (by simp)).alloc _).below hb (by simp)
  obtain ⟨a0, a1, a2, a3, a4, af⟩ := ((((box_new w ka va aa ga ta w.heap.size rfl).alloc _).alloc _).alloc _).below hb (by simp; omega)
  obtain ⟨b0, b1, b2, b3, b4, bf⟩ := (((box_new _ kb vb ab gb tb (w.heap.size + 1) (by simp)).alloc _).alloc _).below hb (by simp)
  clear hb
  go_wp2_with fail
  refine bodyPost_ret (v := .tuple #[.agg #[.int .i64 0, .int .i64 0, .int .i64 0, .bool false, .string ⟨#[]⟩], .iface 85 (.int .i64 3)]) (by simp [results, Tryz.results119, go_sem, e0, e1, e2, e3, e4]) rfl ?_
  refine ⟨rfl, ?_⟩
  have hb := B1.out
  go_grown
end Go.Proofs.YtpcnfoaoajfhlaaGreatDoor
