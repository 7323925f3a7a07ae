/-
  Plain mathematics on a store's changes: the cells of a row of changes; which change of a key is the newest up to a number.
  Plain mathematics of a store: what was done, one behind the other; what a key was at a number; put, delete and swap as functions on what was done.
  Plain: the cells of the document's store; what is newest, step by step.
  Plain mathematics of a store's past: what was at a number stays; from its version on it is the same; ahead of it it is older; what is kept is right.
  Plain mathematics of a log's bytes: records one behind the other, and what belongs to no whole one.
-/
import GoSem.Claim
namespace Go.Proofs.YtpcnfoaoajfhlaaGreatDoor
set_option linter.unusedVariables false
set_option linter.unusedSimpArgs false
set_option linter.unusedVariables false
set_option linter.unusedSimpArgs false

/-- a change of a key: its number, gone or not, its text -/
structure Chg where
  ver : Int
  gone : Bool
  text : ByteArray

def Chg.cells (c : Chg) : List Value := [.int .i64 c.ver, .bool c.gone, .string c.text]
def Chg.val (c : Chg) : Value := .agg #[.int .i64 c.ver, .bool c.gone, .string c.text]
def rowOf : List Chg → List Value
  | [] => []
  | c :: l => c.cells ++ rowOf l
theorem rowOf_length (l : List Chg) : (rowOf l).length = l.length * 3 := by
  induction l with
  | nil => rfl
  | cons c l ih => simp only [rowOf, List.length_append, ih, List.length_cons, Chg.cells, List.length_nil]; omega
theorem rowOf_append (l m : List Chg) : rowOf (l ++ m) = rowOf l ++ rowOf m := by
  induction l with
  | nil => rfl
  | cons c l ih => simp only [List.cons_append, rowOf, ih, List.append_assoc]
theorem rowOf_get (l : List Chg) (j : Nat) (h : j < l.length) :
    (rowOf l)[j * 3]? = some (.int .i64 l[j].ver) ∧ (rowOf l)[j * 3 + 1]? = some (.bool l[j].gone) ∧ (rowOf l)[j * 3 + 2]? = some (.string l[j].text) := by
  induction l generalizing j with
  | nil => simp at h
  | cons c l ih =>
    cases j with
    | zero => simp [rowOf, Chg.cells]
    | succ j =>
      have e := ih j (by simpa using h)
      have e0 : (j + 1) * 3 = j * 3 + 3 := by omega
      simp only [rowOf, Chg.cells, List.cons_append, List.nil_append, e0, List.getElem_cons_succ]
      have e1 : j * 3 + 3 + 1 = (j * 3 + 1) + 3 := by omega
      have e2 : j * 3 + 3 + 2 = (j * 3 + 2) + 3 := by omega
      rw [e1, e2]
      simpa using e

def none0 : Chg := ⟨0, true, ByteArray.empty⟩
/-- the newest change up to s -/
def pick (l : List Chg) (s : Int) : Chg := (l.reverse.find? fun c => decide (c.ver ≤ s)).getD none0
theorem pick_nil (s : Int) : pick [] s = none0 := rfl
theorem pick_snoc_le (l : List Chg) (c : Chg) (s : Int) (h : c.ver ≤ s) : pick (l ++ [c]) s = c := by simp [pick, h]
theorem pick_snoc_gt (l : List Chg) (c : Chg) (s : Int) (h : ¬ c.ver ≤ s) : pick (l ++ [c]) s = pick l s := by simp [pick, h]
theorem pick_take_succ (l : List Chg) (s : Int) (m : Nat) (h : m < l.length) : l.take (m + 1) = l.take m ++ [l[m]] := by
  rw [List.take_succ_eq_append_getElem h]
end Go.Proofs.YtpcnfoaoajfhlaaGreatDoor

namespace Go.Proofs.YtpcnfoaoajfhlaaGreatDoor
set_option linter.unusedVariables false
set_option linter.unusedSimpArgs false

/-- something done: to a key, gone or put, the text -/
structure Deed where
  key : Int
  gone : Bool
  text : ByteArray

/-- the changes of a key, numbered from n + 1 on -/
def pastFrom (k : Int) : Nat → List Deed → List Chg
  | _, [] => []
  | n, d :: l => if d.key = k then ⟨(n : Int) + 1, d.gone, d.text⟩ :: pastFrom k (n + 1) l else pastFrom k (n + 1) l
def pastOf (done : List Deed) (k : Int) : List Chg := pastFrom k 0 done
/-- the newest change of a key -/
def lastFrom (k : Int) : Nat → List Deed → Chg → Chg
  | _, [], c => c
  | n, d :: l, c => lastFrom k (n + 1) l (if d.key = k then ⟨(n : Int) + 1, d.gone, d.text⟩ else c)
def lastOf (done : List Deed) (k : Int) : Chg := lastFrom k 0 done none0

theorem pastFrom_append (k : Int) (l m : List Deed) (n : Nat) : pastFrom k n (l ++ m) = pastFrom k n l ++ pastFrom k (n + l.length) m := by
  induction l generalizing n with
  | nil => simp [pastFrom]
  | cons d l ih =>
    simp only [List.cons_append, pastFrom, ih, List.length_cons]
    rw [show n + 1 + l.length = n + (l.length + 1) by omega]
    split <;> simp
theorem lastFrom_append (k : Int) (l m : List Deed) (n : Nat) (c : Chg) : lastFrom k n (l ++ m) c = lastFrom k (n + l.length) m (lastFrom k n l c) := by
  induction l generalizing n c with
  | nil => simp [lastFrom]
  | cons d l ih =>
    simp only [List.cons_append, lastFrom, ih, List.length_cons]
    rw [show n + 1 + l.length = n + (l.length + 1) by omega]
theorem pastFrom_length (k : Int) (l : List Deed) (n : Nat) : (pastFrom k n l).length ≤ l.length := by
  induction l generalizing n with
  | nil => simp [pastFrom]
  | cons d l ih =>
    have := ih (n + 1)
    simp only [pastFrom, List.length_cons]
    split <;> (try simp only [List.length_cons]) <;> omega
theorem pastOf_snoc (k : Int) (l : List Deed) (d : Deed) : pastOf (l ++ [d]) k = if d.key = k then pastOf l k ++ [⟨(l.length : Int) + 1, d.gone, d.text⟩] else pastOf l k := by
  unfold pastOf
  rw [pastFrom_append]
  simp only [pastFrom, Nat.zero_add]
  split <;> simp
theorem lastOf_snoc (k : Int) (l : List Deed) (d : Deed) : lastOf (l ++ [d]) k = if d.key = k then ⟨(l.length : Int) + 1, d.gone, d.text⟩ else lastOf l k := by
  unfold lastOf
  rw [lastFrom_append]
  simp only [lastFrom, Nat.zero_add]
theorem lastOf_nil (k : Int) : lastOf [] k = none0 := rfl
theorem pastOf_length (k : Int) (l : List Deed) : (pastOf l k).length ≤ l.length := pastFrom_length k l 0

/-- what the program seeks from the end is what the document says -/
theorem pick_pastOf (k : Int) (l : List Deed) (s : Nat) : pick (pastOf l k) s = lastOf (l.take s) k := by
  obtain ⟨r, rfl⟩ : ∃ r, l = List.reverse r := ⟨l.reverse, by simp⟩
  induction r generalizing s with
  | nil => simp [pastOf, pastFrom, lastOf, lastFrom, pick]
  | cons d r ih =>
    rw [List.reverse_cons, pastOf_snoc]
    by_cases hs : s ≤ r.reverse.length
    · rw [List.take_append_of_le_length hs]
      split
      · rw [pick_snoc_gt _ _ _ (by simp only []; omega)]; exact ih s
      · exact ih s
    · rw [List.take_of_length_le (by simp at hs ⊢; omega), lastOf_snoc]
      split
      · rw [pick_snoc_le _ _ _ (by simp only []; omega)]
      · rw [ih s, List.take_of_length_le (by omega)]

def stK (k : Int) : Bool := decide (0 ≤ k) && decide (k < 8)
theorem stK_iff (k : Int) : stK k = true ↔ 0 ≤ k ∧ k < 8 := by simp [stK]
/-- what a call leaves: what was done, the number, the fault -/
structure Out where
  done : List Deed
  num : Int
  err : Int
def recO (l : List Deed) (k : Int) (g : Bool) (t : ByteArray) : Out := if 1000 ≤ l.length then ⟨l, 0, 4⟩ else ⟨l ++ [⟨k, g, t⟩], (l.length : Int) + 1, 0⟩
def putO (l : List Deed) (k : Int) (t : ByteArray) : Out :=
  if ¬ stK k = true then ⟨l, 0, 1⟩ else if 12 < t.size then ⟨l, 0, 4⟩ else recO l k false t
def delO (l : List Deed) (k : Int) : Out :=
  if ¬ stK k = true then ⟨l, 0, 1⟩ else if (lastOf l k).gone = true then ⟨l, 0, 5⟩ else recO l k true ByteArray.empty
def swapO (l : List Deed) (k v : Int) (t : ByteArray) : Out :=
  if ¬ stK k = true then ⟨l, 0, 1⟩ else if 12 < t.size then ⟨l, 0, 4⟩ else if ¬ (lastOf l k).ver = v then ⟨l, 0, 7⟩ else recO l k false t
end Go.Proofs.YtpcnfoaoajfhlaaGreatDoor

namespace Go.Proofs.YtpcnfoaoajfhlaaGreatDoor
set_option linter.unusedVariables false
set_option linter.unusedSimpArgs false

def Deed.cells (d : Deed) : List Value := [.int .i64 d.key, .int .i64 0, .int .i64 0, .bool d.gone, .string d.text]
def rowE : List Deed → List Value
  | [] => []
  | d :: l => d.cells ++ rowE l
theorem rowE_length (l : List Deed) : (rowE l).length = l.length * 5 := by
  induction l with
  | nil => rfl
  | cons c l ih => simp only [rowE, List.length_append, ih, List.length_cons, Deed.cells, List.length_nil]; omega
theorem rowE_append (l m : List Deed) : rowE (l ++ m) = rowE l ++ rowE m := by
  induction l with
  | nil => rfl
  | cons c l ih => simp only [List.cons_append, rowE, ih, List.append_assoc]
theorem rowE_get (l : List Deed) (j : Nat) (h : j < l.length) :
    (rowE l)[j * 5]? = some (.int .i64 l[j].key) ∧ (rowE l)[j * 5 + 3]? = some (.bool l[j].gone) ∧ (rowE l)[j * 5 + 4]? = some (.string l[j].text) := by
  induction l generalizing j with
  | nil => simp at h
  | cons c l ih =>
    cases j with
    | zero => simp [rowE, Deed.cells]
    | succ j =>
      have e := ih j (by simpa using h)
      have e0 : (j + 1) * 5 = j * 5 + 5 := by omega
      simp only [rowE, Deed.cells, List.cons_append, List.nil_append, e0, List.getElem_cons_succ]
      have e1 : j * 5 + 5 + 3 = (j * 5 + 3) + 5 := by omega
      have e2 : j * 5 + 5 + 4 = (j * 5 + 4) + 5 := by omega
      rw [e1, e2]
      simpa using e
theorem lastOf_take_hit (l : List Deed) (k : Int) (j : Nat) (h : j < l.length) (hk : l[j].key = k) : lastOf (l.take (j + 1)) k = ⟨(j : Int) + 1, l[j].gone, l[j].text⟩ := by
  rw [List.take_succ_eq_append_getElem h, lastOf_snoc, if_pos hk]
  simp only [List.length_take]
  rw [Nat.min_eq_left (by omega)]
theorem lastOf_take_miss (l : List Deed) (k : Int) (j : Nat) (h : j < l.length) (hk : ¬ l[j].key = k) : lastOf (l.take (j + 1)) k = lastOf (l.take j) k := by
  rw [List.take_succ_eq_append_getElem h, lastOf_snoc, if_neg hk]
end Go.Proofs.YtpcnfoaoajfhlaaGreatDoor

namespace Go.Proofs.YtpcnfoaoajfhlaaGreatDoor
set_option linter.unusedVariables false
set_option linter.unusedSimpArgs false

theorem lastOf_ver (l : List Deed) (k : Int) : 0 ≤ (lastOf l k).ver ∧ (lastOf l k).ver ≤ l.length := by
  obtain ⟨r, rfl⟩ : ∃ r, l = List.reverse r := ⟨l.reverse, by simp⟩
  induction r with
  | nil => simp [lastOf, lastFrom, none0]
  | cons d r ih =>
    rw [List.reverse_cons, lastOf_snoc]
    simp only [List.length_append, List.length_cons, List.length_nil]
    split
    · simp only []; omega
    · omega
theorem lastOf_take_ver (l : List Deed) (k : Int) (s : Nat) : 0 ≤ (lastOf (l.take s) k).ver ∧ (lastOf (l.take s) k).ver ≤ s := by
  have h := lastOf_ver (l.take s) k
  have : (l.take s).length ≤ s := List.length_take_le _ _
  omega
/-- from its version on, up to its time, each time tells the same -/
theorem lastOf_between (l : List Deed) (k : Int) (s q : Nat) (hs : s ≤ l.length) (h1 : (lastOf (l.take s) k).ver ≤ q) (h2 : q ≤ s) : lastOf (l.take q) k = lastOf (l.take s) k := by
  induction s with
  | zero => obtain rfl : q = 0 := by omega
            rfl
  | succ s ih =>
    have hlt : s < l.length := by omega
    by_cases hq : q = s + 1
    · rw [hq]
    · by_cases hk : l[s].key = k
      · rw [lastOf_take_hit l k s hlt hk] at h1
        simp only [] at h1
        omega
      · rw [lastOf_take_miss l k s hlt hk] at h1 ⊢
        exact ih (by omega) h1 (by omega)
/-- what was at a number is the same whatever is done later -/
theorem lastOf_later (l m : List Deed) (k : Int) (s : Nat) (hs : s ≤ l.length) : lastOf ((l ++ m).take s) k = lastOf (l.take s) k := by
  rw [List.take_append_of_le_length hs]

/-- what is right: texts of at most 12 bytes, of what is gone none -/
def GoodD (d : Deed) : Prop := d.text.size ≤ 12 ∧ (d.gone = true → d.text = ByteArray.empty)
def Good (l : List Deed) : Prop := ∀ d ∈ l, GoodD d
theorem lastFrom_good (k : Int) (l : List Deed) (h : Good l) (n : Nat) (c : Chg) (hc : c.text.size ≤ 12 ∧ (c.gone = true → c.text = ByteArray.empty)) :
    (lastFrom k n l c).text.size ≤ 12 ∧ ((lastFrom k n l c).gone = true → (lastFrom k n l c).text = ByteArray.empty) := by
  induction l generalizing n c with
  | nil => exact hc
  | cons d l ih =>
    simp only [lastFrom]
    refine ih (fun x hx => h x (List.mem_cons_of_mem _ hx)) _ _ ?_
    split
    · exact h d List.mem_cons_self
    · exact hc
theorem lastOf_good (k : Int) (l : List Deed) (h : Good l) : (lastOf l k).text.size ≤ 12 ∧ ((lastOf l k).gone = true → (lastOf l k).text = ByteArray.empty) :=
  lastFrom_good k l h 0 none0 ⟨by decide, fun _ => rfl⟩
theorem good_take (l : List Deed) (h : Good l) (s : Nat) : Good (l.take s) := fun d hd => h d (List.mem_of_mem_take hd)
theorem good_rec (l : List Deed) (k : Int) (g : Bool) (t : ByteArray) (h : Good l) (hd : GoodD ⟨k, g, t⟩) : Good (recO l k g t).done := by
  unfold recO
  split
  · exact h
  · intro d hm
    rcases List.mem_append.1 hm with h1 | h1
    · exact h d h1
    · rw [List.mem_singleton.1 h1]; exact hd
theorem good_put (l : List Deed) (k : Int) (t : ByteArray) (h : Good l) : Good (putO l k t).done := by
  unfold putO
  split
  · exact h
  · split
    · exact h
    · rename_i h12
      exact good_rec l k false t h ⟨by simp only []; omega, fun e => by cases e⟩
theorem good_del (l : List Deed) (k : Int) (h : Good l) : Good (delO l k).done := by
  unfold delO
  split
  · exact h
  · split
    · exact h
    · exact good_rec l k true ByteArray.empty h ⟨show ByteArray.empty.size ≤ 12 by decide, fun _ => rfl⟩
theorem rec_grows (l : List Deed) (k : Int) (g : Bool) (t : ByteArray) : ∃ m, (recO l k g t).done = l ++ m := by
  unfold recO
  split
  · exact ⟨[], by simp⟩
  · exact ⟨_, rfl⟩
theorem put_grows (l : List Deed) (k : Int) (t : ByteArray) : ∃ m, (putO l k t).done = l ++ m := by
  unfold putO
  split
  · exact ⟨[], by simp⟩
  · split
    · exact ⟨[], by simp⟩
    · exact rec_grows l k false t
theorem del_grows (l : List Deed) (k : Int) : ∃ m, (delO l k).done = l ++ m := by
  unfold delO
  split
  · exact ⟨[], by simp⟩
  · split
    · exact ⟨[], by simp⟩
    · exact rec_grows l k true ByteArray.empty
end Go.Proofs.YtpcnfoaoajfhlaaGreatDoor

namespace Go.Proofs.YtpcnfoaoajfhlaaGreatDoor
set_option linter.unusedVariables false
set_option linter.unusedSimpArgs false

/-- a text's bytes as numbers -/
def txtN (t : ByteArray) : List Nat := t.data.toList.map (fun b => b.toNat)
theorem txtN_length (t : ByteArray) : (txtN t).length = t.size := by rw [txtN, List.length_map]; rfl
theorem txtN_byte (t : ByteArray) : ∀ b ∈ txtN t, b < 256 := by
  intro b hb
  obtain ⟨c, _, rfl⟩ := List.mem_map.1 hb
  exact c.toNat_lt
def whatN (d : Deed) : Nat := d.key.toNat + (if d.gone = true then 8 else 0)
/-- a record's bytes -/
def encD (d : Deed) : List Nat := whatN d :: d.text.size :: txtN d.text
theorem encD_length (d : Deed) : (encD d).length = d.text.size + 2 := by simp [encD, txtN_length]
def flatD : List Deed → List Nat
  | [] => []
  | d :: l => encD d ++ flatD l
theorem flatD_append (l m : List Deed) : flatD (l ++ m) = flatD l ++ flatD m := by
  induction l with
  | nil => rfl
  | cons d l ih => simp only [List.cons_append, flatD, ih, List.append_assoc]
theorem flatD_snoc (l : List Deed) (d : Deed) : flatD (l ++ [d]) = flatD l ++ encD d := by rw [flatD_append]; simp [flatD]
/-- no whole record stands at its beginning -/
def NoRec (p : List Nat) : Prop := ∀ a b r, p = a :: b :: r → r.length < b
/-- a beginning of a record that is not whole -/
def Part (p : List Nat) : Prop := ∃ d k, k < (encD d).length ∧ p = (encD d).take k
theorem Part.no {p : List Nat} (h : Part p) : NoRec p := by
  obtain ⟨d, k, hk, rfl⟩ := h
  intro a b r he
  rw [encD_length] at hk
  match k, hk, he with
  | 0, _, he => simp at he
  | 1, _, he => simp [encD] at he
  | k + 2, hk, he =>
    simp only [encD, List.take_succ_cons, List.cons.injEq] at he
    obtain ⟨_, hb, hr⟩ := he
    rw [← hr, ← hb, List.length_take, txtN_length]
    omega
theorem part_nil : Part [] := ⟨⟨0, false, ByteArray.empty⟩, 0, by simp [encD_length], by simp⟩
theorem Part.take {p : List Nat} (h : Part p) (n : Nat) : Part (p.take n) := by
  obtain ⟨d, k, hk, rfl⟩ := h
  exact ⟨d, min n k, by omega, by rw [List.take_take]⟩
def lenD (l : List Deed) (i : Nat) : Nat := (flatD (l.take i)).length
theorem lenD_zero (l : List Deed) : lenD l 0 = 0 := by simp [lenD, flatD]
theorem lenD_succ {l : List Deed} {i : Nat} (h : i < l.length) : lenD l (i + 1) = lenD l i + (l[i].text.size + 2) := by
  rw [lenD, List.take_succ_eq_append_getElem h, flatD_snoc, List.length_append, encD_length]
  rfl
theorem lenD_all {l : List Deed} {i : Nat} (h : l.length ≤ i) : lenD l i = (flatD l).length := by rw [lenD, List.take_of_length_le h]
theorem lenD_mono {l : List Deed} {i j : Nat} (h : i ≤ j) (hj : j ≤ l.length) : lenD l i + 2 * (j - i) ≤ lenD l j := by
  induction j with
  | zero => obtain rfl : i = 0 := by omega
            simp
  | succ j ih =>
    by_cases hij : i = j + 1
    · subst hij; simp
    · have h1 := ih (by omega) (by omega)
      rw [lenD_succ (by omega)]
      omega
theorem lenD_take {l : List Deed} {m i : Nat} (h : i ≤ m) : lenD (l.take m) i = lenD l i := by rw [lenD, List.take_take, Nat.min_eq_left h]; rfl
theorem lenD_append {l m : List Deed} {i : Nat} (h : i ≤ l.length) : lenD (l ++ m) i = lenD l i := by rw [lenD, List.take_append_of_le_length h]; rfl
/-- what is left of the bytes behind a cut -/
theorem cut_bytes (l : List Deed) {p : List Nat} (hp : Part p) (K : Nat) :
    ∃ m p', m ≤ l.length ∧ Part p' ∧ (flatD l ++ p).take K = flatD (l.take m) ++ p' ∧ lenD l m ≤ K ∧ ∀ i, m < i → i ≤ l.length → K < lenD l i := by
  induction l generalizing K with
  | nil => exact ⟨0, p.take K, Nat.le_refl _, hp.take K, by simp [flatD], by simp [lenD, flatD], fun i h1 h2 => by simp at h2; omega⟩
  | cons d l ih =>
    by_cases hK : K < (encD d).length
    · refine ⟨0, (encD d).take K, Nat.zero_le _, ⟨d, K, hK, rfl⟩, ?_, by simp [lenD, flatD], fun i h1 h2 => ?_⟩
      · simp only [flatD, List.append_assoc, List.take_zero, List.nil_append]
        rw [List.take_append_of_le_length (by omega)]
      · have h3 := lenD_mono (l := d :: l) (i := 1) (j := i) (by omega) h2
        have h4 : lenD (d :: l) 1 = (encD d).length := by simp [lenD, flatD]
        omega
    · obtain ⟨m, p', h1, h2, h3, h4, h5⟩ := ih (K - (encD d).length)
      have hl : ∀ i, lenD (d :: l) (i + 1) = (encD d).length + lenD l i := fun i => by simp [lenD, flatD]
      refine ⟨m + 1, p', by simp; omega, h2, ?_, by rw [hl]; omega, fun i hi1 hi2 => ?_⟩
      · simp only [flatD, List.append_assoc, List.take_succ_cons]
        rw [List.take_append, h3, List.take_of_length_le (by omega)]
      · obtain ⟨q, rfl⟩ : ∃ q, i = q + 1 := ⟨i - 1, by omega⟩
        rw [hl]
        have := h5 q (by omega) (by simpa using hi2)
        omega

/-- what a record tells to a store -/
def doO (l : List Deed) (d : Deed) : Out := if d.gone = true then delO l d.key else putO l d.key d.text
/-- each of them goes, one behind the other -/
def Fits (l : List Deed) : Prop := ∀ i (h : i < l.length), (doO (l.take i) l[i]).err = 0 ∧ (doO (l.take i) l[i]).done = l.take (i + 1)
theorem fits_nil : Fits [] := fun i h => absurd h (by simp)
theorem Fits.take {l : List Deed} (h : Fits l) (m : Nat) : Fits (l.take m) := by
  intro i hi
  have hi' : i < m ∧ i < l.length := by simpa [List.length_take, Nat.lt_min] using hi
  have := h i hi'.2
  rw [List.getElem_take, List.take_take, List.take_take, Nat.min_eq_left (by omega), Nat.min_eq_left (by omega)]
  exact this
theorem Fits.snoc {l : List Deed} {d : Deed} (h : Fits l) (hd : (doO l d).err = 0) (he : (doO l d).done = l ++ [d]) : Fits (l ++ [d]) := by
  intro i hi
  rw [List.length_append] at hi
  by_cases hl : i < l.length
  · rw [List.getElem_append_left hl, List.take_append_of_le_length (by omega), List.take_append_of_le_length (by omega)]
    exact h i hl
  · obtain rfl : i = l.length := by simp at hi; omega
    rw [List.getElem_append_right (Nat.le_refl _), List.take_append_of_le_length (Nat.le_refl _)]
    simp only [Nat.sub_self, List.getElem_cons_zero, List.take_length]
    rw [List.take_of_length_le (by simp)]
    exact ⟨hd, he⟩
end Go.Proofs.YtpcnfoaoajfhlaaGreatDoor
