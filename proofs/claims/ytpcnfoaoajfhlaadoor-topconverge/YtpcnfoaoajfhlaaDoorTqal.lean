/-
  Plain mathematics on a store's changes: the cells of a row of changes; which change of a key is the newest up to a number.
  Plain mathematics of a store: what was done, one behind the other; what a key was at a number; put, delete and swap as functions on what was done.
  Plain: the cells of the document's store; what is newest, step by step.
  Plain mathematics of a store's past: what was at a number stays; from its version on it is the same; ahead of it it is older; what is kept is right.
  slices.Clone at a cache, by its contract.
  copy at elements of several cells; a row that is written into.
-/
import GoSem.Claim
import Derived.Test.YtpcnfoaoajfhlaaDoorTqac
import Derived.Lib.Walk
import Derived.Lib.SliceRun
import Derived.Maps.AppendAt
import Derived.Laws.IdiomCopy
import Derived.Lib.Overlaps
import Derived.Lib.AppendZerosOnto
import Derived.Lib.JoinLaws
import Derived.Laws.NewBlocks
import Derived.Deep.RegionLaw
import Derived.Deep.AppendLies
import Derived.Laws.Rows
namespace Go.Proofs.YtpcnfoaoajfhlaaDoor
set_option linter.unusedVariables false
set_option linter.unusedSimpArgs false
set_option linter.unusedVariables false
set_option linter.unusedSimpArgs false

/-- a change of a key: its number, gone or not, its text -/
structure Chg where
  ver : Int
  gone : Bool
  text : ByteArray

def Chg.cells (c : Chg) : List Value := [.int .i64 c.ver, .bool c.gone, .string c.text]
def Chg.val (c : Chg) : Value := .agg #[.int .i64 c.ver, .bool c.gone, .string c.text]
def rowOf : List Chg → List Value
  | [] => []
  | c :: l => c.cells ++ rowOf l
theorem rowOf_length (l : List Chg) : (rowOf l).length = l.length * 3 := by
  induction l with
  | nil => rfl
  | cons c l ih => simp only [rowOf, List.length_append, ih, List.length_cons, Chg.cells, List.length_nil]; omega
theorem rowOf_append (l m : List Chg) : rowOf (l ++ m) = rowOf l ++ rowOf m := by
  induction l with
  | nil => rfl
  | cons c l ih => simp only [List.cons_append, rowOf, ih, List.append_assoc]
theorem rowOf_get (l : List Chg) (j : Nat) (h : j < l.length) :
    (rowOf l)[j * 3]? = some (.int .i64 l[j].ver) ∧ (rowOf l)[j * 3 + 1]? = some (.bool l[j].gone) ∧ (rowOf l)[j * 3 + 2]? = some (.string l[j].text) := by
  induction l generalizing j with
  | nil => simp at h
  | cons c l ih =>
    cases j with
    | zero => simp [rowOf, Chg.cells]
    | succ j =>
      have e := ih j (by simpa using h)
      have e0 : (j + 1) * 3 = j * 3 + 3 := by omega
      simp only [rowOf, Chg.cells, List.cons_append, List.nil_append, e0, List.getElem_cons_succ]
      have e1 : j * 3 + 3 + 1 = (j * 3 + 1) + 3 := by omega
      have e2 : j * 3 + 3 + 2 = (j * 3 + 2) + 3 := by omega
      rw [e1, e2]
      simpa using e

def none0 : Chg := ⟨0, true, ByteArray.empty⟩
/-- the newest change up to s -/
def pick (l : List Chg) (s : Int) : Chg := (l.reverse.find? fun c => decide (c.ver ≤ s)).getD none0
theorem pick_nil (s : Int) : pick [] s = none0 := rfl
theorem pick_snoc_le (l : List Chg) (c : Chg) (s : Int) (h : c.ver ≤ s) : pick (l ++ [c]) s = c := by simp [pick, h]
theorem pick_snoc_gt (l : List Chg) (c : Chg) (s : Int) (h : ¬ c.ver ≤ s) : pick (l ++ [c]) s = pick l s := by simp [pick, h]
theorem pick_take_succ (l : List Chg) (s : Int) (m : Nat) (h : m < l.length) : l.take (m + 1) = l.take m ++ [l[m]] := by
  rw [List.take_succ_eq_append_getElem h]
end Go.Proofs.YtpcnfoaoajfhlaaDoor

namespace Go.Proofs.YtpcnfoaoajfhlaaDoor
set_option linter.unusedVariables false
set_option linter.unusedSimpArgs false

/-- something done: to a key, gone or put, the text -/
structure Deed where
  key : Int
  gone : Bool
  text : ByteArray

/-- the changes of a key, numbered from n + 1 on -/
def pastFrom (k : Int) : Nat → List Deed → List Chg
  | _, [] => []
  | n, d :: l => if d.key = k then ⟨(n : Int) + 1, d.gone, d.text⟩ :: pastFrom k (n + 1) l else pastFrom k (n + 1) l
def pastOf (done : List Deed) (k : Int) : List Chg := pastFrom k 0 done
/-- the newest change of a key -/
def lastFrom (k : Int) : Nat → List Deed → Chg → Chg
  | _, [], c => c
  | n, d :: l, c => lastFrom k (n + 1) l (if d.key = k then ⟨(n : Int) + 1, d.gone, d.text⟩ else c)
def lastOf (done : List Deed) (k : Int) : Chg := lastFrom k 0 done none0

theorem pastFrom_append (k : Int) (l m : List Deed) (n : Nat) : pastFrom k n (l ++ m) = pastFrom k n l ++ pastFrom k (n + l.length) m := by
  induction l generalizing n with
  | nil => simp [pastFrom]
  | cons d l ih =>
    simp only [List.cons_append, pastFrom, ih, List.length_cons]
    rw [show n + 1 + l.length = n + (l.length + 1) by omega]
    split <;> simp
theorem lastFrom_append (k : Int) (l m : List Deed) (n : Nat) (c : Chg) : lastFrom k n (l ++ m) c = lastFrom k (n + l.length) m (lastFrom k n l c) := by
  induction l generalizing n c with
  | nil => simp [lastFrom]
  | cons d l ih =>
    simp only [List.cons_append, lastFrom, ih, List.length_cons]
    rw [show n + 1 + l.length = n + (l.length + 1) by omega]
theorem pastFrom_length (k : Int) (l : List Deed) (n : Nat) : (pastFrom k n l).length ≤ l.length := by
  induction l generalizing n with
  | nil => simp [pastFrom]
  | cons d l ih =>
    have := ih (n + 1)
    simp only [pastFrom, List.length_cons]
    split <;> (try simp only [List.length_cons]) <;> omega
theorem pastOf_snoc (k : Int) (l : List Deed) (d : Deed) : pastOf (l ++ [d]) k = if d.key = k then pastOf l k ++ [⟨(l.length : Int) + 1, d.gone, d.text⟩] else pastOf l k := by
  unfold pastOf
  rw [pastFrom_append]
  simp only [pastFrom, Nat.zero_add]
  split <;> simp
theorem lastOf_snoc (k : Int) (l : List Deed) (d : Deed) : lastOf (l ++ [d]) k = if d.key = k then ⟨(l.length : Int) + 1, d.gone, d.text⟩ else lastOf l k := by
  unfold lastOf
  rw [lastFrom_append]
  simp only [lastFrom, Nat.zero_add]
theorem lastOf_nil (k : Int) : lastOf [] k = none0 := rfl
theorem pastOf_length (k : Int) (l : List Deed) : (pastOf l k).length ≤ l.length := pastFrom_length k l 0

/-- what the program seeks from the end is what the document says -/
theorem pick_pastOf (k : Int) (l : List Deed) (s : Nat) : pick (pastOf l k) s = lastOf (l.take s) k := by
  obtain ⟨r, rfl⟩ : ∃ r, l = List.reverse r := ⟨l.reverse, by simp⟩
  induction r generalizing s with
  | nil => simp [pastOf, pastFrom, lastOf, lastFrom, pick]
  | cons d r ih =>
    rw [List.reverse_cons, pastOf_snoc]
    by_cases hs : s ≤ r.reverse.length
    · rw [List.take_append_of_le_length hs]
      split
      · rw [pick_snoc_gt _ _ _ (by simp only []; omega)]; exact ih s
      · exact ih s
    · rw [List.take_of_length_le (by simp at hs ⊢; omega), lastOf_snoc]
      split
      · rw [pick_snoc_le _ _ _ (by simp only []; omega)]
      · rw [ih s, List.take_of_length_le (by omega)]

def stK (k : Int) : Bool := decide (0 ≤ k) && decide (k < 8)
theorem stK_iff (k : Int) : stK k = true ↔ 0 ≤ k ∧ k < 8 := by simp [stK]
/-- what a call leaves: what was done, the number, the fault -/
structure Out where
  done : List Deed
  num : Int
  err : Int
def recO (l : List Deed) (k : Int) (g : Bool) (t : ByteArray) : Out := if 1000 ≤ l.length then ⟨l, 0, 4⟩ else ⟨l ++ [⟨k, g, t⟩], (l.length : Int) + 1, 0⟩
def putO (l : List Deed) (k : Int) (t : ByteArray) : Out :=
  if ¬ stK k = true then ⟨l, 0, 1⟩ else if 12 < t.size then ⟨l, 0, 4⟩ else recO l k false t
def delO (l : List Deed) (k : Int) : Out :=
  if ¬ stK k = true then ⟨l, 0, 1⟩ else if (lastOf l k).gone = true then ⟨l, 0, 5⟩ else recO l k true ByteArray.empty
def swapO (l : List Deed) (k v : Int) (t : ByteArray) : Out :=
  if ¬ stK k = true then ⟨l, 0, 1⟩ else if 12 < t.size then ⟨l, 0, 4⟩ else if ¬ (lastOf l k).ver = v then ⟨l, 0, 7⟩ else recO l k false t
end Go.Proofs.YtpcnfoaoajfhlaaDoor

namespace Go.Proofs.YtpcnfoaoajfhlaaDoor
set_option linter.unusedVariables false
set_option linter.unusedSimpArgs false

def Deed.cells (d : Deed) : List Value := [.int .i64 d.key, .int .i64 0, .int .i64 0, .bool d.gone, .string d.text]
def rowE : List Deed → List Value
  | [] => []
  | d :: l => d.cells ++ rowE l
theorem rowE_length (l : List Deed) : (rowE l).length = l.length * 5 := by
  induction l with
  | nil => rfl
  | cons c l ih => simp only [rowE, List.length_append, ih, List.length_cons, Deed.cells, List.length_nil]; omega
theorem rowE_append (l m : List Deed) : rowE (l ++ m) = rowE l ++ rowE m := by
  induction l with
  | nil => rfl
  | cons c l ih => simp only [List.cons_append, rowE, ih, List.append_assoc]
theorem rowE_get (l : List Deed) (j : Nat) (h : j < l.length) :
    (rowE l)[j * 5]? = some (.int .i64 l[j].key) ∧ (rowE l)[j * 5 + 3]? = some (.bool l[j].gone) ∧ (rowE l)[j * 5 + 4]? = some (.string l[j].text) := by
  induction l generalizing j with
  | nil => simp at h
  | cons c l ih =>
    cases j with
    | zero => simp [rowE, Deed.cells]
    | succ j =>
      have e := ih j (by simpa using h)
      have e0 : (j + 1) * 5 = j * 5 + 5 := by omega
      simp only [rowE, Deed.cells, List.cons_append, List.nil_append, e0, List.getElem_cons_succ]
      have e1 : j * 5 + 5 + 3 = (j * 5 + 3) + 5 := by omega
      have e2 : j * 5 + 5 + 4 = (j * 5 + 4) + 5 := by omega
      rw [e1, e2]
      simpa using e
theorem lastOf_take_hit (l : List Deed) (k : Int) (j : Nat) (h : j < l.length) (hk : l[j].key = k) : lastOf (l.take (j + 1)) k = ⟨(j : Int) + 1, l[j].gone, l[j].text⟩ := by
  rw [List.take_succ_eq_append_getElem h, lastOf_snoc, if_pos hk]
  simp only [List.length_take]
  rw [Nat.min_eq_left (by omega)]
theorem lastOf_take_miss (l : List Deed) (k : Int) (j : Nat) (h : j < l.length) (hk : ¬ l[j].key = k) : lastOf (l.take (j + 1)) k = lastOf (l.take j) k := by
  rw [List.take_succ_eq_append_getElem h, lastOf_snoc, if_neg hk]
end Go.Proofs.YtpcnfoaoajfhlaaDoor

namespace Go.Proofs.YtpcnfoaoajfhlaaDoor
set_option linter.unusedVariables false
set_option linter.unusedSimpArgs false

theorem lastOf_ver (l : List Deed) (k : Int) : 0 ≤ (lastOf l k).ver ∧ (lastOf l k).ver ≤ l.length := by
  obtain ⟨r, rfl⟩ : ∃ r, l = List.reverse r := ⟨l.reverse, by simp⟩
  induction r with
  | nil => simp [lastOf, lastFrom, none0]
  | cons d r ih =>
    rw [List.reverse_cons, lastOf_snoc]
    simp only [List.length_append, List.length_cons, List.length_nil]
    split
    · simp only []; omega
    · omega
theorem lastOf_take_ver (l : List Deed) (k : Int) (s : Nat) : 0 ≤ (lastOf (l.take s) k).ver ∧ (lastOf (l.take s) k).ver ≤ s := by
  have h := lastOf_ver (l.take s) k
  have : (l.take s).length ≤ s := List.length_take_le _ _
  omega
/-- from its version on, up to its time, each time tells the same -/
theorem lastOf_between (l : List Deed) (k : Int) (s q : Nat) (hs : s ≤ l.length) (h1 : (lastOf (l.take s) k).ver ≤ q) (h2 : q ≤ s) : lastOf (l.take q) k = lastOf (l.take s) k := by
  induction s with
  | zero => obtain rfl : q = 0 := by omega
            rfl
  | succ s ih =>
    have hlt : s < l.length := by omega
    by_cases hq : q = s + 1
    · rw [hq]
    · by_cases hk : l[s].key = k
      · rw [lastOf_take_hit l k s hlt hk] at h1
        simp only [] at h1
        omega
      · rw [lastOf_take_miss l k s hlt hk] at h1 ⊢
        exact ih (by omega) h1 (by omega)
/-- what was at a number is the same whatever is done later -/
theorem lastOf_later (l m : List Deed) (k : Int) (s : Nat) (hs : s ≤ l.length) : lastOf ((l ++ m).take s) k = lastOf (l.take s) k := by
  rw [List.take_append_of_le_length hs]

/-- what is right: texts of at most 12 bytes, of what is gone none -/
def GoodD (d : Deed) : Prop := d.text.size ≤ 12 ∧ (d.gone = true → d.text = ByteArray.empty)
def Good (l : List Deed) : Prop := ∀ d ∈ l, GoodD d
theorem lastFrom_good (k : Int) (l : List Deed) (h : Good l) (n : Nat) (c : Chg) (hc : c.text.size ≤ 12 ∧ (c.gone = true → c.text = ByteArray.empty)) :
    (lastFrom k n l c).text.size ≤ 12 ∧ ((lastFrom k n l c).gone = true → (lastFrom k n l c).text = ByteArray.empty) := by
  induction l generalizing n c with
  | nil => exact hc
  | cons d l ih =>
    simp only [lastFrom]
    refine ih (fun x hx => h x (List.mem_cons_of_mem _ hx)) _ _ ?_
    split
    · exact h d List.mem_cons_self
    · exact hc
theorem lastOf_good (k : Int) (l : List Deed) (h : Good l) : (lastOf l k).text.size ≤ 12 ∧ ((lastOf l k).gone = true → (lastOf l k).text = ByteArray.empty) :=
  lastFrom_good k l h 0 none0 ⟨by decide, fun _ => rfl⟩
theorem good_take (l : List Deed) (h : Good l) (s : Nat) : Good (l.take s) := fun d hd => h d (List.mem_of_mem_take hd)
theorem good_rec (l : List Deed) (k : Int) (g : Bool) (t : ByteArray) (h : Good l) (hd : GoodD ⟨k, g, t⟩) : Good (recO l k g t).done := by
  unfold recO
  split
  · exact h
  · intro d hm
    rcases List.mem_append.1 hm with h1 | h1
    · exact h d h1
    · rw [List.mem_singleton.1 h1]; exact hd
theorem good_put (l : List Deed) (k : Int) (t : ByteArray) (h : Good l) : Good (putO l k t).done := by
  unfold putO
  split
  · exact h
  · split
    · exact h
    · rename_i h12
      exact good_rec l k false t h ⟨by simp only []; omega, fun e => by cases e⟩
theorem good_del (l : List Deed) (k : Int) (h : Good l) : Good (delO l k).done := by
  unfold delO
  split
  · exact h
  · split
    · exact h
    · exact good_rec l k true ByteArray.empty h ⟨show ByteArray.empty.size ≤ 12 by decide, fun _ => rfl⟩
theorem rec_grows (l : List Deed) (k : Int) (g : Bool) (t : ByteArray) : ∃ m, (recO l k g t).done = l ++ m := by
  unfold recO
  split
  · exact ⟨[], by simp⟩
  · exact ⟨_, rfl⟩
theorem put_grows (l : List Deed) (k : Int) (t : ByteArray) : ∃ m, (putO l k t).done = l ++ m := by
  unfold putO
  split
  · exact ⟨[], by simp⟩
  · split
    · exact ⟨[], by simp⟩
    · exact rec_grows l k false t
theorem del_grows (l : List Deed) (k : Int) : ∃ m, (delO l k).done = l ++ m := by
  unfold delO
  split
  · exact ⟨[], by simp⟩
  · split
    · exact ⟨[], by simp⟩
    · exact rec_grows l k true ByteArray.empty
end Go.Proofs.YtpcnfoaoajfhlaaDoor

namespace Go.Proofs.YtpcnfoaoajfhlaaDoor
set_option linter.unusedVariables false
set_option linter.unusedSimpArgs false
open Go.RowKit Go.Lib

set_option maxHeartbeats 2000000 in
set_option maxRecDepth 100000 in
theorem clone_c (v : Value) (l : List En) (w : World) (hr : RowIs w v l) (h8 : l.length ≤ 8) :
    Calls Tryd.prog 36 #[v] w fun e w' => ∃ v', e = .returned v' ∧ w'.ownsRow w.heap.size 38 5 v' l.length (rowC l) ∧ Below w.heap.size w w' := by
  obtain ⟨i0, hi0, hz0, hz1, hz2⟩ := info_parts infoEn
  obtain ⟨hlen, p, cap, rfl, hrow⟩ := hr
  have q22 : ∀ (w : World) (a : Option Addr) (n c n' c' : Nat), (binOp .eql 34 (.slice a n c) (.slice none n' c')).run Tryd.prog w = .ok (.bool a.isNone) w := fun w a n c n' c' => Lib.run_eql_slice_nil w _ _ a n c n' c' Tryd.underlying34
  cases p with
  | none =>
    have hl : l = [] := by
      cases l with
      | nil => rfl
      | cons e l => obtain ⟨b, o, h, _⟩ := hrow (by simp); cases h
    subst hl
    go_enter Tryd.func36, Tryd.ntmps36
    go_wp2_with fail
    go_ret
    exact ⟨_, rfl, World.ownsRow_nil _ _ _ _, by go_grown⟩
  | some ad =>
    have HC : Hid (∀ j u, (rowC l)[j]? = some u → w.cell? (ad.add j) = some u) := by
      intro j u hu
      cases l with
      | nil => simp [rowC] at hu
      | cons e l =>
        obtain ⟨b, o, h, _, hat⟩ := hrow (by simp)
        obtain rfl := Option.some.inj h
        rw [Addr.add_lit]
        exact RowIs.cells (cap := 0) hat j u hu
    clear hrow
    go_enter Tryd.func36, Tryd.ntmps36
    go_wp2_with (at_builtin; refine wpList_append_own _ rfl _ _ 34 rfl w.heap.size 38 i0 _ 5 48 Tryd.underlying34 hi0 hz0 hz1 hz2 rfl (by omega) _ _ _ rfl (World.ownsRow_made w #[] 0 (Nat.le_refl _) (Nat.zero_le _) (by simp)) ad l.length cap (rowC l) rfl ?qc1 ?qc2 ?qc3 ?qc4 ?qc5 ?qc6 ?_)
    case qc1 => exact rowC_length l
    case qc2 =>
      intro j u hj
      exact Lib.cell?_alloc_some _ (HC.out j u hj)
    case qc3 => exact rowC_one l
    case qc4 => rw [Nat.zero_add]; exact hlen
    case qc5 => rw [Nat.zero_add]; omega
    case qc6 => simp
    intro v' w1 hown hgrow hnil
    go_wp2_with fail
    go_ret
    refine ⟨v', rfl, by simpa using hown, ?_⟩
    exact ((Below.refl _ w).alloc (Nat.le_refl _) _).grown hgrow (by simp) (by intro k hk; simp [Value.ownBlock] at hk; omega)
end Go.Proofs.YtpcnfoaoajfhlaaDoor

namespace Go.Proofs.YtpcnfoaoajfhlaaDoor
set_option linter.unusedVariables false
set_option linter.unusedSimpArgs false
open Go.RowKit Go.Lib

theorem run_copy_k {P : Program} (w : World) (dT sT ty elem : TypeId) (k b o dLen dCap : Nat) (a : Addr) (sLen sCap : Nat) (cs : List Value) (n : Nat)
    (hu : P.underlying dT = some (.slice elem)) (hs : (P.info? elem).map (·.size) = some k) (hn : Nat.min sLen dLen = n) (hl : cs.length = n * k)
    (hsrc : ∀ j v, cs[j]? = some v → w.cell? (a.add j) = some v) (hc : ∀ j, j < cs.length → (w.cell? ⟨b, o + j, none⟩).isSome = true) (hf : ∀ j, j < cs.length → w.frozen? ⟨b, o + j, none⟩ = false) (h1 : ∀ v ∈ cs, v.oneCell' = true) :
    (Builtin.copy_ #[dT, sT] ty #[.slice (some ⟨b, o, none⟩) dLen dCap, .slice (some a) sLen sCap]).run P w = .ok (goInt n) (w.setCells b o cs) := by
  have hl' := run_loadCells_list (P := P) w a cs hsrc
  rw [hl] at hl'
  have hst := run_storeCells_cells (P := P) b o cs 0 w (by simpa using hc) (by simpa using hf) h1
  cases hq : P.info? elem with
  | none => simp [hq] at hs
  | some i =>
    have hi : i.size = k := by simpa [hq] using hs
    simp [Builtin.copy_, run_underlying hu, Builtin.lenOf, Builtin.firstCells, sizeOf, typeInfo, hq, hi, hn, hl', hst]

theorem setCells_block (b : Nat) (t : TypeId) : ∀ (vs : List Value) (o : Nat) (w : World) (cur : Array Value), w.heap[b]? = some (.cells cur t (0, 0)) → ∃ cur', (w.setCells b o vs).heap[b]? = some (.cells cur' t (0, 0)) ∧ cur'.size = cur.size
  | [], _, _, cur, h => ⟨cur, h, rfl⟩
  | v :: r, o, w, cur, h => by
    have h1 : (w.setCell ⟨b, o, none⟩ v).heap[b]? = some (.cells (cur.setIfInBounds o v) t (0, 0)) := by
      show (w.heap.modify b _)[b]? = _
      rw [Array.getElem?_modify, if_pos rfl, h]
      rfl
    obtain ⟨cur', h2, h3⟩ := setCells_block b t r (o + 1) _ _ h1
    exact ⟨cur', h2, by simpa using h3⟩
theorem setCells_other (b : Nat) : ∀ (vs : List Value) (o : Nat) (w : World) (c : Nat), c ≠ b → (w.setCells b o vs).heap[c]? = w.heap[c]?
  | [], _, _, _, _ => rfl
  | v :: r, o, w, c, h => by
    rw [World.setCells, setCells_other b r (o + 1) _ c h, Below.heap_setCell _ _ _ c h]
theorem setCells_size (b : Nat) : ∀ (vs : List Value) (o : Nat) (w : World), (w.setCells b o vs).heap.size = w.heap.size
  | [], _, _ => rfl
  | v :: r, o, w => by rw [World.setCells, setCells_size b r, World.size_setCell]
theorem setCells_rest (b : Nat) : ∀ (vs : List Value) (o : Nat) (w : World), (w.setCells b o vs).os = w.os ∧ (w.setCells b o vs).tape = w.tape ∧ (w.setCells b o vs).output = w.output
  | [], _, _ => ⟨rfl, rfl, rfl⟩
  | v :: r, o, w => setCells_rest b r (o + 1) (w.setCell ⟨b, o, none⟩ v)
theorem ownsRow_of {w : World} {B g n cap k : Nat} {e : TypeId} {cur : Array Value} {xs : List Value} (hB : B ≤ g) (hg : w.heap[g]? = some (.cells cur e (0, 0))) (hn : n ≤ cap) (hc : cap ≤ maxLen) (hs : cur.size = cap * k) (hl : xs.length = n * k)
    (hx : ∀ j u, xs[j]? = some u → w.cell? ⟨g, j, none⟩ = some u) : w.ownsRow B e k (.slice (some ⟨g, 0, none⟩) n cap) n xs := by
  refine ⟨hl, .inr ⟨g, cap, cur, rfl, hB, hg, hn, hc, hs, ?_⟩⟩
  have hle : n * k ≤ cap * k := Nat.mul_le_mul_right k hn
  apply List.ext_getElem?
  intro j
  rw [List.getElem?_take]
  by_cases hj : j < n * k
  · rw [if_pos hj, List.getElem?_eq_getElem (show j < xs.length by omega)]
    have h1 := hx j _ (List.getElem?_eq_getElem (show j < xs.length by omega))
    rw [cell_of_row w g j cur e (0, 0) hg] at h1
    simpa using h1
  · rw [if_neg hj, List.getElem?_eq_none (by omega)]
end Go.Proofs.YtpcnfoaoajfhlaaDoor
