/-
  Package run by its contracts: the table of what each first word wants.
  Plain mathematics on a store's changes: the cells of a row of changes; which change of a key is the newest up to a number.
  Plain mathematics of a store: what was done, one behind the other; what a key was at a number; put, delete and swap as functions on what was done.
  Plain: the cells of the document's store; what is newest, step by step.
  Plain mathematics of a store's past: what was at a number stays; from its version on it is the same; ahead of it it is older; what is kept is right.
  slices.Clone at a cache, by its contract.
-/
import Derived.Test.YtpcnfoaoajfhlaaGreatDoorRbag
import Derived.MapKept
import Derived.WideMake
import Derived.Carry
import Derived.RangeFuncRecord
import GoSem.Claim
import Derived.Test.YtpcnfoaoajfhlaaGreatDoorRbae
import Derived.Lib.Walk
import Derived.Lib.SliceRun
import Derived.Maps.AppendAt
namespace Go.Proofs.YtpcnfoaoajfhlaaGreatDoor
set_option linter.unusedVariables false
set_option linter.unusedSimpArgs false
set_option linter.unusedVariables false
set_option linter.unusedSimpArgs false
open Go.RowKit

theorem map_put (mty kt et : TypeId) (P : Program) (w : World) (es : Array MapEntry) (clock : Nat) (s : ByteArray) (val : Value) (hm : P.underlying mty = some (.map kt et)) (hk : P.underlying kt = some .string)
    (hf : Instr.findNow .string (.string s) es.toList 0 = some none) :
    (Instr.mapUpdate mty (.map (some w.heap.size)) (.string s) val).run P (w.alloc (.map es clock)) = .ok () (w.alloc (.map (es.push ⟨.string s, val, clock⟩) (clock + 1))) := by
  have hb : (w.alloc (.map es clock)).heap[w.heap.size]? = some (.map es clock) := World.alloc_heap_new w _
  have hc : (Instr.checkKey false 10000 kt (.string s)).run P (w.alloc (.map es clock)) = .ok () (w.alloc (.map es clock)) := MapKept.run_checkKey (k := .string s) hk (by simp [MapKept.IsKey]) false 9999
  simp [Instr.mapUpdate, run_underlying hm, MapKept.run_getObj_map hb, hc, MapKept.run_findKey hk hf, MapKept.run_setObj_map _ hb, Result.andThen]
  show ({ w with heap := (w.heap.push (.map es clock)).setIfInBounds w.heap.size (.map (es.push ⟨.string s, val, clock⟩) (clock + 1)) } : World) = { w with heap := w.heap.push (.map (es.push ⟨.string s, val, clock⟩) (clock + 1)) }
  congr 1
  apply Array.ext_getElem?
  intro i
  rw [Array.getElem?_setIfInBounds]
  by_cases hi : w.heap.size = i
  · subst hi; simp
  · rw [if_neg hi]; simp [Array.getElem?_push, Ne.symm hi]
def asked (z : Value) (o : Option (Nat × Value)) : Value := match o with
  | some q => q.2
  | none => z
theorem map_ask (mty kt et : TypeId) (P : Program) (w : World) (r : Nat) (es : Array MapEntry) (clock : Nat) (s : ByteArray) (z : Value) (hm : P.underlying mty = some (.map kt et)) (hk : P.underlying kt = some .string) (hz : (zeroValue et).run P w = .ok z w)
    (hb : w.heap[r]? = some (.map es clock)) {o : Option (Nat × Value)} (hf : Instr.findNow .string (.string s) es.toList 0 = some o) :
    (Instr.lookup mty (.map (some r)) (.string s) true).run P w = .ok (.tuple #[asked z o, .bool o.isSome]) w := by
  have hc : (Instr.checkKey es.isEmpty 10000 kt (.string s)).run P w = .ok () w := MapKept.run_checkKey (k := .string s) hk (by simp [MapKept.IsKey]) _ 9999
  cases o <;> simp [Instr.lookup, run_underlying hm, MapKept.run_getObj_map hb, hc, MapKept.run_findKey hk hf, hz, Result.andThen, asked]

/-- what a first word wants, as the table has it -/
def wantV (n m f : Nat) : Value := .agg #[.int .i64 n, .int .i64 m, .func (.func f) #[] #[]]
def putS : ByteArray := ⟨#[112, 117, 116]⟩
def deleteS : ByteArray := ⟨#[100, 101, 108, 101, 116, 101]⟩
def getS : ByteArray := ⟨#[103, 101, 116]⟩
def swapS : ByteArray := ⟨#[115, 119, 97, 112]⟩
def seqS : ByteArray := ⟨#[115, 101, 113]⟩
def cacheS : ByteArray := ⟨#[99, 97, 99, 104, 101]⟩
def ownerS : ByteArray := ⟨#[111, 119, 110, 101, 114]⟩
def wantE1 : Array MapEntry := (#[] : Array MapEntry).push ⟨.string putS, wantV 2 1 122, 0⟩
def wantE2 : Array MapEntry := wantE1.push ⟨.string deleteS, wantV 2 0 123, 1⟩
def wantE3 : Array MapEntry := wantE2.push ⟨.string getS, wantV 3 0 124, 2⟩
def wantE4 : Array MapEntry := wantE3.push ⟨.string swapS, wantV 2 0 125, 3⟩
def wantE5 : Array MapEntry := wantE4.push ⟨.string seqS, wantV 0 0 126, 4⟩
def wantE6 : Array MapEntry := wantE5.push ⟨.string cacheS, wantV 1 0 127, 5⟩
def wantE7 : Array MapEntry := wantE6.push ⟨.string ownerS, wantV 1 0 128, 6⟩
set_option maxHeartbeats 4000000 in
theorem wants_c (w : World) : Calls Tryz.prog 79 #[] w fun e w' => e = .returned (.map (some w.heap.size)) ∧ w' = w.alloc (.map wantE7 7) := by
  have hm : Tryz.prog.underlying 130 = some (.map 9 189) := Tryz.underlying130
  have hk : Tryz.prog.underlying 9 = some .string := Tryz.underlying9
  have put := fun es c s v hf => map_put _ _ _ Tryz.prog w es c s v hm hk hf
  have hmm := @run_makeMap Tryz.prog 130 w
  obtain ⟨w0, e0⟩ : ∃ x, x = w.alloc (.map #[] 0) := ⟨_, rfl⟩
  obtain ⟨w1, e1⟩ : ∃ x, x = w.alloc (.map wantE1 1) := ⟨_, rfl⟩
  obtain ⟨w2, e2⟩ : ∃ x, x = w.alloc (.map wantE2 2) := ⟨_, rfl⟩
  obtain ⟨w3, e3⟩ : ∃ x, x = w.alloc (.map wantE3 3) := ⟨_, rfl⟩
  obtain ⟨w4, e4⟩ : ∃ x, x = w.alloc (.map wantE4 4) := ⟨_, rfl⟩
  obtain ⟨w5, e5⟩ : ∃ x, x = w.alloc (.map wantE5 5) := ⟨_, rfl⟩
  obtain ⟨w6, e6⟩ : ∃ x, x = w.alloc (.map wantE6 6) := ⟨_, rfl⟩
  obtain ⟨w7, e7⟩ : ∃ x, x = w.alloc (.map wantE7 7) := ⟨_, rfl⟩
  have h1 : (Instr.mapUpdate 130 (.map (some w.heap.size)) (.string ⟨#[112, 117, 116]⟩) (.agg #[.int .i64 2, .int .i64 1, .func (.func 122) #[] #[]])).run Tryz.prog w0 = .ok () w1 := by
    rw [e0, e1]; exact put #[] 0 _ _ rfl
  have h2 : (Instr.mapUpdate 130 (.map (some w.heap.size)) (.string ⟨#[100, 101, 108, 101, 116, 101]⟩) (.agg #[.int .i64 2, .int .i64 0, .func (.func 123) #[] #[]])).run Tryz.prog w1 = .ok () w2 := by
    rw [e1, e2]; exact put wantE1 1 _ _ rfl
  have h3 : (Instr.mapUpdate 130 (.map (some w.heap.size)) (.string ⟨#[103, 101, 116]⟩) (.agg #[.int .i64 3, .int .i64 0, .func (.func 124) #[] #[]])).run Tryz.prog w2 = .ok () w3 := by
    rw [e2, e3]; exact put wantE2 2 _ _ rfl
  have h4 : (Instr.mapUpdate 130 (.map (some w.heap.size)) (.string ⟨#[115, 119, 97, 112]⟩) (.agg #[.int .i64 2, .int .i64 0, .func (.func 125) #[] #[]])).run Tryz.prog w3 = .ok () w4 := by
    rw [e3, e4]; exact put wantE3 3 _ _ rfl
  have h5 : (Instr.mapUpdate 130 (.map (some w.heap.size)) (.string ⟨#[115, 101, 113]⟩) (.agg #[.int .i64 0, .int .i64 0, .func (.func 126) #[] #[]])).run Tryz.prog w4 = .ok () w5 := by
    rw [e4, e5]; exact put wantE4 4 _ _ rfl
  have h6 : (Instr.mapUpdate 130 (.map (some w.heap.size)) (.string ⟨#[99, 97, 99, 104, 101]⟩) (.agg #[.int .i64 1, .int .i64 0, .func (.func 127) #[] #[]])).run Tryz.prog w5 = .ok () w6 := by
    rw [e5, e6]; exact put wantE5 5 _ _ rfl
  have h7 : (Instr.mapUpdate 130 (.map (some w.heap.size)) (.string ⟨#[111, 119, 110, 101, 114]⟩) (.agg #[.int .i64 1, .int .i64 0, .func (.func 128) #[] #[]])).run Tryz.prog w6 = .ok () w7 := by
    rw [e6, e7]; exact put wantE6 6 _ _ rfl
  rw [← e0] at hmm
  rw [← e7]
  clear e0 e1 e2 e3 e4 e5 e6 e7 put hm hk
  go_enter Tryz.func79, Tryz.ntmps79
  go_wp2_with fail
  go_ret
  exact ⟨rfl, rfl⟩
/-- what a first word wants: how many numbers, how many words, what is done -/
def wantO (s : ByteArray) : Option (Nat × Nat × Nat) :=
  if s = putS then some (2, 1, 122) else if s = deleteS then some (2, 0, 123) else if s = getS then some (3, 0, 124)
  else if s = swapS then some (2, 0, 125) else if s = seqS then some (0, 0, 126) else if s = cacheS then some (1, 0, 127)
  else if s = ownerS then some (1, 0, 128) else none
def wantR (o : Option (Nat × Nat × Nat)) : Value := match o with
  | some q => wantV q.1 q.2.1 q.2.2
  | none => .agg #[.int .i64 0, .int .i64 0, .nilFunc]
theorem find_hit {s k : ByteArray} {v : Value} {b i : Nat} {es : List MapEntry} (h : s = k) : Instr.findNow .string (.string s) (⟨.string k, v, b⟩ :: es) i = some (some (i, v)) := by
  subst h
  unfold Instr.findNow
  rw [show Instr.sameNow .string (.string s) (.string s) = some true by simp [Instr.sameNow, MapKept.bytes_beq]]
theorem find_miss {s k : ByteArray} {v : Value} {b i : Nat} {es : List MapEntry} (h : ¬ s = k) : Instr.findNow .string (.string s) (⟨.string k, v, b⟩ :: es) i = Instr.findNow .string (.string s) es (i + 1) := by
  conv => lhs; unfold Instr.findNow
  rw [show Instr.sameNow .string (.string s) (.string k) = some false from congrArg some (Bool.eq_false_iff.2 fun e => h ((MapKept.bytes_beq _ _).1 e))]
theorem wants_find (s : ByteArray) : ∃ o, Instr.findNow .string (.string s) wantE7.toList 0 = some o ∧ asked (.agg #[.int .i64 0, .int .i64 0, .nilFunc]) o = wantR (wantO s) ∧ o.isSome = (wantO s).isSome := by
  show ∃ o, Instr.findNow .string (.string s) [⟨.string putS, wantV 2 1 122, 0⟩, ⟨.string deleteS, wantV 2 0 123, 1⟩, ⟨.string getS, wantV 3 0 124, 2⟩, ⟨.string swapS, wantV 2 0 125, 3⟩, ⟨.string seqS, wantV 0 0 126, 4⟩, ⟨.string cacheS, wantV 1 0 127, 5⟩, ⟨.string ownerS, wantV 1 0 128, 6⟩] 0 = some o ∧ _
  unfold wantO
  by_cases h1 : s = putS
  · rw [find_hit h1, if_pos h1]; exact ⟨_, rfl, rfl, rfl⟩
  rw [find_miss h1, if_neg h1]
  by_cases h2 : s = deleteS
  · rw [find_hit h2, if_pos h2]; exact ⟨_, rfl, rfl, rfl⟩
  rw [find_miss h2, if_neg h2]
  by_cases h3 : s = getS
  · rw [find_hit h3, if_pos h3]; exact ⟨_, rfl, rfl, rfl⟩
  rw [find_miss h3, if_neg h3]
  by_cases h4 : s = swapS
  · rw [find_hit h4, if_pos h4]; exact ⟨_, rfl, rfl, rfl⟩
  rw [find_miss h4, if_neg h4]
  by_cases h5 : s = seqS
  · rw [find_hit h5, if_pos h5]; exact ⟨_, rfl, rfl, rfl⟩
  rw [find_miss h5, if_neg h5]
  by_cases h6 : s = cacheS
  · rw [find_hit h6, if_pos h6]; exact ⟨_, rfl, rfl, rfl⟩
  rw [find_miss h6, if_neg h6]
  by_cases h7 : s = ownerS
  · rw [find_hit h7, if_pos h7]; exact ⟨_, rfl, rfl, rfl⟩
  rw [find_miss h7, if_neg h7]
  exact ⟨none, rfl, rfl, rfl⟩
theorem wants_ask (w : World) (r : Nat) (s : ByteArray) (hb : w.heap[r]? = some (.map wantE7 7)) :
    (Instr.lookup 130 (.map (some r)) (.string s) true).run Tryz.prog w = .ok (.tuple #[wantR (wantO s), .bool (wantO s).isSome]) w := by
  have hm : Tryz.prog.underlying 130 = some (.map 9 189) := Tryz.underlying130
  have hk : Tryz.prog.underlying 9 = some .string := Tryz.underlying9
  have hz : (zeroValue 189).run Tryz.prog w = .ok (.agg #[.int .i64 0, .int .i64 0, .nilFunc]) w := by kernel_rfl
  obtain ⟨o, h1, h2, h3⟩ := wants_find s
  rw [map_ask _ _ _ Tryz.prog w r wantE7 7 s _ hm hk hz hb h1, h2, h3]
end Go.Proofs.YtpcnfoaoajfhlaaGreatDoor

namespace Go.Proofs.YtpcnfoaoajfhlaaGreatDoor
set_option linter.unusedVariables false
set_option linter.unusedSimpArgs false

/-- a change of a key: its number, gone or not, its text -/
structure Chg where
  ver : Int
  gone : Bool
  text : ByteArray

def Chg.cells (c : Chg) : List Value := [.int .i64 c.ver, .bool c.gone, .string c.text]
def Chg.val (c : Chg) : Value := .agg #[.int .i64 c.ver, .bool c.gone, .string c.text]
def rowOf : List Chg → List Value
  | [] => []
  | c :: l => c.cells ++ rowOf l
theorem rowOf_length (l : List Chg) : (rowOf l).length = l.length * 3 := by
  induction l with
  | nil => rfl
  | cons c l ih => simp only [rowOf, List.length_append, ih, List.length_cons, Chg.cells, List.length_nil]; omega
theorem rowOf_append (l m : List Chg) : rowOf (l ++ m) = rowOf l ++ rowOf m := by
  induction l with
  | nil => rfl
  | cons c l ih => simp only [List.cons_append, rowOf, ih, List.append_assoc]
theorem rowOf_get (l : List Chg) (j : Nat) (h : j < l.length) :
    (rowOf l)[j * 3]? = some (.int .i64 l[j].ver) ∧ (rowOf l)[j * 3 + 1]? = some (.bool l[j].gone) ∧ (rowOf l)[j * 3 + 2]? = some (.string l[j].text) := by
  induction l generalizing j with
  | nil => simp at h
  | cons c l ih =>
    cases j with
    | zero => simp [rowOf, Chg.cells]
    | succ j =>
      have e := ih j (by simpa using h)
      have e0 : (j + 1) * 3 = j * 3 + 3 := by omega
      simp only [rowOf, Chg.cells, List.cons_append, List.nil_append, e0, List.getElem_cons_succ]
      have e1 : j * 3 + 3 + 1 = (j * 3 + 1) + 3 := by omega
      have e2 : j * 3 + 3 + 2 = (j * 3 + 2) + 3 := by omega
      rw [e1, e2]
      simpa using e

def none0 : Chg := ⟨0, true, ByteArray.empty⟩
/-- the newest change up to s -/
def pick (l : List Chg) (s : Int) : Chg := (l.reverse.find? fun c => decide (c.ver ≤ s)).getD none0
theorem pick_nil (s : Int) : pick [] s = none0 := rfl
theorem pick_snoc_le (l : List Chg) (c : Chg) (s : Int) (h : c.ver ≤ s) : pick (l ++ [c]) s = c := by simp [pick, h]
theorem pick_snoc_gt (l : List Chg) (c : Chg) (s : Int) (h : ¬ c.ver ≤ s) : pick (l ++ [c]) s = pick l s := by simp [pick, h]
theorem pick_take_succ (l : List Chg) (s : Int) (m : Nat) (h : m < l.length) : l.take (m + 1) = l.take m ++ [l[m]] := by
  rw [List.take_succ_eq_append_getElem h]
end Go.Proofs.YtpcnfoaoajfhlaaGreatDoor

namespace Go.Proofs.YtpcnfoaoajfhlaaGreatDoor
set_option linter.unusedVariables false
set_option linter.unusedSimpArgs false

/-- something done: to a key, gone or put, the text -/
structure Deed where
  key : Int
  gone : Bool
  text : ByteArray

/-- the changes of a key, numbered from n + 1 on -/
def pastFrom (k : Int) : Nat → List Deed → List Chg
  | _, [] => []
  | n, d :: l => if d.key = k then ⟨(n : Int) + 1, d.gone, d.text⟩ :: pastFrom k (n + 1) l else pastFrom k (n + 1) l
def pastOf (done : List Deed) (k : Int) : List Chg := pastFrom k 0 done
/-- the newest change of a key -/
def lastFrom (k : Int) : Nat → List Deed → Chg → Chg
  | _, [], c => c
  | n, d :: l, c => lastFrom k (n + 1) l (if d.key = k then ⟨(n : Int) + 1, d.gone, d.text⟩ else c)
def lastOf (done : List Deed) (k : Int) : Chg := lastFrom k 0 done none0

theorem pastFrom_append (k : Int) (l m : List Deed) (n : Nat) : pastFrom k n (l ++ m) = pastFrom k n l ++ pastFrom k (n + l.length) m := by
  induction l generalizing n with
  | nil => simp [pastFrom]
  | cons d l ih =>
    simp only [List.cons_append, pastFrom, ih, List.length_cons]
    rw [show n + 1 + l.length = n + (l.length + 1) by omega]
    split <;> simp
theorem lastFrom_append (k : Int) (l m : List Deed) (n : Nat) (c : Chg) : lastFrom k n (l ++ m) c = lastFrom k (n + l.length) m (lastFrom k n l c) := by
  induction l generalizing n c with
  | nil => simp [lastFrom]
  | cons d l ih =>
    simp only [List.cons_append, lastFrom, ih, List.length_cons]
    rw [show n + 1 + l.length = n + (l.length + 1) by omega]
theorem pastFrom_length (k : Int) (l : List Deed) (n : Nat) : (pastFrom k n l).length ≤ l.length := by
  induction l generalizing n with
  | nil => simp [pastFrom]
  | cons d l ih =>
    have := ih (n + 1)
    simp only [pastFrom, List.length_cons]
    split <;> (try simp only [List.length_cons]) <;> omega
theorem pastOf_snoc (k : Int) (l : List Deed) (d : Deed) : pastOf (l ++ [d]) k = if d.key = k then pastOf l k ++ [⟨(l.length : Int) + 1, d.gone, d.text⟩] else pastOf l k := by
  unfold pastOf
  rw [pastFrom_append]
  simp only [pastFrom, Nat.zero_add]
  split <;> simp
theorem lastOf_snoc (k : Int) (l : List Deed) (d : Deed) : lastOf (l ++ [d]) k = if d.key = k then ⟨(l.length : Int) + 1, d.gone, d.text⟩ else lastOf l k := by
  unfold lastOf
  rw [lastFrom_append]
  simp only [lastFrom, Nat.zero_add]
theorem lastOf_nil (k : Int) : lastOf [] k = none0 := rfl
theorem pastOf_length (k : Int) (l : List Deed) : (pastOf l k).length ≤ l.length := pastFrom_length k l 0

/-- what the program seeks from the end is what the document says -/
theorem pick_pastOf (k : Int) (l : List Deed) (s : Nat) : pick (pastOf l k) s = lastOf (l.take s) k := by
  obtain ⟨r, rfl⟩ : ∃ r, l = List.reverse r := ⟨l.reverse, by simp⟩
  induction r generalizing s with
  | nil => simp [pastOf, pastFrom, lastOf, lastFrom, pick]
  | cons d r ih =>
    rw [List.reverse_cons, pastOf_snoc]
    by_cases hs : s ≤ r.reverse.length
    · rw [List.take_append_of_le_length hs]
      split
      · rw [pick_snoc_gt _ _ _ (by simp only []; omega)]; exact ih s
      · exact ih s
    · rw [List.take_of_length_le (by simp at hs ⊢; omega), lastOf_snoc]
      split
      · rw [pick_snoc_le _ _ _ (by simp only []; omega)]
      · rw [ih s, List.take_of_length_le (by omega)]

def stK (k : Int) : Bool := decide (0 ≤ k) && decide (k < 8)
theorem stK_iff (k : Int) : stK k = true ↔ 0 ≤ k ∧ k < 8 := by simp [stK]
/-- what a call leaves: what was done, the number, the fault -/
structure Out where
  done : List Deed
  num : Int
  err : Int
def recO (l : List Deed) (k : Int) (g : Bool) (t : ByteArray) : Out := if 1000 ≤ l.length then ⟨l, 0, 4⟩ else ⟨l ++ [⟨k, g, t⟩], (l.length : Int) + 1, 0⟩
def putO (l : List Deed) (k : Int) (t : ByteArray) : Out :=
  if ¬ stK k = true then ⟨l, 0, 1⟩ else if 12 < t.size then ⟨l, 0, 4⟩ else recO l k false t
def delO (l : List Deed) (k : Int) : Out :=
  if ¬ stK k = true then ⟨l, 0, 1⟩ else if (lastOf l k).gone = true then ⟨l, 0, 5⟩ else recO l k true ByteArray.empty
def swapO (l : List Deed) (k v : Int) (t : ByteArray) : Out :=
  if ¬ stK k = true then ⟨l, 0, 1⟩ else if 12 < t.size then ⟨l, 0, 4⟩ else if ¬ (lastOf l k).ver = v then ⟨l, 0, 7⟩ else recO l k false t
end Go.Proofs.YtpcnfoaoajfhlaaGreatDoor

namespace Go.Proofs.YtpcnfoaoajfhlaaGreatDoor
set_option linter.unusedVariables false
set_option linter.unusedSimpArgs false

def Deed.cells (d : Deed) : List Value := [.int .i64 d.key, .int .i64 0, .int .i64 0, .bool d.gone, .string d.text]
def rowE : List Deed → List Value
  | [] => []
  | d :: l => d.cells ++ rowE l
theorem rowE_length (l : List Deed) : (rowE l).length = l.length * 5 := by
  induction l with
  | nil => rfl
  | cons c l ih => simp only [rowE, List.length_append, ih, List.length_cons, Deed.cells, List.length_nil]; omega
theorem rowE_append (l m : List Deed) : rowE (l ++ m) = rowE l ++ rowE m := by
  induction l with
  | nil => rfl
  | cons c l ih => simp only [List.cons_append, rowE, ih, List.append_assoc]
theorem rowE_get (l : List Deed) (j : Nat) (h : j < l.length) :
    (rowE l)[j * 5]? = some (.int .i64 l[j].key) ∧ (rowE l)[j * 5 + 3]? = some (.bool l[j].gone) ∧ (rowE l)[j * 5 + 4]? = some (.string l[j].text) := by
  induction l generalizing j with
  | nil => simp at h
  | cons c l ih =>
    cases j with
    | zero => simp [rowE, Deed.cells]
    | succ j =>
      have e := ih j (by simpa using h)
      have e0 : (j + 1) * 5 = j * 5 + 5 := by omega
      simp only [rowE, Deed.cells, List.cons_append, List.nil_append, e0, List.getElem_cons_succ]
      have e1 : j * 5 + 5 + 3 = (j * 5 + 3) + 5 := by omega
      have e2 : j * 5 + 5 + 4 = (j * 5 + 4) + 5 := by omega
      rw [e1, e2]
      simpa using e
theorem lastOf_take_hit (l : List Deed) (k : Int) (j : Nat) (h : j < l.length) (hk : l[j].key = k) : lastOf (l.take (j + 1)) k = ⟨(j : Int) + 1, l[j].gone, l[j].text⟩ := by
  rw [List.take_succ_eq_append_getElem h, lastOf_snoc, if_pos hk]
  simp only [List.length_take]
  rw [Nat.min_eq_left (by omega)]
theorem lastOf_take_miss (l : List Deed) (k : Int) (j : Nat) (h : j < l.length) (hk : ¬ l[j].key = k) : lastOf (l.take (j + 1)) k = lastOf (l.take j) k := by
  rw [List.take_succ_eq_append_getElem h, lastOf_snoc, if_neg hk]
end Go.Proofs.YtpcnfoaoajfhlaaGreatDoor

namespace Go.Proofs.YtpcnfoaoajfhlaaGreatDoor
set_option linter.unusedVariables false
set_option linter.unusedSimpArgs false

theorem lastOf_ver (l : List Deed) (k : Int) : 0 ≤ (lastOf l k).ver ∧ (lastOf l k).ver ≤ l.length := by
  obtain ⟨r, rfl⟩ : ∃ r, l = List.reverse r := ⟨l.reverse, by simp⟩
  induction r with
  | nil => simp [lastOf, lastFrom, none0]
  | cons d r ih =>
    rw [List.reverse_cons, lastOf_snoc]
    simp only [List.length_append, List.length_cons, List.length_nil]
    split
    · simp only []; omega
    · omega
theorem lastOf_take_ver (l : List Deed) (k : Int) (s : Nat) : 0 ≤ (lastOf (l.take s) k).ver ∧ (lastOf (l.take s) k).ver ≤ s := by
  have h := lastOf_ver (l.take s) k
  have : (l.take s).length ≤ s := List.length_take_le _ _
  omega
/-- from its version on, up to its time, each time tells the same -/
theorem lastOf_between (l : List Deed) (k : Int) (s q : Nat) (hs : s ≤ l.length) (h1 : (lastOf (l.take s) k).ver ≤ q) (h2 : q ≤ s) : lastOf (l.take q) k = lastOf (l.take s) k := by
  induction s with
  | zero => obtain rfl : q = 0 := by omega
            rfl
  | succ s ih =>
    have hlt : s < l.length := by omega
    by_cases hq : q = s + 1
    · rw [hq]
    · by_cases hk : l[s].key = k
      · rw [lastOf_take_hit l k s hlt hk] at h1
        simp only [] at h1
        omega
      · rw [lastOf_take_miss l k s hlt hk] at h1 ⊢
        exact ih (by omega) h1 (by omega)
/-- what was at a number is the same whatever is done later -/
theorem lastOf_later (l m : List Deed) (k : Int) (s : Nat) (hs : s ≤ l.length) : lastOf ((l ++ m).take s) k = lastOf (l.take s) k := by
  rw [List.take_append_of_le_length hs]

/-- what is right: texts of at most 12 bytes, of what is gone none -/
def GoodD (d : Deed) : Prop := d.text.size ≤ 12 ∧ (d.gone = true → d.text = ByteArray.empty)
def Good (l : List Deed) : Prop := ∀ d ∈ l, GoodD d
theorem lastFrom_good (k : Int) (l : List Deed) (h : Good l) (n : Nat) (c : Chg) (hc : c.text.size ≤ 12 ∧ (c.gone = true → c.text = ByteArray.empty)) :
    (lastFrom k n l c).text.size ≤ 12 ∧ ((lastFrom k n l c).gone = true → (lastFrom k n l c).text = ByteArray.empty) := by
  induction l generalizing n c with
  | nil => exact hc
  | cons d l ih =>
    simp only [lastFrom]
    refine ih (fun x hx => h x (List.mem_cons_of_mem _ hx)) _ _ ?_
    split
    · exact h d List.mem_cons_self
    · exact hc
theorem lastOf_good (k : Int) (l : List Deed) (h : Good l) : (lastOf l k).text.size ≤ 12 ∧ ((lastOf l k).gone = true → (lastOf l k).text = ByteArray.empty) :=
  lastFrom_good k l h 0 none0 ⟨by decide, fun _ => rfl⟩
theorem good_take (l : List Deed) (h : Good l) (s : Nat) : Good (l.take s) := fun d hd => h d (List.mem_of_mem_take hd)
theorem good_rec (l : List Deed) (k : Int) (g : Bool) (t : ByteArray) (h : Good l) (hd : GoodD ⟨k, g, t⟩) : Good (recO l k g t).done := by
  unfold recO
  split
  · exact h
  · intro d hm
    rcases List.mem_append.1 hm with h1 | h1
    · exact h d h1
    · rw [List.mem_singleton.1 h1]; exact hd
theorem good_put (l : List Deed) (k : Int) (t : ByteArray) (h : Good l) : Good (putO l k t).done := by
  unfold putO
  split
  · exact h
  · split
    · exact h
    · rename_i h12
      exact good_rec l k false t h ⟨by simp only []; omega, fun e => by cases e⟩
theorem good_del (l : List Deed) (k : Int) (h : Good l) : Good (delO l k).done := by
  unfold delO
  split
  · exact h
  · split
    · exact h
    · exact good_rec l k true ByteArray.empty h ⟨show ByteArray.empty.size ≤ 12 by decide, fun _ => rfl⟩
theorem rec_grows (l : List Deed) (k : Int) (g : Bool) (t : ByteArray) : ∃ m, (recO l k g t).done = l ++ m := by
  unfold recO
  split
  · exact ⟨[], by simp⟩
  · exact ⟨_, rfl⟩
theorem put_grows (l : List Deed) (k : Int) (t : ByteArray) : ∃ m, (putO l k t).done = l ++ m := by
  unfold putO
  split
  · exact ⟨[], by simp⟩
  · split
    · exact ⟨[], by simp⟩
    · exact rec_grows l k false t
theorem del_grows (l : List Deed) (k : Int) : ∃ m, (delO l k).done = l ++ m := by
  unfold delO
  split
  · exact ⟨[], by simp⟩
  · split
    · exact ⟨[], by simp⟩
    · exact rec_grows l k true ByteArray.empty
end Go.Proofs.YtpcnfoaoajfhlaaGreatDoor

namespace Go.Proofs.YtpcnfoaoajfhlaaGreatDoor
set_option linter.unusedVariables false
set_option linter.unusedSimpArgs false
open Go.RowKit Go.Lib

set_option maxHeartbeats 2000000 in
set_option maxRecDepth 100000 in
theorem clone_c (v : Value) (l : List En) (w : World) (hr : RowIs w v l) (h8 : l.length ≤ 8) :
    Calls Tryz.prog 56 #[v] w fun e w' => ∃ v', e = .returned v' ∧ w'.ownsRow w.heap.size 46 5 v' l.length (rowC l) ∧ Below w.heap.size w w' := by
  obtain ⟨i0, hi0, hz0, hz1, hz2⟩ := info_parts infoEn
  obtain ⟨hlen, p, cap, rfl, hrow⟩ := hr
  have q22 : ∀ (w : World) (a : Option Addr) (n c n' c' : Nat), (binOp .eql 32 (.slice a n c) (.slice none n' c')).run Tryz.prog w = .ok (.bool a.isNone) w := fun w a n c n' c' => Lib.run_eql_slice_nil w _ _ a n c n' c' Tryz.underlying32
  cases p with
  | none =>
    have hl : l = [] := by
      cases l with
      | nil => rfl
      | cons e l => obtain ⟨b, o, h, _⟩ := hrow (by simp); cases h
    subst hl
    go_enter Tryz.func56, Tryz.ntmps56
    go_wp2_with fail
    go_ret
    exact ⟨_, rfl, World.ownsRow_nil _ _ _ _, by go_grown⟩
  | some ad =>
    have HC : Hid (∀ j u, (rowC l)[j]? = some u → w.cell? (ad.add j) = some u) := by
      intro j u hu
      cases l with
      | nil => simp [rowC] at hu
      | cons e l =>
        obtain ⟨b, o, h, _, hat⟩ := hrow (by simp)
        obtain rfl := Option.some.inj h
        rw [Addr.add_lit]
        exact RowIs.cells (cap := 0) hat j u hu
    clear hrow
    go_enter Tryz.func56, Tryz.ntmps56
    go_wp2_with (at_builtin; refine wpList_append_own _ rfl _ _ 32 rfl w.heap.size 46 i0 _ 5 48 Tryz.underlying32 hi0 hz0 hz1 hz2 rfl (by omega) _ _ _ rfl (World.ownsRow_made w #[] 0 (Nat.le_refl _) (Nat.zero_le _) (by simp)) ad l.length cap (rowC l) rfl ?qc1 ?qc2 ?qc3 ?qc4 ?qc5 ?qc6 ?_)
    case qc1 => exact rowC_length l
    case qc2 =>
      intro j u hj
      exact Lib.cell?_alloc_some _ (HC.out j u hj)
    case qc3 => exact rowC_one l
    case qc4 => rw [Nat.zero_add]; exact hlen
    case qc5 => rw [Nat.zero_add]; omega
    case qc6 => simp
    intro v' w1 hown hgrow hnil
    go_wp2_with fail
    go_ret
    refine ⟨v', rfl, by simpa using hown, ?_⟩
    exact ((Below.refl _ w).alloc (Nat.le_refl _) _).grown hgrow (by simp) (by intro k hk; simp [Value.ownBlock] at hk; omega)
end Go.Proofs.YtpcnfoaoajfhlaaGreatDoor
