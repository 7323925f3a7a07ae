/-
  Plain mathematics on a store's changes: the cells of a row of changes; which change of a key is the newest up to a number.
-/
import GoSem.Claim
namespace Go.Proofs.YtpcnfoaoajfhlaaDoor
set_option linter.unusedVariables false
set_option linter.unusedSimpArgs false

/-- a change of a key: its number, gone or not, its text -/
structure Chg where
  ver : Int
  gone : Bool
  text : ByteArray

def Chg.cells (c : Chg) : List Value := [.int .i64 c.ver, .bool c.gone, .string c.text]
def Chg.val (c : Chg) : Value := .agg #[.int .i64 c.ver, .bool c.gone, .string c.text]
def rowOf : List Chg → List Value
  | [] => []
  | c :: l => c.cells ++ rowOf l
theorem rowOf_length (l : List Chg) : (rowOf l).length = l.length * 3 := by
  induction l with
  | nil => rfl
  | cons c l ih => simp only [rowOf, List.length_append, ih, List.length_cons, Chg.cells, List.length_nil]; omega
theorem rowOf_append (l m : List Chg) : rowOf (l ++ m) = rowOf l ++ rowOf m := by
  induction l with
  | nil => rfl
  | cons c l ih => simp only [List.cons_append, rowOf, ih, List.append_assoc]
theorem rowOf_get (l : List Chg) (j : Nat) (h : j < l.length) :
    (rowOf l)[j * 3]? = some (.int .i64 l[j].ver) ∧ (rowOf l)[j * 3 + 1]? = some (.bool l[j].gone) ∧ (rowOf l)[j * 3 + 2]? = some (.string l[j].text) := by
  induction l generalizing j with
  | nil => simp at h
  | cons c l ih =>
    cases j with
    | zero => simp [rowOf, Chg.cells]
    | succ j =>
      have e := ih j (by simpa using h)
      have e0 : (j + 1) * 3 = j * 3 + 3 := by omega
      simp only [rowOf, Chg.cells, List.cons_append, List.nil_append, e0, List.getElem_cons_succ]
      have e1 : j * 3 + 3 + 1 = (j * 3 + 1) + 3 := by omega
      have e2 : j * 3 + 3 + 2 = (j * 3 + 2) + 3 := by omega
      rw [e1, e2]
      simpa using e

def none0 : Chg := ⟨0, true, ByteArray.empty⟩
/-- the newest change up to s -/
def pick (l : List Chg) (s : Int) : Chg := (l.reverse.find? fun c => decide (c.ver ≤ s)).getD none0
theorem pick_nil (s : Int) : pick [] s = none0 := rfl
theorem pick_snoc_le (l : List Chg) (c : Chg) (s : Int) (h : c.ver ≤ s) : pick (l ++ [c]) s = c := by simp [pick, h]
theorem pick_snoc_gt (l : List Chg) (c : Chg) (s : Int) (h : ¬ c.ver ≤ s) : pick (l ++ [c]) s = pick l s := by simp [pick, h]
theorem pick_take_succ (l : List Chg) (s : Int) (m : Nat) (h : m < l.length) : l.take (m + 1) = l.take m ++ [l[m]] := by
  rw [List.take_succ_eq_append_getElem h]
end Go.Proofs.YtpcnfoaoajfhlaaDoor
