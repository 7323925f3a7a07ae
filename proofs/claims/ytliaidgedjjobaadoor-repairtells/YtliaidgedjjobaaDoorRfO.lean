/-
  What the document's Add builds, row by row (where a row's append is told elsewhere).
-/
import Derived.Test.YtliaidgedjjobaaDoorRfG
import Derived.Test.YtliaidgedjjobaaDoorRfJ2
import Derived.Test.YtliaidgedjjobaaDoorCaJ
import Derived.Test.YtliaidgedjjobaaDoorTbI
namespace Go.Proofs.YtliaidgedjjobaaDoor
set_option linter.unusedVariables false
set_option linter.unusedSimpArgs false
open Go.RowKit

/-- what is there behind j entries: m are less, d are left out -/
def outE (l : List En) (m d : Nat) (e : En) (j : Nat) : List En := if j ≤ m then l.take j else l.take m ++ e :: (l.take j).drop (m + d)
theorem outE_zero (l : List En) (m d : Nat) (e : En) : outE l m d e 0 = [] := by simp [outE]
theorem outE_less {l : List En} {m d j : Nat} {e : En} (h : j < m) (hj : j < l.length) : outE l m d e (j + 1) = outE l m d e j ++ [l[j]] := by
  rw [outE, if_pos (by omega), outE, if_pos (by omega), List.take_succ_eq_append_getElem hj]
theorem outE_at0 {l : List En} {m : Nat} {e : En} (hj : m < l.length) : outE l m 0 e (m + 1) = (outE l m 0 e m ++ [e]) ++ [l[m]] := by
  rw [outE, if_neg (by omega), outE, if_pos (by omega), List.take_succ_eq_append_getElem hj, Nat.add_zero, List.drop_append_of_le_length (by simp; omega), List.drop_take]
  simp
theorem outE_at1 {l : List En} {m : Nat} {e : En} (hj : m < l.length) : outE l m 1 e (m + 1) = outE l m 1 e m ++ [e] := by
  rw [outE, if_neg (by omega), outE, if_pos (by omega), List.drop_take]
  simp
theorem outE_more {l : List En} {m d j : Nat} {e : En} (h : m < j) (hd : d ≤ 1) (hj : j < l.length) : outE l m d e (j + 1) = outE l m d e j ++ [l[j]] := by
  rw [outE, if_neg (by omega), outE, if_neg (by omega), List.take_succ_eq_append_getElem hj, List.drop_append_of_le_length (by simp; omega)]
  simp
theorem outE_len {l : List En} {m d j : Nat} {e : En} (h8 : l.length ≤ 8) : (outE l m d e j).length ≤ 20 := by
  unfold outE
  split
  · simp; omega
  · simp; omega
theorem outE_end {l : List En} {m d : Nat} {e : En} (hm : m < l.length) : outE l m d e l.length = l.take m ++ e :: l.drop (m + d) := by
  rw [outE, if_neg (by omega), List.take_length]
theorem outE_all {l : List En} {m d : Nat} {e : En} (hm : m = l.length) : outE l m d e l.length = l := by
  rw [outE, if_pos (by omega), List.take_length]
end Go.Proofs.YtliaidgedjjobaaDoor
