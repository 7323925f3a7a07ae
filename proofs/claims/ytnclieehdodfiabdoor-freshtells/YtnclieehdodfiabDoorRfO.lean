/-
  What the document's Add builds, row by row; an entry appended to a row of the call's own.
-/
import Derived.Test.YtnclieehdodfiabDoorRfG
import Derived.Test.YtnclieehdodfiabDoorRfJ2
import Derived.Test.YtnclieehdodfiabDoorCaJ
namespace Go.Proofs.YtnclieehdodfiabDoor
set_option linter.unusedVariables false
set_option linter.unusedSimpArgs false
open Go.RowKit

/-- a row of the call's own that holds entries and one more -/
def OwnedMore (B : Nat) (w : World) (v : Value) (out : List En) (e : En) : Prop := w.ownsRow B 24 5 v (out ++ [e]).length (rowC (out ++ [e]))
theorem wp_app {ops : Array Oper} {rest : List Oper} {o : Oper} {ac : Act} {Q : Exit → Act → World → Prop} (w : World) (hgd : o.guard = none) (s x : Operand)
    (ho : o.op = .call { callee := .builtin .append, args := #[s, x], argTypes := #[22, 22] }) (B : Nat) (v : Value) (out : List En) (e : En) (hs : ac.eval s = v)
    (hown : w.ownsRow B 24 5 v out.length (rowC out)) (vb : Nat) (hx : ac.eval x = .slice (some ⟨vb, 0, none⟩) 1 1) (hv : w.heap[vb]? = some (.cells e.cells.toArray 24 (0, 0))) (hl : out.length ≤ 100) (hB : B ≤ w.heap.size)
    (h : ∀ v' w', OwnedMore B w' v' out e → Hid (w.grownBy w' v.ownBlock) → wpList Tryd.prog ops Q rest (ac.put o.dst v') w') : wpList Tryd.prog ops Q (o :: rest) ac w := by
  obtain ⟨i0, hi0, hz0, hz1, hz2⟩ := info_parts infoEn
  have q3 : ∀ (u : Value), u ∈ e.cells → u.oneCell' = true := fun u hu => rowC_one [e] u (by simpa [rowC] using hu)
  refine wpList_append_own w hgd s x 22 ho B 24 i0 _ 5 48 Tryd.underlying22 hi0 hz0 hz1 hz2 rfl (by omega) v out.length (rowC out) hs hown ⟨vb, 0, none⟩ 1 1 e.cells hx rfl (World.news_of_block hv) q3 (by unfold maxLen; omega) (by omega) hB ?_
  intro v' w' h1 h2 _
  refine h v' w' (show World.ownsRow _ _ _ _ _ _ _ from ?_) h2
  have hr : rowC (out ++ [e]) = rowC out ++ e.cells := by rw [rowC_append]; simp [rowC]
  rw [hr, List.length_append]
  exact h1

/-- what is there behind j entries: m are less, d are left out -/
def outE (l : List En) (m d : Nat) (e : En) (j : Nat) : List En := if j ≤ m then l.take j else l.take m ++ e :: (l.take j).drop (m + d)
theorem outE_zero (l : List En) (m d : Nat) (e : En) : outE l m d e 0 = [] := by simp [outE]
theorem outE_less {l : List En} {m d j : Nat} {e : En} (h : j < m) (hj : j < l.length) : outE l m d e (j + 1) = outE l m d e j ++ [l[j]] := by
  rw [outE, if_pos (by omega), outE, if_pos (by omega), List.take_succ_eq_append_getElem hj]
theorem outE_at0 {l : List En} {m : Nat} {e : En} (hj : m < l.length) : outE l m 0 e (m + 1) = (outE l m 0 e m ++ [e]) ++ [l[m]] := by
  rw [outE, if_neg (by omega), outE, if_pos (by omega), List.take_succ_eq_append_getElem hj, Nat.add_zero, List.drop_append_of_le_length (by simp; omega), List.drop_take]
  simp
theorem outE_at1 {l : List En} {m : Nat} {e : En} (hj : m < l.length) : outE l m 1 e (m + 1) = outE l m 1 e m ++ [e] := by
  rw [outE, if_neg (by omega), outE, if_pos (by omega), List.drop_take]
  simp
theorem outE_more {l : List En} {m d j : Nat} {e : En} (h : m < j) (hd : d ≤ 1) (hj : j < l.length) : outE l m d e (j + 1) = outE l m d e j ++ [l[j]] := by
  rw [outE, if_neg (by omega), outE, if_neg (by omega), List.take_succ_eq_append_getElem hj, List.drop_append_of_le_length (by simp; omega)]
  simp
theorem outE_len {l : List En} {m d j : Nat} {e : En} (h8 : l.length ≤ 8) : (outE l m d e j).length ≤ 20 := by
  unfold outE
  split
  · simp; omega
  · simp; omega
theorem outE_end {l : List En} {m d : Nat} {e : En} (hm : m < l.length) : outE l m d e l.length = l.take m ++ e :: l.drop (m + d) := by
  rw [outE, if_neg (by omega), List.take_length]
theorem outE_all {l : List En} {m d : Nat} {e : En} (hm : m = l.length) : outE l m d e l.length = l := by
  rw [outE, if_pos (by omega), List.take_length]
end Go.Proofs.YtnclieehdodfiabDoor
