/-
  The document's Add and All (mereref1) by their contracts: they build what package cache builds.
-/
import Derived.Test.YtliaidgedjjobaaDoorRfBf
namespace Go.Proofs.YtliaidgedjjobaaDoor
set_option linter.unusedVariables false
set_option linter.unusedSimpArgs false
open Go.RowKit

theorem rAdd_c (v : Value) (l : List En) (k vv a : Int) (g : Bool) (t : ByteArray) (w : World) (hr : RowIs w v l) (hg : GoodL l) (he : bad k vv a g t = 0) :
    Calls Tryd.prog 15 #[v, .agg #[.int .i64 k, .int .i64 vv, .int .i64 a, .bool g, .string t]] w (RAddIs w (putE l ⟨k, vv, a, g, t⟩).1 (putE l ⟨k, vv, a, g, t⟩).2.2) := by
  cases hk : getE l k with
  | none =>
    have hp : putE l ⟨k, vv, a, g, t⟩ = (l.take (placeE l k) ++ ⟨k, vv, a, g, t⟩ :: l.drop (placeE l k), true, 0) := by unfold putE; simp only [hk]
    rw [hp]
    exact rAdd_none v l k vv a g t w hr hg hk
  | some x =>
    have hp : putE l ⟨k, vv, a, g, t⟩ = (if (joinE x ⟨k, vv, a, g, t⟩).2 ≠ 0 then ([], false, (joinE x ⟨k, vv, a, g, t⟩).2) else (l.set (placeE l k) (joinE x ⟨k, vv, a, g, t⟩).1, !((joinE x ⟨k, vv, a, g, t⟩).1.same x), 0)) := by unfold putE; simp only [hk]
    rw [hp]
    obtain ⟨hm, hmx, _⟩ := getE_some hg.rise hk
    obtain ⟨⟨⟨J0, J1, J2, J3, J4⟩, n1⟩, hj⟩ : ∃ J, joinE x ⟨k, vv, a, g, t⟩ = J := ⟨_, rfl⟩
    rw [hj]
    obtain ⟨x0, x1, x2, x3, x4⟩ := x
    have c := rAdd_some v l k vv a g t x0 x1 x2 x3 x4 J0 J1 J2 J3 J4 n1 w hr hg he hk hj
    by_cases hn : n1 = 0
    · subst hn
      rw [if_neg (by simp)] at c ⊢
      rw [show l.set (placeE l k) ⟨J0, J1, J2, J3, J4⟩ = l.take (placeE l k) ++ ⟨J0, J1, J2, J3, J4⟩ :: l.drop (placeE l k + 1) from List.set_eq_take_append_cons_drop.trans (if_pos hm)]
      exact c
    · rw [if_pos hn] at c ⊢
      exact c
theorem rAdd_o {l : List En} {k vv a : Int} {g : Bool} {t : ByteArray} {R1 : List En} {R2 : Bool} {R3 : Int} (h : putE l ⟨k, vv, a, g, t⟩ = (R1, R2, R3)) (v : Value) (w : World) (hr : RowIs w v l) (hg : GoodL l) (he : bad k vv a g t = 0) :
    Calls Tryd.prog 15 #[v, .agg #[.int .i64 k, .int .i64 vv, .int .i64 a, .bool g, .string t]] w fun e w' => ∃ v', e = .returned (.tuple #[v', .int .i64 R3]) ∧ (RowIs w' v' R1 ∧ ∀ g, v'.ownBlock = some g → w.heap.size ≤ g) ∧ Below w.heap.size w w' := by
  have c := rAdd_c v l k vv a g t w hr hg he
  rw [h] at c
  exact c

end Go.Proofs.YtliaidgedjjobaaDoor
