/-
  Two rows of hints grown side by side; an append, and where the new row lies.
-/
import Derived.Test.YtkhdeaegbkenfahHiP
import Derived.Maps.AppendAt
namespace Go.Proofs.Ytkhdeaegbkenfah
set_option linter.unusedVariables false
set_option linter.unusedSimpArgs false
open Go.RowKit

theorem wp_appHat {ops : Array Oper} {rest : List Oper} {o : Oper} {ac : Act} {Q : Exit → Act → World → Prop} (w : World) (hgd : o.guard = none) (s x : Operand)
    (ho : o.op = .call { callee := .builtin .append, args := #[s, x], argTypes := #[34, 34] }) (B : Nat) (v : Value) (out : List Hn) (e : Hn) (hs : ac.eval s = v)
    (hown : OwnH B w v out) (vb : Nat) (hx : ac.eval x = .slice (some ⟨vb, 0, none⟩) 1 1) (hv : w.heap[vb]? = some (.cells e.cells.toArray 39 (0, 0))) (hl : out.length ≤ 2000) (hB : B ≤ w.heap.size)
    (h : ∀ v' w', OwnH B w' v' (out ++ [e]) → Hid (w.grownBy w' v.ownBlock) → Hid (v'.ownBlock = v.ownBlock ∨ v'.ownBlock = some w.heap.size) → wpList Try.prog ops Q rest (ac.put o.dst v') w') : wpList Try.prog ops Q (o :: rest) ac w := by
  obtain ⟨i0, hi0, hz0, hz1, hz2⟩ := info_parts infoHn
  have q3 : ∀ (u : Value), u ∈ e.cells → u.oneCell' = true := fun u hu => rowH_one [e] u (by simpa [rowH] using hu)
  refine wpList_append_own_at w hgd s x 34 ho B 39 i0 _ 3 24 Try.underlying34 hi0 hz0 hz1 hz2 rfl (by omega) v out.length (rowH out) hs hown ⟨vb, 0, none⟩ 1 1 e.cells hx rfl (World.news_of_block hv) q3 (by unfold maxLen; omega) (by omega) hB ?_
  intro v' w' h1 h2 _ h4
  refine h v' w' (show World.ownsRow _ _ _ _ _ _ _ from ?_) h2 h4
  have hr : rowH (out ++ [e]) = rowH out ++ e.cells := by rw [rowH_append]; simp [rowH]
  rw [hr, List.length_append]
  exact h1
/-- two rows of the call's own, apart -/
structure TwoH (B : Nat) (w : World) (u v : Value) (l m : List Hn) : Prop where
  a : OwnH B w u l
  b : OwnH B w v m
  ne : ∀ c, u.ownBlock = some c → v.ownBlock ≠ some c
theorem TwoH.below {B : Nat} {w w' : World} {u v : Value} {l m : List Hn} (h : TwoH B w u v l m) (hb : Below w.heap.size w w') : TwoH B w' u v l m := ⟨h.a.below hb, h.b.below hb, h.ne⟩
theorem OwnH.keep {B : Nat} {w w' : World} {v : Value} {l : List Hn} {r : Option Nat} (h : OwnH B w v l) (hg : w.grownBy w' r) (hr : ∀ c, v.ownBlock = some c → r ≠ some c) : OwnH B w' v l := by
  refine ⟨h.1, ?_⟩
  rcases h.2 with ⟨e1, e2⟩ | ⟨g, cap, cur, rfl, h1, h2, h3⟩
  · exact .inl ⟨e1, e2⟩
  · exact .inr ⟨g, cap, cur, rfl, h1, (hg.block g (Array.getElem?_eq_some_iff.1 h2).1 (fun e => hr g rfl e.symm)).trans h2, h3⟩
theorem TwoH.left {B : Nat} {w w' : World} {u u' v : Value} {l l' m : List Hn} (h : TwoH B w u v l m) (ho : OwnH B w' u' l') (hg : w.grownBy w' u.ownBlock) (hat : u'.ownBlock = u.ownBlock ∨ u'.ownBlock = some w.heap.size) : TwoH B w' u' v l' m := by
  refine ⟨ho, h.b.keep hg (fun c hc e => h.ne c e hc), fun c hc hv => ?_⟩
  rcases hat with e | e
  · exact h.ne c (e ▸ hc) hv
  · rw [e] at hc
    have e2 : w.heap.size = c := by simpa using hc
    have := ownsRow_lt h.b c hv
    omega
theorem TwoH.right {B : Nat} {w w' : World} {u v v' : Value} {l m m' : List Hn} (h : TwoH B w u v l m) (ho : OwnH B w' v' m') (hg : w.grownBy w' v.ownBlock) (hat : v'.ownBlock = v.ownBlock ∨ v'.ownBlock = some w.heap.size) : TwoH B w' u v' l m' := by
  refine ⟨h.a.keep hg (fun c hc e => h.ne c hc e), ho, fun c hc hv => ?_⟩
  rcases hat with e | e
  · exact h.ne c hc (e ▸ hv)
  · rw [e] at hv
    have e2 : w.heap.size = c := by simpa using hv
    have := ownsRow_lt h.a c hc
    omega
theorem take_more (node : Int) (l : List Hn) (j : Nat) (h : j < l.length) :
    takeH node (l.take (j + 1)) = takeH node (l.take j) ++ (if (l[j].n == node) = true then [l[j]] else []) ∧
    leaveH node (l.take (j + 1)) = leaveH node (l.take j) ++ (if (l[j].n == node) = true then [] else [l[j]]) := by
  rw [List.take_succ_eq_append_getElem h, takeH, takeH, leaveH, leaveH, List.filter_append, List.filter_append]
  cases hb : (l[j].n == node) <;> simp [hb]
end Go.Proofs.Ytkhdeaegbkenfah
