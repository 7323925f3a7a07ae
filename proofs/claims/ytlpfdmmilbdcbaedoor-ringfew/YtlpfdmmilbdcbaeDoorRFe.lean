/-
  Facts for RingFew: who comes takes only for himself; owners are nodes, and unlike.
-/
import Derived.Test.YtlpfdmmilbdcbaeDoorRTe
import Derived.Test.YtlpfdmmilbdcbaeDoorRgU
namespace Go.Proofs.YtlpfdmmilbdcbaeDoor
set_option linter.unusedVariables false
set_option linter.unusedSimpArgs false
open Go.RowKit

theorem own_in {nodes : List Int} {k : Nat} {t a : Int} (h : ownP t (ptsL nodes k) = some a) : nodes.contains a = true := by
  have hm : ∃ y ∈ ptsL nodes k, y.n = a := by
    unfold ownP at h
    cases hf : (ptsL nodes k).find? (fun x => decide (t ≤ x.p)) with
    | some y =>
      rw [hf] at h
      exact ⟨y, List.mem_of_find?_eq_some hf, Option.some.inj h⟩
    | none =>
      rw [hf] at h
      cases hl : ptsL nodes k with
      | nil => rw [hl] at h; cases h
      | cons y r =>
        rw [hl] at h
        exact ⟨y, by simp, Option.some.inj h⟩
  obtain ⟨y, hy, rfl⟩ := hm
  exact (pts_node hy).1
theorem few_fact {nodes : List Int} {more : Int} {k : Nat} {t a b : Int} (hb : badNodes (nodes ++ [more]) = 0) (h1 : ownP t (ptsL nodes k) = some a) (h2 : ownP t (ptsL (nodes ++ [more]) k) = some b) : b = a ∨ b = more := by
  obtain ⟨_, hnd, _, _⟩ := badNodes_good hb
  have hc : nodes.contains more = false := by
    rw [List.nodup_append] at hnd
    cases h : nodes.contains more
    · rfl
    · rw [List.contains_iff_mem] at h
      exact absurd rfl (hnd.2.2 more h more (by simp))
  exact ownP_few t (ptsL (nodes ++ [more]) k) more a b (by rw [pts_more nodes k more hc]; exact h1) h2
theorem badFindF_none {l : List Pt} {key : Int} (h : rightP l = true) (hk : inR key 0 7 = true) : badFind l key = 0 := by unfold badFind; rw [if_neg (by rw [h]; simp), if_neg (by rw [hk]; simp)]
theorem take_unlike {l : List Int} (h : l.Nodup) {i : Nat} (hi : i < l.length) : (l.take i).contains l[i] = false := by
  cases hc : (l.take i).contains l[i]
  · rfl
  · rw [List.contains_iff_mem] at hc
    obtain ⟨j, hj, he⟩ := List.getElem_of_mem hc
    rw [List.getElem_take] at he
    have hj' : j < i := by rw [List.length_take] at hj; omega
    have h1 := List.pairwise_iff_getElem.1 h j i (by omega) hi hj'
    exact absurd he h1
theorem owners_nodes {nodes : List Int} {k : Nat} {t : Int} {x : Int} (h : x ∈ ownersL t (ptsL nodes k)) : nodes.contains x = true := by
  obtain ⟨y, hy, rfl⟩ := owners_mem h
  exact (pts_node hy).1
/-- the one fact: node 3 alone has one point -/
theorem three_one : ∃ y : Pt, ptsL [3] 1 = [y] ∧ y.n = 3 := by
  have hb : badNodes [3] = 0 := by decide
  obtain ⟨g1, g2, _, _⟩ := badNodes_good hb
  have hl := pts_len_le g1 g2 (each := 1) (by omega)
  match hp : ptsL [3] 1, hl with
  | [y], _ =>
    refine ⟨y, rfl, ?_⟩
    have := (pts_node (nodes := [3]) (each := 1) (x := y) (by rw [hp]; simp)).1
    simpa using this
theorem wp_appIs {ops : Array Oper} {rest : List Oper} {o : Oper} {ac : Act} {Q : Exit → Act → World → Prop} (w : World) (hgd : o.guard = none) (s x : Operand)
    (ho : o.op = .call { callee := .builtin .append, args := #[s, x], argTypes := #[36, 36] }) (B : Nat) (v : Value) (out : List Int) (hs : ac.eval s = v)
    (hown : OwnI B w v out) (u : Value) (more : List Int) (hx : ac.eval x = u) (hm : IntsIs w u more) (hne : more ≠ []) (hl : out.length + more.length ≤ 100) (hB : B ≤ w.heap.size)
    (h : ∀ v' w', OwnI B w' v' (out ++ more) → Hid (w.grownBy w' v.ownBlock) → wpList Tryd.prog ops Q rest (ac.put o.dst v') w') : wpList Tryd.prog ops Q (o :: rest) ac w := by
  obtain ⟨i0, hi0, hz0, hz1, hz2⟩ := info_parts infoInt
  obtain ⟨_, p, cap, rfl, hrow⟩ := hm
  obtain ⟨b, off, rfl, _, hc⟩ := hrow hne
  have q3 : ∀ u ∈ intC more, u.oneCell' = true := fun u hu => by
    obtain ⟨z, _, rfl⟩ := List.mem_map.1 hu
    rfl
  have q2 : ∀ (j : Nat) (u : Value), (intC more)[j]? = some u → w.cell? ((⟨b, off, none⟩ : Addr).add j) = some u := fun j u hu => by
    have hj : j < more.length := by
      have := (List.getElem?_eq_some_iff.1 hu).1
      simpa [intC] using this
    rw [Addr.add_lit, hc j hj, ← hu]
    simp [intC, hj]
  refine wpList_append_own w hgd s x 36 ho B 3 i0 _ 1 8 Tryd.underlying36 hi0 hz0 hz1 hz2 rfl (by omega) v out.length (intC out) hs hown ⟨b, off, none⟩ more.length cap (intC more) hx (by simp [intC]) q2 q3 (by unfold maxLen; omega) (by omega) hB ?_
  intro v' w' h1 h2 _
  refine h v' w' (show World.ownsRow _ _ _ _ _ _ _ from ?_) h2
  rw [intC_append, List.length_append]
  exact h1
end Go.Proofs.YtlpfdmmilbdcbaeDoor
