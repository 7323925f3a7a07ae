/-
  What a mesh tells, on lists: what was put is told; what is told is not older; between its version and its time an entry is the same.
-/
import Derived.Test.YtbincnajklmnaaaMsP
namespace Go.Proofs.Ytbincnajklmnaaa
set_option linter.unusedVariables false
set_option linter.unusedSimpArgs false
open Go.RowKit

/-- what was just put is told by who put it -/
theorem put_get {l l' : List Deed} {cs cs' : List (List En)} {node key k : Int} {t : ByteArray} (hG : GoodM l cs) (h : mPut l cs node key t = ⟨l', cs', k, 0⟩) :
    mGet l' cs' node key k = (cs', ⟨key, k, k, false, t⟩, true, 0) := by
  unfold mPut mDone at h
  split at h
  · injection h with _ _ _ h4
    cases h4
  · rename_i hn
    have hn : nodeB cs.length node = true := by
      cases hq : nodeB cs.length node
      · exact absurd hq hn
      · rfl
    split at h
    · rename_i he
      injection h with _ _ _ h4
      exact absurd h4 he
    · rename_i he
      have he : (putO l key t).err = 0 := by simpa using he
      obtain ⟨h1, h2, h3, h4⟩ := put_fine he
      have hg := good_put l key t hG.good
      rw [h4] at h hg
      injection h with e1 e2 e3 _
      dsimp only at e1 e2 e3
      have hlen : (l ++ [⟨key, false, t⟩] : List Deed).length = l.length + 1 := by simp
      have hGl : GoodM (l ++ [⟨key, false, t⟩]) cs := hG.later hg (by rw [hlen]; omega)
      have hw := was_mk h1 (Nat.le_refl (l ++ [⟨key, false, t⟩] : List Deed).length)
      obtain ⟨p1, p2, z, p3, p4⟩ := put_was hGl.good hGl.len (hGl.at node) hw
      have hlast : lastOf (l ++ [⟨key, false, t⟩]) key = ⟨(l.length : Int) + 1, false, t⟩ := by rw [lastOf_snoc, if_pos rfl]
      have hwe : wasE (l ++ [⟨key, false, t⟩]) key (l ++ [⟨key, false, t⟩] : List Deed).length = ⟨key, k, k, false, t⟩ := by
        rw [wasE, List.take_length, hlast, hlen, ← e3]
        simp
      have hzw := p2.was z ((getE_iff p2.good.rise).1 p3).1
      have hzk : z.k = key := ((getE_iff p2.good.rise).1 p3).2
      have hz : z = ⟨key, k, k, false, t⟩ := by
        obtain ⟨_, s, hs, ez⟩ := hzw
        rw [hzk] at ez
        have hza : z.a = s := by rw [ez]; rfl
        have hwa : (wasE (l ++ [⟨key, false, t⟩]) key (l ++ [⟨key, false, t⟩] : List Deed).length).a = ((l ++ [⟨key, false, t⟩] : List Deed).length : Int) := rfl
        have hsl : s = (l ++ [⟨key, false, t⟩] : List Deed).length := by rw [hwa, hza] at p4; omega
        rw [ez, hsl, hwe]
      obtain ⟨i, rfl, hi⟩ : ∃ i : Nat, node = i ∧ i < cs.length := by
        rw [nodeB_iff] at hn
        exact ⟨node.toNat, by omega, by omega⟩
      have hcn : cacheN cs' (i : Int) = (putE (cacheN cs i) (wasE (l ++ [⟨key, false, t⟩]) key (l ++ [⟨key, false, t⟩] : List Deed).length)).1 := by
        rw [← e2]
        unfold cacheN learnM learnC
        rw [List.getD_eq_getElem?_getD, Int.toNat_natCast, List.getElem?_set_self hi]
        rfl
      have hlc : cs'.length = cs.length := by rw [← e2]; exact learnM_len _ _ _ _
      have hkl : k = (l'.length : Int) := by rw [← e3, ← e1, hlen]; simp
      rw [mGet, if_neg (by rw [hlc, hn, h1]; simp; omega), hcn]
      have hgz : getE (putE (cacheN cs i) (wasE (l ++ [⟨key, false, t⟩]) key (l ++ [⟨key, false, t⟩] : List Deed).length)).1 key = some z := p3
      rw [hgz, hz]
      show (if k ≤ k then _ else _) = _
      rw [if_pos (Int.le_refl _)]
/-- what is told is not older than it was asked for, and was so -/
theorem get_told {l : List Deed} {cs cs' : List (List En)} {node key floor : Int} {x : En} {had : Bool} (hG : GoodM l cs) (h : mGet l cs node key floor = (cs', x, had, 0)) : floor ≤ x.a ∧ x.k = key ∧ Was l x := by
  unfold mGet at h
  split at h
  · simp at h
  · rename_i hb
    have h1 : floor ≤ l.length := by
      rcases Int.lt_or_le l.length floor with h' | h'
      · exact absurd (.inr (.inr (.inr h'))) hb
      · exact h'
    have hk : stK key = true := by
      cases hq : stK key
      · exact absurd (.inr (.inl hq)) hb
      · rfl
    have other : ((learnM l cs node key, wasE l key l.length, false, (0 : Int)) = (cs', x, had, (0 : Int))) → floor ≤ x.a ∧ x.k = key ∧ Was l x := by
      intro he
      injection he with _ he
      injection he with he _
      rw [← he]
      exact ⟨h1, rfl, was_mk hk (Nat.le_refl _)⟩
    split at h
    · rename_i y hy
      split at h
      · rename_i hf
        injection h with _ h
        injection h with h _
        rw [← h]
        have := (getE_iff (hG.at node).good.rise).1 hy
        exact ⟨hf, this.2, (hG.at node).was y this.1⟩
      · exact other h
    · exact other h
/-- from its version on, up to its time, each time tells the same -/
theorem was_between {l : List Deed} {x : En} {q : Nat} (h : Was l x) (h1 : x.v ≤ q) (h2 : (q : Int) ≤ x.a) : q ≤ l.length ∧ wasE l x.k q = ⟨x.k, x.v, q, x.g, x.t⟩ := by
  obtain ⟨hk, s, hs, he⟩ := h
  have ha : x.a = s := by rw [he]; rfl
  have hv : x.v = (lastOf (l.take s) x.k).ver := by rw [he]; rfl
  have hg : x.g = (lastOf (l.take s) x.k).gone := by rw [he]; rfl
  have ht : x.t = (lastOf (l.take s) x.k).text := by rw [he]; rfl
  have e := lastOf_between l x.k s q hs (by rw [← hv]; exact h1) (by omega)
  refine ⟨by omega, ?_⟩
  rw [wasE, e, ← hv, ← hg, ← ht]
theorem Was.span {l : List Deed} {x : En} (h : Was l x) : 0 ≤ x.v ∧ x.v ≤ x.a ∧ x.a ≤ l.length := by
  obtain ⟨hk, s, hs, he⟩ := h
  have ha : x.a = s := by rw [he]; rfl
  have hv : x.v = (lastOf (l.take s) x.k).ver := by rw [he]; rfl
  have := lastOf_take_ver l x.k s
  omega
end Go.Proofs.Ytbincnajklmnaaa
