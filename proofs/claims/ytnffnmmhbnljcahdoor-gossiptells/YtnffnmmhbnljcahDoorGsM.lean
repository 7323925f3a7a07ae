/-
  Rows of calls: a slice of slices of numbers, wherever it lies; one appended, a row appended.
-/
import Derived.Test.YtnffnmmhbnljcahDoorGoD
import Derived.Test.YtnffnmmhbnljcahDoorRgI
import Derived.Laws.AppendOwnNone
namespace Go.Proofs.YtnffnmmhbnljcahDoor
set_option linter.unusedVariables false
set_option linter.unusedSimpArgs false
open Go.RowKit

/-- a slice that holds a row of values -/
def ValsIs (w : World) (v : Value) (us : List Value) : Prop :=
  us.length ≤ maxLen ∧ ∃ p cap, v = .slice p us.length cap ∧ (p = none → cap = 0) ∧ (us ≠ [] → ∃ b o, p = some ⟨b, o, none⟩ ∧ b < w.heap.size ∧ ∀ j (h : j < us.length), w.cell? ⟨b, o + j, none⟩ = some us[j])
theorem ValsIs.below {w w' : World} {v : Value} {us : List Value} (h : ValsIs w v us) (hb : Below w.heap.size w w') : ValsIs w' v us := by
  obtain ⟨h0, p, cap, rfl, h1, h2⟩ := h
  refine ⟨h0, p, cap, rfl, h1, fun hn => ?_⟩
  obtain ⟨b, o, rfl, hlt, hc⟩ := h2 hn
  exact ⟨b, o, rfl, Nat.lt_of_lt_of_le hlt hb.size, fun j hj => (World.cell?_of_block (a := ⟨b, o + j, none⟩) (hb.block b hlt)).trans (hc j hj)⟩
theorem ValsIs.nil (w : World) : ValsIs w (.slice none 0 0) [] := ⟨by simp, none, 0, rfl, fun _ => rfl, fun h => absurd rfl h⟩
/-- a slice of slices of numbers -/
def CallsIs (w : World) (v : Value) (ls : List (List Int)) : Prop :=
  ∃ us : List Value, us.length = ls.length ∧ ValsIs w v us ∧ ∀ j (h : j < us.length) (h' : j < ls.length), IntsIs w us[j] ls[j]
theorem CallsIs.below {w w' : World} {v : Value} {ls : List (List Int)} (h : CallsIs w v ls) (hb : Below w.heap.size w w') : CallsIs w' v ls := by
  obtain ⟨us, h0, h1, h2⟩ := h
  exact ⟨us, h0, h1.below hb, fun j h h' => (h2 j h h').below hb⟩
theorem CallsIs.nil (w : World) : CallsIs w (.slice none 0 0) [] := ⟨[], rfl, ValsIs.nil w, fun j h _ => by simp at h⟩
theorem CallsIs.parts {w : World} {v : Value} {ls : List (List Int)} (h : CallsIs w v ls) :
    ls.length ≤ maxLen ∧ ∃ p cap, v = .slice p ls.length cap ∧ (ls ≠ [] → ∃ b o, p = some ⟨b, o, none⟩ ∧ b < w.heap.size ∧ ∀ j (h : j < ls.length), ∃ u, w.cell? ⟨b, o + j, none⟩ = some u ∧ IntsIs w u ls[j]) := by
  obtain ⟨us, h0, ⟨h1, p, cap, rfl, h2, h3⟩, h4⟩ := h
  refine ⟨by omega, p, cap, by rw [h0], fun hn => ?_⟩
  have hu : us ≠ [] := fun e => by
    subst e
    exact hn (List.length_eq_zero_iff.1 h0.symm)
  obtain ⟨b, o, rfl, hlt, hc⟩ := h3 hu
  exact ⟨b, o, rfl, hlt, fun j hj => ⟨us[j]'(by omega), hc j (by omega), h4 j (by omega) hj⟩⟩
theorem IntsIs.slice {w : World} {v : Value} {l : List Int} (h : IntsIs w v l) : ∃ p cap, v = .slice p l.length cap := by
  obtain ⟨_, p, cap, rfl, _⟩ := h
  exact ⟨p, cap, rfl⟩
/-- a row of values of the call's own -/
def OwnV (B : Nat) (w : World) (v : Value) (us : List Value) : Prop := w.ownsRow B 33 1 v us.length us
theorem OwnV.nil (B : Nat) (w : World) : OwnV B w (.slice none 0 0) [] := ⟨rfl, .inl ⟨rfl, rfl⟩⟩
theorem OwnV.vals {B : Nat} {w : World} {v : Value} {us : List Value} (h : OwnV B w v us) : ValsIs w v us := by
  have hcell : ∀ g, v.ownBlock = some g → ∀ j u, us[j]? = some u → w.cell? ⟨g, j, none⟩ = some u := fun g hg j u hu => by
    have := World.ownsRow.cells h (g := g) hg j u hu
    simpa [Addr.add_lit] using this
  rcases h.2 with ⟨rfl, h0⟩ | ⟨g, cap, cur, rfl, _, hg, hc1, hc2, _⟩
  · rw [List.length_eq_zero_iff.1 h0]
    exact ValsIs.nil w
  · refine ⟨Nat.le_trans hc1 hc2, _, cap, rfl, fun e => by simp at e, fun _ => ⟨g, 0, rfl, (Array.getElem?_eq_some_iff.1 hg).1, fun j hj => ?_⟩⟩
    have := hcell g rfl j us[j] (by simp [hj])
    simpa using this
theorem OwnV.below {B : Nat} {w w' : World} {v : Value} {us : List Value} (h : OwnV B w v us) (hb : Below w.heap.size w w') : OwnV B w' v us := ownsRow_belowF h hb
theorem OwnV.from {B : Nat} {w : World} {v : Value} {us : List Value} (h : OwnV B w v us) (c : Nat) (hc : v.ownBlock = some c) : B ≤ c := ownsRow_fromF h c hc
theorem infoSl : (Tryd.prog.info? 33).map (fun i => (i.zero, i.size, i.bytes)) = some (some (.slice none 0 0), 1, 24) := by kernel_rfl
/-- append of one -/
theorem wp_appV {ops : Array Oper} {rest : List Oper} {o : Oper} {ac : Act} {Q : Exit → Act → World → Prop} (w : World) (hgd : o.guard = none) (s x : Operand)
    (ho : o.op = .call { callee := .builtin .append, args := #[s, x], argTypes := #[22, 22] }) (B : Nat) (v : Value) (out : List Value) (e : Value) (hs : ac.eval s = v)
    (hown : OwnV B w v out) (vb : Nat) (hx : ac.eval x = .slice (some ⟨vb, 0, none⟩) 1 1) (hv : w.heap[vb]? = some (.cells #[e] 33 (0, 0))) (he : e.oneCell' = true) (hl : out.length ≤ 100) (hB : B ≤ w.heap.size)
    (h : ∀ v' w', OwnV B w' v' (out ++ [e]) → Hid (w.grownBy w' v.ownBlock) → wpList Tryd.prog ops Q rest (ac.put o.dst v') w') : wpList Tryd.prog ops Q (o :: rest) ac w := by
  obtain ⟨i0, hi0, hz0, hz1, hz2⟩ := info_parts infoSl
  have q3 : ∀ (u : Value), u ∈ [e] → u.oneCell' = true := fun u hu => by simp at hu; subst hu; exact he
  have q2 : ∀ (j : Nat) (u : Value), [e][j]? = some u → w.cell? ((⟨vb, 0, none⟩ : Addr).add j) = some u := World.news_of_block hv
  refine wpList_append_own w hgd s x 22 ho B 33 i0 _ 1 24 Tryd.underlying22 hi0 hz0 hz1 hz2 rfl (by omega) v out.length out hs hown ⟨vb, 0, none⟩ 1 1 [e] hx rfl q2 q3 (by unfold maxLen; omega) (by omega) hB ?_
  intro v' w' h1 h2 _
  refine h v' w' (show World.ownsRow _ _ _ _ _ _ _ from ?_) h2
  rw [List.length_append]
  exact h1
/-- append of a row -/
theorem wp_appVs {ops : Array Oper} {rest : List Oper} {o : Oper} {ac : Act} {Q : Exit → Act → World → Prop} (w : World) (hgd : o.guard = none) (s x : Operand)
    (ho : o.op = .call { callee := .builtin .append, args := #[s, x], argTypes := #[22, 22] }) (B : Nat) (v : Value) (out : List Value) (hs : ac.eval s = v)
    (hown : OwnV B w v out) (u : Value) (more : List Value) (hx : ac.eval x = u) (hm : ValsIs w u more) (h1c : ∀ u ∈ more, u.oneCell' = true) (hl : out.length + more.length ≤ 100) (hB : B ≤ w.heap.size)
    (h : ∀ v' w', OwnV B w' v' (out ++ more) → Hid (w.grownBy w' v.ownBlock) → wpList Tryd.prog ops Q rest (ac.put o.dst v') w') : wpList Tryd.prog ops Q (o :: rest) ac w := by
  obtain ⟨i0, hi0, hz0, hz1, hz2⟩ := info_parts infoSl
  obtain ⟨_, p, cap, rfl, hnil, hrow⟩ := hm
  cases p with
  | none =>
    obtain rfl : cap = 0 := hnil rfl
    obtain rfl : more = [] := by
      rcases List.eq_nil_or_concat more with h | ⟨l, b, h⟩
      · exact h
      · obtain ⟨_, _, e, _⟩ := hrow (by rw [h]; simp)
        cases e
    rw [List.append_nil] at h
    exact wpList_append_own_none hgd s x 22 ho B 33 i0 1 Tryd.underlying22 hi0 v out.length out hs hown hx (h v w hown ⟨rfl, rfl, rfl, Nat.le_refl _, fun _ _ _ => rfl⟩)
  | some ad =>
    have q2 : ∀ (j : Nat) (u : Value), more[j]? = some u → w.cell? (ad.add j) = some u := fun j u hu => by
      have hj : j < more.length := (List.getElem?_eq_some_iff.1 hu).1
      obtain ⟨b, off, e, _, hc⟩ := hrow (fun e => by simp [e] at hj)
      obtain rfl : ad = ⟨b, off, none⟩ := by simpa using e
      rw [Addr.add_lit, hc j hj, ← hu]
      simp [hj]
    refine wpList_append_own w hgd s x 22 ho B 33 i0 _ 1 24 Tryd.underlying22 hi0 hz0 hz1 hz2 rfl (by omega) v out.length out hs hown ad more.length cap more hx (by simp) q2 h1c (by unfold maxLen; omega) (by omega) hB ?_
    intro v' w' h1 h2 _
    refine h v' w' (show World.ownsRow _ _ _ _ _ _ _ from ?_) h2
    rw [List.length_append]
    exact h1
/-- what is of the call's own, seen as calls -/
theorem OwnV.calls {B : Nat} {w : World} {v : Value} {us : List Value} {ls : List (List Int)} (h : OwnV B w v us) (hl : us.length = ls.length) (hi : ∀ j (h : j < us.length) (h' : j < ls.length), IntsIs w us[j] ls[j]) : CallsIs w v ls := ⟨us, hl, h.vals, hi⟩
end Go.Proofs.YtnffnmmhbnljcahDoor
