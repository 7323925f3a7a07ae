/-
  Package log by its contracts: New, what counts a step, what changes it where it does not stop, what tells of it.
-/
import Derived.Test.YtpcnfoaoajfhlaaDoorLgM
import Derived.Maps.AppendAt
import Derived.Deep.RegionHeld3
import Derived.WalkSmall
namespace Go.Proofs.YtpcnfoaoajfhlaaDoor
set_option linter.unusedVariables false
set_option linter.unusedSimpArgs false
open Go.RowKit

theorem setKept {F : Nat → Prop} {w w' : World} (h : Kept F w w') (b k : Nat) (hF : F b ∨ w.heap.size ≤ b) (u : Value) : Kept F w (w'.setCell ⟨b, k, none⟩ u) :=
  ⟨h.os, h.tape, h.output, by rw [World.size_setCell]; exact h.size, fun c hc hn => (Below.heap_setCell _ _ _ c (fun e => by
    subst e
    rcases hF with h' | h'
    · exact hn h'
    · exact absurd hc (Nat.not_lt.2 h'))).trans (h.block c hc hn)⟩
/-- append of a row of bytes to a row of bytes -/
theorem wp_appB {ops : Array Oper} {rest : List Oper} {o : Oper} {ac : Act} {Q : Exit → Act → World → Prop} (w : World) (hgd : o.guard = none) (s x : Operand)
    (ho : o.op = .call { callee := .builtin .append, args := #[s, x], argTypes := #[92, 92] }) (v : Value) (out : List Nat) (hs : ac.eval s = v) (hown : OwnB w v out)
    (g n cap : Nat) (more : List Nat) (hx : ac.eval x = .slice (some ⟨g, 0, none⟩) n cap) (hm : OwnB w (.slice (some ⟨g, 0, none⟩) n cap) more) (hl : out.length + more.length ≤ 100000)
    (h : ∀ v' w', OwnB w' v' (out ++ more) → Hid (w.grownBy w' v.ownBlock) → Hid (v'.ownBlock = v.ownBlock ∨ v'.ownBlock = some w.heap.size) → wpList Tryd.prog ops Q rest (ac.put o.dst v') w') : wpList Tryd.prog ops Q (o :: rest) ac w := by
  obtain ⟨i0, hi0, hz0, hz1, hz2⟩ := info_parts infoB
  rcases hm.2 with ⟨he, _⟩ | ⟨g', cap', cur, he, _, hg, hc1, hc2, hc3, hc4⟩
  · cases he
  · obtain ⟨rfl, rfl, rfl⟩ : g = g' ∧ n = more.length ∧ cap = cap' := by simpa using he
    have q2 : ∀ (j : Nat) (u : Value), (rowB more)[j]? = some u → w.cell? ((⟨g, 0, none⟩ : Addr).add j) = some u := fun j u hu => by
      rw [← hc4] at hu
      have hj : (cur.toList.take (more.length * 1))[j]? = some u := hu
      rw [List.getElem?_take] at hj
      split at hj
      · have hq : cur[j]? = some u := by simpa using hj
        show w.cell? ((⟨g, 0, none⟩ : Addr).add j) = some u
        by_cases hj0 : j = 0
        · subst hj0; simp [World.cell?, Addr.add, hg, hq]
        · simp [World.cell?, Addr.add, hj0, hg, hq]
      · cases hj
    refine wpList_append_own_at w hgd s x 92 ho 0 5 i0 _ 1 1 Tryd.underlying92 hi0 hz0 hz1 hz2 rfl (by omega) v out.length (rowB out) hs hown ⟨g, 0, none⟩ more.length cap (rowB more) hx (by rw [rowB_length]; omega) q2 (rowB_one more) (by unfold maxLen; omega) (by omega) (Nat.zero_le _) ?_
    intro v' w' h1 h2 _ h4
    refine h v' w' (show World.ownsRow _ _ _ _ _ _ _ from ?_) h2 h4
    rw [rowB_append, List.length_append]
    exact h1
set_option maxHeartbeats 4000000 in
theorem lgNew_c (w : World) : Calls Tryd.prog 15 #[] w fun e w' => ∃ j, e = .returned (.pointer (some ⟨j, 0, none⟩)) ∧ (∃ S, LgAt S w' j [] [] 0 (-1) false ∧ ∀ c, S c → w.heap.size ≤ c) ∧ Below w.heap.size w w' := by
  go_enter Tryd.func15, Tryd.ntmps15
  go_wp2_with fail
  refine (new_c _).mono ?_
  rintro e w1 ⟨rfl, hw⟩
  have HS : Hid (StoreIs w1 w.heap.size [] (fun c => c = w.heap.size)) := by rw [hw]; exact new_is w
  have HB : Hid (Below w.heap.size w w1) := by rw [hw]; exact (Below.refl _ _).alloc (Nat.le_refl _) _
  have HZ : Hid (w1.heap.size = w.heap.size + 1) := by show w1.heap.size = w.heap.size + 1; rw [hw]; simp
  clear hw
  go_wp2_with fail
  go_ret
  have hz := HZ.out
  refine ⟨w1.heap.size, rfl, ⟨fun c => c = w.heap.size ∨ c = w1.heap.size, ⟨fun c => c = w.heap.size, w.heap.size, .slice none 0 0, ?_⟩, fun c hc => by omega⟩, HB.out.trans (((Below.refl _ _).alloc (Nat.le_refl _) _).mono HB.out.size)⟩
  refine ⟨by simp, by simp, by simp, by simp, by simp, fun k => by simp, HS.out.below ((Below.refl _ _).alloc (Nat.le_refl _) _), OwnB.nil _, .inr rfl, fun x hx => ⟨.inl hx, by omega⟩, fun g hg => by simp [Value.ownBlock] at hg, fun x hx => by simp; omega⟩
def lfN (lf : Int) : Int := if 0 < lf then lf - 1 else lf
/-- a step is counted -/
theorem stops_c {S F : Nat → Prop} {w : World} {j b : Nat} {v : Value} {l : List Deed} {bs : List Nat} {sf : Nat} {lf : Int} {st : Bool} (h : Lq S F w j b v l bs sf lf st) (hlf2 : lf ≤ 9223372036854775807) :
    Calls Tryd.prog 49 #[.pointer (some ⟨j, 0, none⟩)] w fun e w' => e = .returned (.bool (lf == 0)) ∧ Lq S F w' j b v l bs sf (lfN lf) (lf == 0) ∧ Kept S w w' := by
  have HQ : Hid (Lq S F w j b v l bs sf lf st) := h
  have c3 := h.c3
  have c4 := h.c4
  have f4 := h.fz 4
  have f3 := h.fz 3
  have lj : j < w.heap.size := h.lt j h.sj
  have H1 : Hid (∀ (z : Int) (s : Bool), Lq S F (w.setCell ⟨j, 4, none⟩ (.bool s)) j b v l bs sf lf s ∧ Kept S w (w.setCell ⟨j, 4, none⟩ (.bool s)) ∧ Lq S F ((w.setCell ⟨j, 4, none⟩ (.bool s)).setCell ⟨j, 3, none⟩ (.int .i64 z)) j b v l bs sf z s ∧ Kept S w ((w.setCell ⟨j, 4, none⟩ (.bool s)).setCell ⟨j, 3, none⟩ (.int .i64 z))) :=
    fun z s => ⟨h.setSt s, setKept (Kept.refl _ _) j 4 (.inl h.sj) _, (h.setSt s).setLf z, setKept (setKept (Kept.refl _ _) j 4 (.inl h.sj) _) j 3 (.inl h.sj) _⟩
  clear h
  by_cases h0 : lf = 0
  · subst h0
    go_enter Tryd.func49, Tryd.ntmps49
    go_wp2_with fail
    go_ret
    exact ⟨rfl, (H1.out 0 true).1, (H1.out 0 true).2.1⟩
  · have h0b : (lf == 0) = false := by simp [h0]
    rw [h0b]
    by_cases h1 : 0 < lf
    · have hN : Hid (lfN lf = lf - 1) := by show lfN lf = _; rw [lfN, if_pos h1]
      rw [hN.out]
      have h1b : decide (0 < lf) = true := by simpa using h1
      have hlt : lf ≤ 9223372036854775807 := hlf2
      go_enter Tryd.func49, Tryd.ntmps49
      go_wp2_with fail
      go_ret
      exact ⟨rfl, (H1.out (lf - 1) false).2.2.1, (H1.out (lf - 1) false).2.2.2⟩
    · have hN : Hid (lfN lf = lf) := by show lfN lf = _; rw [lfN, if_neg h1]
      rw [hN.out]
      have h1b : decide (0 < lf) = false := by simpa using h1
      go_enter Tryd.func49, Tryd.ntmps49
      go_wp2_with fail
      go_ret
      exact ⟨rfl, (H1.out 0 false).1, (H1.out 0 false).2.1⟩
end Go.Proofs.YtpcnfoaoajfhlaaDoor
