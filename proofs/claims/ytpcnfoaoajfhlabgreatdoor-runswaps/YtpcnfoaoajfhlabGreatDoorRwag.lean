/-
  A row of numbers, and one appended to it.
  One row of numbers appended to another one; where two trees part, on lists.
  Package run by its contracts: readNumbers; a row of words.
-/
import Derived.Test.YtpcnfoaoajfhlabGreatDoorRwaf
import Derived.Deep.AppendLies
import Derived.Laws.AppendOwnNone
import Derived.Test.YtpcnfoaoajfhlabGreatDoorRwaa
import Derived.Deep.LoopGhost
namespace Go.Proofs.YtpcnfoaoajfhlabGreatDoor
set_option linter.unusedVariables false
set_option linter.unusedSimpArgs false
set_option linter.unusedVariables false
set_option linter.unusedSimpArgs false
open Go.RowKit

/-- a slice that holds a row of numbers -/
def IntsIs (w : World) (v : Value) (l : List Int) : Prop :=
  l.length ≤ maxLen ∧ ∃ p cap, v = .slice p l.length cap ∧ (l ≠ [] → ∃ b o, p = some ⟨b, o, none⟩ ∧ b < w.heap.size ∧ ∀ j (h : j < l.length), w.cell? ⟨b, o + j, none⟩ = some (.int .i64 l[j]))
theorem IntsIs.blocks {w w' : World} {v : Value} {l : List Int} (h : IntsIs w v l) (hs : w.heap.size ≤ w'.heap.size) (hb : ∀ c, v.ownBlock = some c → c < w.heap.size → w'.heap[c]? = w.heap[c]?) : IntsIs w' v l := by
  obtain ⟨h0, p, cap, rfl, h1⟩ := h
  refine ⟨h0, p, cap, rfl, fun hn => ?_⟩
  obtain ⟨b, o, rfl, hlt, hc⟩ := h1 hn
  exact ⟨b, o, rfl, Nat.lt_of_lt_of_le hlt hs, fun j hj => (World.cell?_of_block (a := ⟨b, o + j, none⟩) (hb b rfl hlt)).trans (hc j hj)⟩
theorem IntsIs.below {w w' : World} {v : Value} {l : List Int} (h : IntsIs w v l) (hb : Below w.heap.size w w') : IntsIs w' v l :=
  h.blocks hb.size (fun c _ hc => hb.block c hc)
theorem IntsIs.nil (w : World) : IntsIs w (.slice none 0 0) [] := ⟨by simp, none, 0, rfl, fun h => absurd rfl h⟩
def intC (l : List Int) : List Value := l.map (Value.int .i64)
theorem IntsIs.own {w : World} {B : Nat} {v : Value} {l : List Int} (h : w.ownsRow B 3 1 v l.length (intC l)) : IntsIs w v l := by
  have hcell : ∀ g, v.ownBlock = some g → ∀ j u, (intC l)[j]? = some u → w.cell? ⟨g, j, none⟩ = some u := fun g hg j u hu => by
    have := h.cells (g := g) hg j u hu
    simpa [Addr.add_lit] using this
  rcases h.2 with ⟨rfl, h0⟩ | ⟨g, cap, cur, rfl, _, hg, hc1, hc2, _⟩
  · rw [List.length_eq_zero_iff.1 h0]
    exact IntsIs.nil w
  · refine ⟨Nat.le_trans hc1 hc2, _, cap, rfl, fun _ => ⟨g, 0, rfl, (Array.getElem?_eq_some_iff.1 hg).1, fun j hj => ?_⟩⟩
    have := hcell g rfl j (.int .i64 l[j]) (by simp [intC, List.getElem?_map, hj])
    simpa using this
theorem infoInt : (Tryz.prog.info? 3).map (fun i => (i.zero, i.size, i.bytes)) = some (some (.int .i64 0), 1, 8) := by kernel_rfl

theorem ownsRow_belowF {w w' : World} {B : Nat} {e : TypeId} {size : Nat} {v : Value} {n : Nat} {xs : List Value} (h : w.ownsRow B e size v n xs) (hb : Below w.heap.size w w') : w'.ownsRow B e size v n xs := by
  refine ⟨h.1, ?_⟩
  rcases h.2 with hn | ⟨g, cap, cur, rfl, h1, hg, rest⟩
  · exact .inl hn
  · exact .inr ⟨g, cap, cur, rfl, h1, (hb.block g (Array.getElem?_eq_some_iff.1 hg).1).trans hg, rest⟩
theorem ownsRow_fromF {w : World} {B : Nat} {e : TypeId} {size : Nat} {v : Value} {n : Nat} {xs : List Value} (h : w.ownsRow B e size v n xs) (c : Nat) (hc : v.ownBlock = some c) : B ≤ c := by
  rcases h.2 with ⟨rfl, _⟩ | ⟨g', cap, cur, rfl, h1, _⟩
  · cases hc
  · obtain rfl : g' = c := by simpa [Value.ownBlock] using hc
    exact h1
theorem below_grownF {B : Nat} {w w1 w' : World} {v : Value} (h : Below B w w1) (hB : B ≤ w.heap.size) (hg : w1.grownBy w' v.ownBlock) (hv : ∀ c, v.ownBlock = some c → B ≤ c) : Below B w w' :=
  h.trans ⟨hg.os, hg.tape, hg.output, hg.size, fun c hc => hg.block c (Nat.lt_of_lt_of_le hc (Nat.le_trans hB h.size)) (fun e => by have := hv c e.symm; omega)⟩
theorem intC_append (l m : List Int) : intC (l ++ m) = intC l ++ intC m := by simp [intC]
/-- a row of the call's own that holds numbers and one more -/
def OwnedMoreI (B : Nat) (w : World) (v : Value) (out : List Int) (e : Int) : Prop := w.ownsRow B 3 1 v (out ++ [e]).length (intC (out ++ [e]))
theorem wp_appI {ops : Array Oper} {rest : List Oper} {o : Oper} {ac : Act} {Q : Exit → Act → World → Prop} (w : World) (hgd : o.guard = none) (s x : Operand)
    (ho : o.op = .call { callee := .builtin .append, args := #[s, x], argTypes := #[87, 87] }) (B : Nat) (v : Value) (out : List Int) (e : Int) (hs : ac.eval s = v)
    (hown : w.ownsRow B 3 1 v out.length (intC out)) (vb : Nat) (hx : ac.eval x = .slice (some ⟨vb, 0, none⟩) 1 1) (hv : w.heap[vb]? = some (.cells #[.int .i64 e] 3 (0, 0))) (hl : out.length ≤ 100) (hB : B ≤ w.heap.size)
    (h : ∀ v' w', OwnedMoreI B w' v' out e → Hid (w.grownBy w' v.ownBlock) → wpList Tryz.prog ops Q rest (ac.put o.dst v') w') : wpList Tryz.prog ops Q (o :: rest) ac w := by
  obtain ⟨i0, hi0, hz0, hz1, hz2⟩ := info_parts infoInt
  have q3 : ∀ (u : Value), u ∈ [Value.int .i64 e] → u.oneCell' = true := fun u hu => by simp at hu; subst hu; rfl
  have q2 : ∀ (j : Nat) (u : Value), [Value.int .i64 e][j]? = some u → w.cell? ((⟨vb, 0, none⟩ : Addr).add j) = some u := World.news_of_block hv
  refine wpList_append_own w hgd s x 87 ho B 3 i0 _ 1 8 Tryz.underlying87 hi0 hz0 hz1 hz2 rfl (by omega) v out.length (intC out) hs hown ⟨vb, 0, none⟩ 1 1 [.int .i64 e] hx rfl q2 q3 (by unfold maxLen; omega) (by omega) hB ?_
  intro v' w' h1 h2 _
  refine h v' w' (show World.ownsRow _ _ _ _ _ _ _ from ?_) h2
  have hr : intC (out ++ [e]) = intC out ++ [.int .i64 e] := by simp [intC]
  rw [hr, List.length_append]
  exact h1
/-- a row of the call's own that holds entries and one more -/
def OwnedMore (B : Nat) (w : World) (v : Value) (out : List En) (e : En) : Prop := w.ownsRow B 92 5 v (out ++ [e]).length (rowC (out ++ [e]))
theorem wp_app {ops : Array Oper} {rest : List Oper} {o : Oper} {ac : Act} {Q : Exit → Act → World → Prop} (w : World) (hgd : o.guard = none) (s x : Operand)
    (ho : o.op = .call { callee := .builtin .append, args := #[s, x], argTypes := #[98, 98] }) (B : Nat) (v : Value) (out : List En) (e : En) (hs : ac.eval s = v)
    (hown : w.ownsRow B 92 5 v out.length (rowC out)) (vb : Nat) (hx : ac.eval x = .slice (some ⟨vb, 0, none⟩) 1 1) (hv : w.heap[vb]? = some (.cells e.cells.toArray 92 (0, 0))) (hl : out.length ≤ 100) (hB : B ≤ w.heap.size)
    (h : ∀ v' w', OwnedMore B w' v' out e → Hid (w.grownBy w' v.ownBlock) → wpList Tryz.prog ops Q rest (ac.put o.dst v') w') : wpList Tryz.prog ops Q (o :: rest) ac w := by
  obtain ⟨i0, hi0, hz0, hz1, hz2⟩ := info_parts infoEn
  have q3 : ∀ (u : Value), u ∈ e.cells → u.oneCell' = true := fun u hu => rowC_one [e] u (by simpa [rowC] using hu)
  refine wpList_append_own w hgd s x 98 ho B 92 i0 _ 5 48 Tryz.underlying98 hi0 hz0 hz1 hz2 rfl (by omega) v out.length (rowC out) hs hown ⟨vb, 0, none⟩ 1 1 e.cells hx rfl (World.news_of_block hv) q3 (by unfold maxLen; omega) (by omega) hB ?_
  intro v' w' h1 h2 _
  refine h v' w' (show World.ownsRow _ _ _ _ _ _ _ from ?_) h2
  have hr : rowC (out ++ [e]) = rowC out ++ e.cells := by rw [rowC_append]; simp [rowC]
  rw [hr, List.length_append]
  exact h1
end Go.Proofs.YtpcnfoaoajfhlabGreatDoor

namespace Go.Proofs.YtpcnfoaoajfhlabGreatDoor
set_option linter.unusedVariables false
set_option linter.unusedSimpArgs false
open Go.RowKit

theorem ptK_len (P : Nat → Nat → Nat) (f g : Nat → Nat) : ∀ d i, (ptK P f g d i).length ≤ 2 ^ d := by
  intro d
  induction d with
  | zero => intro i; unfold ptK; split <;> simp
  | succ d ih =>
    intro i
    unfold ptK
    split
    · simp
    · rw [List.length_append, Nat.pow_succ]
      have h1 := ih (2 * i)
      have h2 := ih (2 * i + 1)
      omega
theorem ptN_len (P : Nat → Nat → Nat) (f g : Nat → Nat) : ∀ d i, ptN P f g d i + 1 ≤ 2 ^ (d + 1) := by
  intro d
  induction d with
  | zero => intro i; exact Nat.le_refl _
  | succ d ih =>
    intro i
    have h1 := ih (2 * i)
    have h2 := ih (2 * i + 1)
    have e : 2 ^ (d + 1 + 1) = 2 ^ (d + 1) + 2 ^ (d + 1) := by rw [Nat.pow_succ 2 (d + 1)]; omega
    unfold ptN
    split
    · omega
    · omega
/-- the keys where two part, as numbers -/
def partK (f g : Nat → Nat) (i : Nat) : List Int := (ptK pairH f g (dep i) i).map (fun k : Nat => (k : Int))
def partN (f g : Nat → Nat) (i : Nat) : Nat := ptN pairH f g (dep i) i
theorem dep_le (i : Nat) : dep i ≤ 3 := by
  unfold dep
  split
  · omega
  · split
    · omega
    · split <;> omega
theorem partK_len (f g : Nat → Nat) (i : Nat) : (partK f g i).length ≤ 8 := by
  rw [partK, List.length_map]
  refine Nat.le_trans (ptK_len _ _ _ _ _) ?_
  exact Nat.le_trans (Nat.pow_le_pow_right (by omega) (dep_le i)) (by omega)
theorem partN_len (f g : Nat → Nat) (i : Nat) : partN f g i ≤ 15 := by
  have h := ptN_len pairH f g (dep i) i
  have h2 : 2 ^ (dep i + 1) ≤ 2 ^ 4 := Nat.pow_le_pow_right (by omega) (by have := dep_le i; omega)
  unfold partN
  omega
theorem part_alike {f g : Nat → Nat} {i : Nat} (h : trN f i = trN g i) : partK f g i = [] ∧ partN f g i = 1 := by
  refine ⟨?_, ptN_alike h⟩
  rw [partK, ptK_alike h]
  rfl
theorem part_end {f g : Nat → Nat} {i : Nat} (h8 : 8 ≤ i) (h : trN f i ≠ trN g i) : partK f g i = [((i - 8 : Nat) : Int)] ∧ partN f g i = 1 := by
  rw [trN_end f h8, trN_end g h8] at h
  unfold partK partN
  rw [dep_end h8, ptK, if_neg h]
  exact ⟨rfl, rfl⟩
theorem part_two {f g : Nat → Nat} {i : Nat} (h0 : 1 ≤ i) (h8 : i < 8) (h : trN f i ≠ trN g i) : partK f g i = partK f g (2 * i) ++ partK f g (2 * i + 1) ∧ partN f g i = partN f g (2 * i) + partN f g (2 * i + 1) + 1 := by
  obtain ⟨h1, h2⟩ := dep_two h0 h8
  unfold trN at h
  rw [h1] at h
  unfold partK partN
  rw [h2, h1, ptK, if_neg h, ptN, if_neg h, List.map_append]
  exact ⟨rfl, rfl⟩

/-- a row of numbers of the call's own -/
def OwnI (B : Nat) (w : World) (v : Value) (l : List Int) : Prop := w.ownsRow B 3 1 v l.length (intC l)
theorem OwnI.nil (B : Nat) (w : World) : OwnI B w (.slice none 0 0) [] := World.ownsRow_nil w B _ 1
theorem OwnI.one {B : Nat} {w : World} {b : Nat} {x : Int} (hB : B ≤ b) (h : w.heap[b]? = some (.cells #[.int .i64 x] 3 (0, 0))) : OwnI B w (.slice (some ⟨b, 0, none⟩) 1 1) [x] :=
  ⟨rfl, .inr ⟨b, 1, _, rfl, hB, h, Nat.le_refl _, by unfold maxLen; omega, rfl, rfl⟩⟩
theorem OwnI.base {B B' : Nat} {w : World} {v : Value} {l : List Int} (h : OwnI B w v l) (hB : B' ≤ B) : OwnI B' w v l := by
  refine ⟨h.1, ?_⟩
  rcases h.2 with hn | ⟨g, cap, cur, rfl, h1, rest⟩
  · exact .inl hn
  · exact .inr ⟨g, cap, cur, rfl, Nat.le_trans hB h1, rest⟩
theorem OwnI.blocks {B : Nat} {w w' : World} {v : Value} {l : List Int} (h : OwnI B w v l) (hb : ∀ c, v.ownBlock = some c → c < w.heap.size → w'.heap[c]? = w.heap[c]?) : OwnI B w' v l := by
  refine ⟨h.1, ?_⟩
  rcases h.2 with hn | ⟨g, cap, cur, rfl, h1, hg, rest⟩
  · exact .inl hn
  · exact .inr ⟨g, cap, cur, rfl, h1, (hb g rfl (Array.getElem?_eq_some_iff.1 hg).1).trans hg, rest⟩
theorem OwnI.below {B : Nat} {w w' : World} {v : Value} {l : List Int} (h : OwnI B w v l) (hb : Below w.heap.size w w') : OwnI B w' v l := h.blocks fun c _ hc => hb.block c hc
theorem OwnI.ints {B : Nat} {w : World} {v : Value} {l : List Int} (h : OwnI B w v l) : IntsIs w v l := IntsIs.own h
theorem OwnI.from {B : Nat} {w : World} {v : Value} {l : List Int} (h : OwnI B w v l) (c : Nat) (hc : v.ownBlock = some c) : B ≤ c := ownsRow_fromF h c hc

/-- two rows of unlike types, of which one grows -/
theorem own_beside {w w' : World} {B : Nat} {e1 e2 : TypeId} {s1 s2 : Nat} {v1 v2 : Value} {n1 n2 : Nat} {xs1 xs2 : List Value} (h1 : w.ownsRow B e1 s1 v1 n1 xs1) (h2 : w.ownsRow B e2 s2 v2 n2 xs2) (hne : e1 ≠ e2) (hg : w.grownBy w' v2.ownBlock) : w'.ownsRow B e1 s1 v1 n1 xs1 := by
  refine ⟨h1.1, ?_⟩
  rcases h1.2 with hn | ⟨g, cap, cur, rfl, hB, hg1, rest⟩
  · exact .inl hn
  · refine .inr ⟨g, cap, cur, rfl, hB, (hg.block g (Array.getElem?_eq_some_iff.1 hg1).1 ?_).trans hg1, rest⟩
    intro hc
    rcases h2.2 with ⟨rfl, _⟩ | ⟨g', cap', cur', rfl, _, hg2, _⟩
    · cases hc
    · have e : g = g' := Option.some.inj hc
      subst e
      rw [hg1] at hg2
      simp at hg2
      exact hne hg2.2
theorem wp_appRow {ops : Array Oper} {rest : List Oper} {o : Oper} {ac : Act} {Q : Exit → Act → World → Prop} (w : World) (hgd : o.guard = none) (s x : Operand)
    (ho : o.op = .call { callee := .builtin .append, args := #[s, x], argTypes := #[87, 87] }) (B : Nat) (v : Value) (out : List Int) (hs : ac.eval s = v)
    (hown : OwnI B w v out) (B2 : Nat) (u : Value) (more : List Int) (hx : ac.eval x = u) (hm : OwnI B2 w u more) (hl : out.length + more.length ≤ 100) (hB : B ≤ w.heap.size)
    (h : ∀ v' w', OwnI B w' v' (out ++ more) → Hid (w.grownBy w' v.ownBlock) → wpList Tryz.prog ops Q rest (ac.put o.dst v') w') : wpList Tryz.prog ops Q (o :: rest) ac w := by
  obtain ⟨i0, hi0, hz0, hz1, hz2⟩ := info_parts infoInt
  rcases hm.2 with ⟨rfl, h0⟩ | ⟨g, cap, cur, rfl, _, hg, hc1, hc2, hc3, hc4⟩
  · rw [List.length_eq_zero_iff.1 h0, List.append_nil] at h
    exact wpList_append_own_none hgd s x 87 ho B 3 i0 1 Tryz.underlying87 hi0 v out.length (intC out) hs hown hx (h v w hown ⟨rfl, rfl, rfl, Nat.le_refl _, fun _ _ _ => rfl⟩)
  · have q3 : ∀ u ∈ intC more, u.oneCell' = true := fun u hu => by
      obtain ⟨z, _, rfl⟩ := List.mem_map.1 hu
      rfl
    have q2 : ∀ (j : Nat) (u : Value), (intC more)[j]? = some u → w.cell? ((⟨g, 0, none⟩ : Addr).add j) = some u := fun j u hu => hm.cells (g := g) rfl j u hu
    refine wpList_append_own w hgd s x 87 ho B 3 i0 _ 1 8 Tryz.underlying87 hi0 hz0 hz1 hz2 rfl (by omega) v out.length (intC out) hs hown ⟨g, 0, none⟩ more.length cap (intC more) hx (by simp [intC]) q2 q3 (by unfold maxLen; omega) (by omega) hB ?_
    intro v' w' h1 h2 _
    refine h v' w' (show World.ownsRow _ _ _ _ _ _ _ from ?_) h2
    rw [intC_append, List.length_append]
    exact h1
end Go.Proofs.YtpcnfoaoajfhlabGreatDoor

namespace Go.Proofs.YtpcnfoaoajfhlabGreatDoor
set_option linter.unusedVariables false
set_option linter.unusedSimpArgs false
open Go.RowKit

/-- a row of words -/
def StrsIs (w : World) (v : Value) (bs : List ByteArray) : Prop := ∃ p cap, v = .slice p bs.length cap ∧ bs.length ≤ 9223372036854775807 ∧ (bs ≠ [] → ∃ b o, p = some ⟨b, o, none⟩ ∧ b < w.heap.size ∧ ∀ j (h : j < bs.length), w.cell? ⟨b, o + j, none⟩ = some (.string bs[j]) ∧ bs[j].size ≤ 9223372036854775807)
theorem StrsIs.below {w w' : World} {v : Value} {bs : List ByteArray} (h : StrsIs w v bs) (hb : Below w.heap.size w w') : StrsIs w' v bs := by
  obtain ⟨p, cap, rfl, h1, h2⟩ := h
  refine ⟨p, cap, rfl, h1, fun h0 => ?_⟩
  obtain ⟨b, o, rfl, hl, hc⟩ := h2 h0
  exact ⟨b, o, rfl, Nat.lt_of_lt_of_le hl hb.size, fun j hj => ⟨(World.cell?_of_block (a := ⟨b, o + j, none⟩) (hb.block b hl)).trans (hc j hj).1, (hc j hj).2⟩⟩
def wordL (b : ByteArray) : List UInt8 := b.data.toList
def numsL : List (List UInt8) → Option (List Nat)
  | [] => some []
  | w :: ws => match numL w with
    | none => none
    | some n => (numsL ws).map (n :: ·)
theorem numsL_bad {ws : List (List UInt8)} {j : Nat} (h : j < ws.length) (hb : numL ws[j] = none) : numsL ws = none := by
  induction ws generalizing j with
  | nil => simp at h
  | cons x ws ih =>
    unfold numsL
    cases j with
    | zero => rw [show numL x = none from hb]
    | succ j =>
      rw [ih (by simpa using h) (by simpa using hb)]
      cases numL x <;> rfl
theorem numsL_snoc {ws : List (List UInt8)} {w : List UInt8} {ns : List Nat} {n : Nat} (h : numsL ws = some ns) (hn : numL w = some n) : numsL (ws ++ [w]) = some (ns ++ [n]) := by
  induction ws generalizing ns with
  | nil =>
    obtain rfl := Option.some.inj h
    simp [numsL, hn]
  | cons x ws ih =>
    unfold numsL at h
    cases hx : numL x with
    | none => rw [hx] at h; cases h
    | some m =>
      rw [hx] at h
      cases hs : numsL ws with
      | none => rw [hs] at h; cases h
      | some ms =>
        rw [hs] at h
        obtain rfl := Option.some.inj h
        simp [numsL, hx, ih hs]
theorem numsL_len {ws : List (List UInt8)} {ns : List Nat} (h : numsL ws = some ns) : ns.length = ws.length := by
  induction ws generalizing ns with
  | nil => obtain rfl := Option.some.inj h; rfl
  | cons x ws ih =>
    unfold numsL at h
    cases hx : numL x with
    | none => rw [hx] at h; cases h
    | some m =>
      rw [hx] at h
      cases hs : numsL ws with
      | none => rw [hs] at h; cases h
      | some ms =>
        rw [hs] at h
        obtain rfl := Option.some.inj h
        simp [ih hs]
def natZ (ns : List Nat) : List Int := ns.map (fun (n : Nat) => (n : Int))
theorem old_cellT {w w' : World} {a : Addr} {v : Value} (hb : Below w.heap.size w w') (h : w.cell? a = some v) : w'.cell? a = some v := (hb.cell (p := a) (World.block_lt_of_cell? w a h)).trans h
/-- what readNumbers answers -/
def NumsTo (w : World) (o : Option (List Nat)) (e : Ending) (w' : World) : Prop := Below w.heap.size w w' ∧ match o with
  | some ns => ∃ v, e = .returned (.tuple #[v, .nilIface]) ∧ IntsIs w' v (natZ ns) ∧ ∀ g, v.ownBlock = some g → w.heap.size ≤ g
  | none => e = .returned (.tuple #[.slice none 0 0, badV])
set_option maxHeartbeats 8000000 in
theorem readNumbers_c (v : Value) (bs : List ByteArray) (w : World) (hb : bs.length ≤ 100) (h : StrsIs w v bs) :
    Calls Tryz.prog 48 #[v] w (NumsTo w (numsL (bs.map wordL))) := by
  obtain ⟨p, cap, rfl, hl, hrow⟩ := h
  have HRow : Hid (bs ≠ [] → ∃ b o, p = some ⟨b, o, none⟩ ∧ b < w.heap.size ∧ ∀ j (h : j < bs.length), w.cell? ⟨b, o + j, none⟩ = some (.string bs[j]) ∧ bs[j].size ≤ 9223372036854775807) := hrow
  obtain ⟨n, HN⟩ : ∃ n, Hid (bs.length = n) := ⟨_, rfl⟩
  obtain ⟨R, HR⟩ : ∃ R, Hid (numsL (bs.map wordL) = R) := ⟨_, rfl⟩
  rw [HN.out] at hb hl ⊢
  rw [HR.out]
  clear hrow
  go_enter Tryz.func48, Tryz.ntmps48
  go_wp2_with fail
  go_loopw [4, 11] (fun c4 c11 wr => ∃ (j : Nat) (ns : List Nat) (u : Value), j ≤ n ∧ c11 = .int .i64 j ∧ c4 = u ∧ Hid (numsL ((bs.map wordL).take j) = some ns) ∧ Hid (OwnI w.heap.size wr u (natZ ns)) ∧ Hid (Below w.heap.size w wr)) (fun _ c _ => n - (intOf c).toNat)
  case atStart => exact ⟨0, [], _, Nat.zero_le _, rfl, rfl, rfl, OwnI.nil _ _, Below.refl _ _⟩
  case round =>
    obtain ⟨j, ns, u, hj, rfl, h4, HNs, HO, HB⟩ := hrel
    have h4' := h4.symm
    subst h4'
    by_cases hlt : j < n
    · have hlti : (j : Int) < (n : Int) := by omega
      have hjl : j < bs.length := by rw [HN.out]; exact hlt
      obtain ⟨b, o, rfl, hbl, hcj⟩ := HRow.out (fun e => by rw [e] at hjl; exact absurd hjl (by simp))
      obtain ⟨cj, szj⟩ := hcj j hjl
      have HTk : Hid ((bs.map wordL).take (j + 1) = (bs.map wordL).take j ++ [wordL bs[j]]) := by
        show _ = _
        rw [List.take_add_one, List.getElem?_map, List.getElem?_eq_getElem hjl]
        rfl
      have HBad : Hid (numL (wordL bs[j]) = none → R = none) := fun h => by
        rw [← HR.out]
        exact numsL_bad (j := j) (by simpa using hjl) (by simpa using h)
      generalize bs[j] = s at cj szj HTk HBad
      have cj' := old_cellT HB.out cj
      have lb := World.block_lt_of_cell? wr _ cj'
      clear hcj cj hjl
      cases hq : numL (wordL s) with
      | none =>
        have hR : R = none := HBad.out hq
        have hcall : ∀ w', Calls Tryz.prog 76 #[.string s] w' fun e w2 => e = .returned (.tuple #[.int .i64 0, .iface 56 (.agg #[.int .i64 2])]) ∧ w2 = w' := fun w' => by
          have c := readNumber_c s w' szj
          rw [show numL s.data.toList = none from hq] at c
          exact c
        have HC : Hid _ := hcall
        clear hcall hq HBad
        subst hR
        go_wp2_with fail
        refine (HC.out _).mono ?_
        rintro e w2 ⟨rfl, hw⟩
        rw [hw]
        clear hw w2
        go_wp2_with fail
        go_ret2
        exact ⟨HB.out, rfl⟩
      | some x =>
        have hcall : ∀ w', Calls Tryz.prog 76 #[.string s] w' fun e w2 => e = .returned (.tuple #[.int .i64 x, .nilIface]) ∧ w2 = w' := fun w' => by
          have c := readNumber_c s w' szj
          rw [show numL s.data.toList = some x from hq] at c
          exact c
        have HC : Hid _ := hcall
        have HN2 : Hid (numsL ((bs.map wordL).take (j + 1)) = some (ns ++ [x])) := by
          show _ = _
          rw [HTk.out]
          exact numsL_snoc HNs.out hq
        have HLa : Hid ((natZ ns).length ≤ 100) := by
          have h1 := numsL_len HNs.out
          rw [List.length_take] at h1
          show _ ≤ _
          rw [natZ, List.length_map]
          omega
        have hws : w.heap.size ≤ wr.heap.size := HB.out.size
        have HBa : Hid (Below w.heap.size w (wr.alloc (.cells #[.int .i64 x] 3))) := HB.out.alloc hws _
        have HOa : Hid (OwnI w.heap.size (wr.alloc (.cells #[.int .i64 x] 3)) u (natZ ns)) := HO.out.below ((Below.refl _ _).alloc (Nat.le_refl _) _)
        have HVa : Hid ((wr.alloc (.cells #[.int .i64 x] 3)).heap[wr.heap.size]? = some (.cells #[.int .i64 x] 3 (0, 0))) := alloc_at _ _ _ rfl
        have HSa : Hid (w.heap.size ≤ (wr.alloc (.cells #[.int .i64 x] 3)).heap.size) := show _ ≤ _ from (by simp; omega)
        clear hcall hq HBad
        go_wp2_with fail
        refine (HC.out _).mono ?_
        rintro e w2 ⟨rfl, hw⟩
        rw [hw]
        clear hw w2
        go_wp2_with (at_builtin; refine wp_appI _ rfl _ _ rfl w.heap.size _ (natZ ns) (x : Int) rfl HOa.out _ rfl HVa.out HLa.out HSa.out ?_)
        intro va wa hown hgrow
        have HOp : Hid (OwnI w.heap.size wa va (natZ (ns ++ [x]))) := by
          have e : natZ (ns ++ [x]) = natZ ns ++ [(x : Int)] := by simp [natZ]
          show OwnI _ _ _ _
          rw [e]
          exact hown
        have HBp : Hid (Below w.heap.size w wa) := below_grownF HBa.out (Nat.le_refl _) hgrow.out (fun c hc => HO.out.from c hc)
        clear hown hgrow HBa HOa HVa HSa HLa
        go_wp2_with fail
        go_roundw
        case rel => exact ⟨j + 1, ns ++ [x], va, by omega, by go_num, rfl, HN2, HOp, HBp⟩
        case measure => simp [intOf]; omega
    · obtain rfl : j = n := by omega
      have hR : R = some ns := by
        have h1 := HNs.out
        rw [List.take_of_length_le (by rw [List.length_map, HN.out]; exact Nat.le_refl _)] at h1
        exact HR.out.symm.trans h1
      subst hR
      go_wp2_with fail
      go_ret2
      exact ⟨HB.out, _, rfl, HO.out.ints, fun g hg => HO.out.from g hg⟩
end Go.Proofs.YtpcnfoaoajfhlabGreatDoor
