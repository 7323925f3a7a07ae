/-
  A row of numbers, and one appended to it.
  What the document's Add builds, row by row (where a row's append is told elsewhere).
  Plain mathematics of a store's past: what was at a number stays; from its version on it is the same; ahead of it it is older; what is kept is right.
  A mesh on lists: what its caches have was so; what put, delete, get and swap leave of it.
-/
import Derived.Test.YtpcnfoaoajfhlaaGreatDoorMqag
import Derived.Deep.AppendLies
import Derived.Test.YtpcnfoaoajfhlaaGreatDoorMqah
import Derived.Test.YtpcnfoaoajfhlaaGreatDoorMqak
import Derived.Test.YtpcnfoaoajfhlaaGreatDoorMqae
namespace Go.Proofs.YtpcnfoaoajfhlaaGreatDoor
set_option linter.unusedVariables false
set_option linter.unusedSimpArgs false
set_option linter.unusedVariables false
set_option linter.unusedSimpArgs false
open Go.RowKit

/-- a slice that holds a row of numbers -/
def IntsIs (w : World) (v : Value) (l : List Int) : Prop :=
  l.length ≤ maxLen ∧ ∃ p cap, v = .slice p l.length cap ∧ (l ≠ [] → ∃ b o, p = some ⟨b, o, none⟩ ∧ b < w.heap.size ∧ ∀ j (h : j < l.length), w.cell? ⟨b, o + j, none⟩ = some (.int .i64 l[j]))
theorem IntsIs.blocks {w w' : World} {v : Value} {l : List Int} (h : IntsIs w v l) (hs : w.heap.size ≤ w'.heap.size) (hb : ∀ c, v.ownBlock = some c → c < w.heap.size → w'.heap[c]? = w.heap[c]?) : IntsIs w' v l := by
  obtain ⟨h0, p, cap, rfl, h1⟩ := h
  refine ⟨h0, p, cap, rfl, fun hn => ?_⟩
  obtain ⟨b, o, rfl, hlt, hc⟩ := h1 hn
  exact ⟨b, o, rfl, Nat.lt_of_lt_of_le hlt hs, fun j hj => (World.cell?_of_block (a := ⟨b, o + j, none⟩) (hb b rfl hlt)).trans (hc j hj)⟩
theorem IntsIs.below {w w' : World} {v : Value} {l : List Int} (h : IntsIs w v l) (hb : Below w.heap.size w w') : IntsIs w' v l :=
  h.blocks hb.size (fun c _ hc => hb.block c hc)
theorem IntsIs.nil (w : World) : IntsIs w (.slice none 0 0) [] := ⟨by simp, none, 0, rfl, fun h => absurd rfl h⟩
def intC (l : List Int) : List Value := l.map (Value.int .i64)
theorem IntsIs.own {w : World} {B : Nat} {v : Value} {l : List Int} (h : w.ownsRow B 3 1 v l.length (intC l)) : IntsIs w v l := by
  have hcell : ∀ g, v.ownBlock = some g → ∀ j u, (intC l)[j]? = some u → w.cell? ⟨g, j, none⟩ = some u := fun g hg j u hu => by
    have := h.cells (g := g) hg j u hu
    simpa [Addr.add_lit] using this
  rcases h.2 with ⟨rfl, h0⟩ | ⟨g, cap, cur, rfl, _, hg, hc1, hc2, _⟩
  · rw [List.length_eq_zero_iff.1 h0]
    exact IntsIs.nil w
  · refine ⟨Nat.le_trans hc1 hc2, _, cap, rfl, fun _ => ⟨g, 0, rfl, (Array.getElem?_eq_some_iff.1 hg).1, fun j hj => ?_⟩⟩
    have := hcell g rfl j (.int .i64 l[j]) (by simp [intC, List.getElem?_map, hj])
    simpa using this
theorem infoInt : (Tryz.prog.info? 3).map (fun i => (i.zero, i.size, i.bytes)) = some (some (.int .i64 0), 1, 8) := by kernel_rfl

theorem ownsRow_belowF {w w' : World} {B : Nat} {e : TypeId} {size : Nat} {v : Value} {n : Nat} {xs : List Value} (h : w.ownsRow B e size v n xs) (hb : Below w.heap.size w w') : w'.ownsRow B e size v n xs := by
  refine ⟨h.1, ?_⟩
  rcases h.2 with hn | ⟨g, cap, cur, rfl, h1, hg, rest⟩
  · exact .inl hn
  · exact .inr ⟨g, cap, cur, rfl, h1, (hb.block g (Array.getElem?_eq_some_iff.1 hg).1).trans hg, rest⟩
theorem ownsRow_fromF {w : World} {B : Nat} {e : TypeId} {size : Nat} {v : Value} {n : Nat} {xs : List Value} (h : w.ownsRow B e size v n xs) (c : Nat) (hc : v.ownBlock = some c) : B ≤ c := by
  rcases h.2 with ⟨rfl, _⟩ | ⟨g', cap, cur, rfl, h1, _⟩
  · cases hc
  · obtain rfl : g' = c := by simpa [Value.ownBlock] using hc
    exact h1
theorem below_grownF {B : Nat} {w w1 w' : World} {v : Value} (h : Below B w w1) (hB : B ≤ w.heap.size) (hg : w1.grownBy w' v.ownBlock) (hv : ∀ c, v.ownBlock = some c → B ≤ c) : Below B w w' :=
  h.trans ⟨hg.os, hg.tape, hg.output, hg.size, fun c hc => hg.block c (Nat.lt_of_lt_of_le hc (Nat.le_trans hB h.size)) (fun e => by have := hv c e.symm; omega)⟩
theorem intC_append (l m : List Int) : intC (l ++ m) = intC l ++ intC m := by simp [intC]
/-- a row of the call's own that holds numbers and one more -/
def OwnedMoreI (B : Nat) (w : World) (v : Value) (out : List Int) (e : Int) : Prop := w.ownsRow B 3 1 v (out ++ [e]).length (intC (out ++ [e]))
theorem wp_appI {ops : Array Oper} {rest : List Oper} {o : Oper} {ac : Act} {Q : Exit → Act → World → Prop} (w : World) (hgd : o.guard = none) (s x : Operand)
    (ho : o.op = .call { callee := .builtin .append, args := #[s, x], argTypes := #[39, 39] }) (B : Nat) (v : Value) (out : List Int) (e : Int) (hs : ac.eval s = v)
    (hown : w.ownsRow B 3 1 v out.length (intC out)) (vb : Nat) (hx : ac.eval x = .slice (some ⟨vb, 0, none⟩) 1 1) (hv : w.heap[vb]? = some (.cells #[.int .i64 e] 3 (0, 0))) (hl : out.length ≤ 100) (hB : B ≤ w.heap.size)
    (h : ∀ v' w', OwnedMoreI B w' v' out e → Hid (w.grownBy w' v.ownBlock) → wpList Tryz.prog ops Q rest (ac.put o.dst v') w') : wpList Tryz.prog ops Q (o :: rest) ac w := by
  obtain ⟨i0, hi0, hz0, hz1, hz2⟩ := info_parts infoInt
  have q3 : ∀ (u : Value), u ∈ [Value.int .i64 e] → u.oneCell' = true := fun u hu => by simp at hu; subst hu; rfl
  have q2 : ∀ (j : Nat) (u : Value), [Value.int .i64 e][j]? = some u → w.cell? ((⟨vb, 0, none⟩ : Addr).add j) = some u := World.news_of_block hv
  refine wpList_append_own w hgd s x 39 ho B 3 i0 _ 1 8 Tryz.underlying39 hi0 hz0 hz1 hz2 rfl (by omega) v out.length (intC out) hs hown ⟨vb, 0, none⟩ 1 1 [.int .i64 e] hx rfl q2 q3 (by unfold maxLen; omega) (by omega) hB ?_
  intro v' w' h1 h2 _
  refine h v' w' (show World.ownsRow _ _ _ _ _ _ _ from ?_) h2
  have hr : intC (out ++ [e]) = intC out ++ [.int .i64 e] := by simp [intC]
  rw [hr, List.length_append]
  exact h1
/-- a row of the call's own that holds entries and one more -/
def OwnedMore (B : Nat) (w : World) (v : Value) (out : List En) (e : En) : Prop := w.ownsRow B 46 5 v (out ++ [e]).length (rowC (out ++ [e]))
theorem wp_app {ops : Array Oper} {rest : List Oper} {o : Oper} {ac : Act} {Q : Exit → Act → World → Prop} (w : World) (hgd : o.guard = none) (s x : Operand)
    (ho : o.op = .call { callee := .builtin .append, args := #[s, x], argTypes := #[32, 32] }) (B : Nat) (v : Value) (out : List En) (e : En) (hs : ac.eval s = v)
    (hown : w.ownsRow B 46 5 v out.length (rowC out)) (vb : Nat) (hx : ac.eval x = .slice (some ⟨vb, 0, none⟩) 1 1) (hv : w.heap[vb]? = some (.cells e.cells.toArray 46 (0, 0))) (hl : out.length ≤ 100) (hB : B ≤ w.heap.size)
    (h : ∀ v' w', OwnedMore B w' v' out e → Hid (w.grownBy w' v.ownBlock) → wpList Tryz.prog ops Q rest (ac.put o.dst v') w') : wpList Tryz.prog ops Q (o :: rest) ac w := by
  obtain ⟨i0, hi0, hz0, hz1, hz2⟩ := info_parts infoEn
  have q3 : ∀ (u : Value), u ∈ e.cells → u.oneCell' = true := fun u hu => rowC_one [e] u (by simpa [rowC] using hu)
  refine wpList_append_own w hgd s x 32 ho B 46 i0 _ 5 48 Tryz.underlying32 hi0 hz0 hz1 hz2 rfl (by omega) v out.length (rowC out) hs hown ⟨vb, 0, none⟩ 1 1 e.cells hx rfl (World.news_of_block hv) q3 (by unfold maxLen; omega) (by omega) hB ?_
  intro v' w' h1 h2 _
  refine h v' w' (show World.ownsRow _ _ _ _ _ _ _ from ?_) h2
  have hr : rowC (out ++ [e]) = rowC out ++ e.cells := by rw [rowC_append]; simp [rowC]
  rw [hr, List.length_append]
  exact h1
end Go.Proofs.YtpcnfoaoajfhlaaGreatDoor

namespace Go.Proofs.YtpcnfoaoajfhlaaGreatDoor
set_option linter.unusedVariables false
set_option linter.unusedSimpArgs false
open Go.RowKit

/-- what is there behind j entries: m are less, d are left out -/
def outE (l : List En) (m d : Nat) (e : En) (j : Nat) : List En := if j ≤ m then l.take j else l.take m ++ e :: (l.take j).drop (m + d)
theorem outE_zero (l : List En) (m d : Nat) (e : En) : outE l m d e 0 = [] := by simp [outE]
theorem outE_less {l : List En} {m d j : Nat} {e : En} (h : j < m) (hj : j < l.length) : outE l m d e (j + 1) = outE l m d e j ++ [l[j]] := by
  rw [outE, if_pos (by omega), outE, if_pos (by omega), List.take_succ_eq_append_getElem hj]
theorem outE_at0 {l : List En} {m : Nat} {e : En} (hj : m < l.length) : outE l m 0 e (m + 1) = (outE l m 0 e m ++ [e]) ++ [l[m]] := by
  rw [outE, if_neg (by omega), outE, if_pos (by omega), List.take_succ_eq_append_getElem hj, Nat.add_zero, List.drop_append_of_le_length (by simp; omega), List.drop_take]
  simp
theorem outE_at1 {l : List En} {m : Nat} {e : En} (hj : m < l.length) : outE l m 1 e (m + 1) = outE l m 1 e m ++ [e] := by
  rw [outE, if_neg (by omega), outE, if_pos (by omega), List.drop_take]
  simp
theorem outE_more {l : List En} {m d j : Nat} {e : En} (h : m < j) (hd : d ≤ 1) (hj : j < l.length) : outE l m d e (j + 1) = outE l m d e j ++ [l[j]] := by
  rw [outE, if_neg (by omega), outE, if_neg (by omega), List.take_succ_eq_append_getElem hj, List.drop_append_of_le_length (by simp; omega)]
  simp
theorem outE_len {l : List En} {m d j : Nat} {e : En} (h8 : l.length ≤ 8) : (outE l m d e j).length ≤ 20 := by
  unfold outE
  split
  · simp; omega
  · simp; omega
theorem outE_end {l : List En} {m d : Nat} {e : En} (hm : m < l.length) : outE l m d e l.length = l.take m ++ e :: l.drop (m + d) := by
  rw [outE, if_neg (by omega), List.take_length]
theorem outE_all {l : List En} {m d : Nat} {e : En} (hm : m = l.length) : outE l m d e l.length = l := by
  rw [outE, if_pos (by omega), List.take_length]
end Go.Proofs.YtpcnfoaoajfhlaaGreatDoor

namespace Go.Proofs.YtpcnfoaoajfhlaaGreatDoor
set_option linter.unusedVariables false
set_option linter.unusedSimpArgs false

theorem lastOf_ver (l : List Deed) (k : Int) : 0 ≤ (lastOf l k).ver ∧ (lastOf l k).ver ≤ l.length := by
  obtain ⟨r, rfl⟩ : ∃ r, l = List.reverse r := ⟨l.reverse, by simp⟩
  induction r with
  | nil => simp [lastOf, lastFrom, none0]
  | cons d r ih =>
    rw [List.reverse_cons, lastOf_snoc]
    simp only [List.length_append, List.length_cons, List.length_nil]
    split
    · simp only []; omega
    · omega
theorem lastOf_take_ver (l : List Deed) (k : Int) (s : Nat) : 0 ≤ (lastOf (l.take s) k).ver ∧ (lastOf (l.take s) k).ver ≤ s := by
  have h := lastOf_ver (l.take s) k
  have : (l.take s).length ≤ s := List.length_take_le _ _
  omega
/-- from its version on, up to its time, each time tells the same -/
theorem lastOf_between (l : List Deed) (k : Int) (s q : Nat) (hs : s ≤ l.length) (h1 : (lastOf (l.take s) k).ver ≤ q) (h2 : q ≤ s) : lastOf (l.take q) k = lastOf (l.take s) k := by
  induction s with
  | zero => obtain rfl : q = 0 := by omega
            rfl
  | succ s ih =>
    have hlt : s < l.length := by omega
    by_cases hq : q = s + 1
    · rw [hq]
    · by_cases hk : l[s].key = k
      · rw [lastOf_take_hit l k s hlt hk] at h1
        simp only [] at h1
        omega
      · rw [lastOf_take_miss l k s hlt hk] at h1 ⊢
        exact ih (by omega) h1 (by omega)
/-- what was at a number is the same whatever is done later -/
theorem lastOf_later (l m : List Deed) (k : Int) (s : Nat) (hs : s ≤ l.length) : lastOf ((l ++ m).take s) k = lastOf (l.take s) k := by
  rw [List.take_append_of_le_length hs]

/-- what is right: texts of at most 12 bytes, of what is gone none -/
def GoodD (d : Deed) : Prop := d.text.size ≤ 12 ∧ (d.gone = true → d.text = ByteArray.empty)
def Good (l : List Deed) : Prop := ∀ d ∈ l, GoodD d
theorem lastFrom_good (k : Int) (l : List Deed) (h : Good l) (n : Nat) (c : Chg) (hc : c.text.size ≤ 12 ∧ (c.gone = true → c.text = ByteArray.empty)) :
    (lastFrom k n l c).text.size ≤ 12 ∧ ((lastFrom k n l c).gone = true → (lastFrom k n l c).text = ByteArray.empty) := by
  induction l generalizing n c with
  | nil => exact hc
  | cons d l ih =>
    simp only [lastFrom]
    refine ih (fun x hx => h x (List.mem_cons_of_mem _ hx)) _ _ ?_
    split
    · exact h d List.mem_cons_self
    · exact hc
theorem lastOf_good (k : Int) (l : List Deed) (h : Good l) : (lastOf l k).text.size ≤ 12 ∧ ((lastOf l k).gone = true → (lastOf l k).text = ByteArray.empty) :=
  lastFrom_good k l h 0 none0 ⟨by decide, fun _ => rfl⟩
theorem good_take (l : List Deed) (h : Good l) (s : Nat) : Good (l.take s) := fun d hd => h d (List.mem_of_mem_take hd)
theorem good_rec (l : List Deed) (k : Int) (g : Bool) (t : ByteArray) (h : Good l) (hd : GoodD ⟨k, g, t⟩) : Good (recO l k g t).done := by
  unfold recO
  split
  · exact h
  · intro d hm
    rcases List.mem_append.1 hm with h1 | h1
    · exact h d h1
    · rw [List.mem_singleton.1 h1]; exact hd
theorem good_put (l : List Deed) (k : Int) (t : ByteArray) (h : Good l) : Good (putO l k t).done := by
  unfold putO
  split
  · exact h
  · split
    · exact h
    · rename_i h12
      exact good_rec l k false t h ⟨by simp only []; omega, fun e => by cases e⟩
theorem good_del (l : List Deed) (k : Int) (h : Good l) : Good (delO l k).done := by
  unfold delO
  split
  · exact h
  · split
    · exact h
    · exact good_rec l k true ByteArray.empty h ⟨show ByteArray.empty.size ≤ 12 by decide, fun _ => rfl⟩
theorem rec_grows (l : List Deed) (k : Int) (g : Bool) (t : ByteArray) : ∃ m, (recO l k g t).done = l ++ m := by
  unfold recO
  split
  · exact ⟨[], by simp⟩
  · exact ⟨_, rfl⟩
theorem put_grows (l : List Deed) (k : Int) (t : ByteArray) : ∃ m, (putO l k t).done = l ++ m := by
  unfold putO
  split
  · exact ⟨[], by simp⟩
  · split
    · exact ⟨[], by simp⟩
    · exact rec_grows l k false t
theorem del_grows (l : List Deed) (k : Int) : ∃ m, (delO l k).done = l ++ m := by
  unfold delO
  split
  · exact ⟨[], by simp⟩
  · split
    · exact ⟨[], by simp⟩
    · exact rec_grows l k true ByteArray.empty
end Go.Proofs.YtpcnfoaoajfhlaaGreatDoor

namespace Go.Proofs.YtpcnfoaoajfhlaaGreatDoor
set_option linter.unusedVariables false
set_option linter.unusedSimpArgs false
open Go.RowKit

/-- what the store tells of a key at a number -/
def wasE (l : List Deed) (k : Int) (s : Nat) : En := ⟨k, (lastOf (l.take s) k).ver, s, (lastOf (l.take s) k).gone, (lastOf (l.take s) k).text⟩
/-- it was so -/
def Was (l : List Deed) (x : En) : Prop := stK x.k = true ∧ ∃ s : Nat, s ≤ l.length ∧ x = wasE l x.k s
theorem was_mk {l : List Deed} {k : Int} {s : Nat} (hk : stK k = true) (hs : s ≤ l.length) : Was l (wasE l k s) := ⟨hk, s, hs, rfl⟩
theorem wasE_bad {l : List Deed} {k : Int} {s : Nat} (hl : Good l) (h1 : l.length ≤ 1000) (hk : stK k = true) (hs : s ≤ l.length) : (wasE l k s).bad = 0 := by
  have hv := lastOf_take_ver l k s
  obtain ⟨hg1, hg2⟩ := lastOf_good k (l.take s) (good_take l hl s)
  rw [stK_iff] at hk
  unfold En.bad wasE
  refine bad_none ?_ (by dsimp only; omega) ?_
  · simp [inR]
    omega
  · dsimp only
    cases hg : (lastOf (l.take s) k).gone
    · rfl
    · rw [hg2 hg, ByteArray.toList_eq]
      rfl
theorem Was.bad {l : List Deed} {x : En} (h : Was l x) (hl : Good l) (h1 : l.length ≤ 1000) : x.bad = 0 := by
  obtain ⟨hk, s, hs, he⟩ := h
  rw [he]
  exact wasE_bad hl h1 hk hs
theorem wasE_later {l m : List Deed} {k : Int} {s : Nat} (hs : s ≤ l.length) : wasE (l ++ m) k s = wasE l k s := by
  unfold wasE
  rw [lastOf_later l m k s hs]
theorem Was.later {l : List Deed} {x : En} (h : Was l x) (m : List Deed) : Was (l ++ m) x := by
  obtain ⟨hk, s, hs, he⟩ := h
  exact ⟨hk, s, by rw [List.length_append]; omega, by rw [wasE_later hs]; exact he⟩
theorem was_known {l : List Deed} (k : Int) {s q : Nat} (hq : q ≤ l.length) (h : s ≤ q) : Known (wasE l k s) (wasE l k q) (wasE l k q) := by
  refine ⟨rfl, ?_⟩
  by_cases hv : (lastOf (l.take q) k).ver ≤ s
  · have e := lastOf_between l k q s hq hv h
    refine .inr (.inl ⟨?_, ?_, ?_, ?_, rfl⟩)
    · show (lastOf (l.take s) k).ver = _; rw [e]; rfl
    · show (lastOf (l.take s) k).gone = _; rw [e]; rfl
    · show (lastOf (l.take s) k).text = _; rw [e]; rfl
    · show (s : Int) ≤ (q : Int); omega
  · have hs := lastOf_take_ver l k s
    refine .inr (.inr (.inr ⟨?_, ?_, rfl⟩))
    · show (lastOf (l.take s) k).ver < (lastOf (l.take q) k).ver; omega
    · show (s : Int) < (lastOf (l.take q) k).ver; omega
/-- two that were so do not clash -/
theorem was_join {l : List Deed} {x y : En} (hl : Good l) (h1 : l.length ≤ 1000) (hx : Was l x) (hy : Was l y) (hk : x.k = y.k) : ∃ z, joinE x y = (z, 0) ∧ Was l z ∧ (z = x ∨ z = y) ∧ x.a ≤ z.a ∧ y.a ≤ z.a := by
  have bx := hx.bad hl h1
  have bY := hy.bad hl h1
  have hx' := hx
  have hy' := hy
  obtain ⟨_, s, hs, ex⟩ := hx
  obtain ⟨_, q, hq, ey⟩ := hy
  rw [← hk] at ey
  rcases Nat.le_total s q with h | h
  · have K := was_known (l := l) x.k hq h
    rw [← ex, ← ey] at K
    refine ⟨y, joinE_iff.2 ⟨bx, bY, K⟩, hy', .inr rfl, ?_, Int.le_refl _⟩
    rw [ex, ey]
    show (s : Int) ≤ (q : Int)
    omega
  · have K := was_known (l := l) x.k hs h
    rw [← ex, ← ey] at K
    have K2 : Known x y x := K.comm
    refine ⟨x, joinE_iff.2 ⟨bx, bY, K2⟩, hx', .inl rfl, Int.le_refl _, ?_⟩
    rw [ex, ey]
    show (q : Int) ≤ (s : Int)
    omega
/-- a cache of what was so -/
structure GoodC (l : List Deed) (c : List En) : Prop where
  good : GoodL c
  was : ∀ x ∈ c, Was l x
theorem goodC_nil (l : List Deed) : GoodC l [] := ⟨goodL_nil, by simp⟩
theorem GoodC.later {l : List Deed} {c : List En} (h : GoodC l c) (m : List Deed) : GoodC (l ++ m) c := ⟨h.good, fun x hx => (h.was x hx).later m⟩
theorem put_was {l : List Deed} {c : List En} {e : En} (hl : Good l) (h1 : l.length ≤ 1000) (hc : GoodC l c) (he : Was l e) : (putE c e).2.2 = 0 ∧ GoodC l (putE c e).1 ∧ ∃ z, getE (putE c e).1 e.k = some z ∧ e.a ≤ z.a := by
  have be := he.bad hl h1
  have h0 : (putE c e).2.2 = 0 ∧ ∃ z, (match getE c e.k with | none => some e | some a => some (joinE a e).1) = some z ∧ Was l z ∧ e.a ≤ z.a := by
    unfold putE
    cases hg : getE c e.k with
    | none => exact ⟨rfl, e, rfl, he, Int.le_refl _⟩
    | some a =>
      have ha := (getE_iff hc.good.rise).1 hg
      obtain ⟨z, hz, hw, _, _, hle⟩ := was_join hl h1 (hc.was a ha.1) he ha.2
      refine ⟨by simp [hz], z, by simp [hz], hw, hle⟩
  obtain ⟨hz, z, hm, hw, hle⟩ := h0
  have hg' := putE_good hc.good be hz
  have hget := getE_put hc.good be hz
  refine ⟨hz, ⟨hg', fun x hx => ?_⟩, z, ?_, hle⟩
  · have hx' : getE (putE c e).1 x.k = some x := (getE_iff hg'.rise).2 ⟨hx, rfl⟩
    rw [hget] at hx'
    split at hx'
    · exact Option.some.inj (hm.symm.trans hx') ▸ hw
    · exact hc.was x ((getE_iff hc.good.rise).1 hx').1
  · rw [hget, if_pos rfl]
    exact hm
theorem all_was {l : List Deed} {c b : List En} (hl : Good l) (h1 : l.length ≤ 1000) (hc : GoodC l c) (hb : ∀ e ∈ b, Was l e) : ∃ x, allE c b = (x, 0) ∧ GoodC l x := by
  induction b generalizing c with
  | nil => exact ⟨c, rfl, hc⟩
  | cons e b ih =>
    obtain ⟨p1, p2, _⟩ := put_was hl h1 hc (hb e List.mem_cons_self)
    rw [allE, if_neg (by simpa using p1)]
    exact ih p2 (fun x hx => hb x (List.mem_cons_of_mem _ hx))
/-- all that a mesh has was so -/
structure GoodM (l : List Deed) (cs : List (List En)) : Prop where
  good : Good l
  len : l.length ≤ 1000
  all : ∀ c ∈ cs, GoodC l c
theorem goodM_new (n : Nat) : GoodM [] (List.replicate n []) := ⟨by intro d hd; simp at hd, by simp, fun c hc => by rw [List.eq_of_mem_replicate hc]; exact goodC_nil _⟩
def cacheN (cs : List (List En)) (node : Int) : List En := cs.getD node.toNat []
theorem GoodM.at {l : List Deed} {cs : List (List En)} (h : GoodM l cs) (node : Int) : GoodC l (cacheN cs node) := by
  unfold cacheN
  rw [List.getD_eq_getElem?_getD]
  cases hq : cs[node.toNat]? with
  | none => exact goodC_nil _
  | some c => exact h.all c (List.mem_of_getElem? hq)
theorem GoodM.set {l : List Deed} {cs : List (List En)} (h : GoodM l cs) (n : Nat) {c : List En} (hc : GoodC l c) : GoodM l (cs.set n c) :=
  ⟨h.good, h.len, fun x hx => by
    rcases List.mem_or_eq_of_mem_set hx with h' | h'
    · exact h.all x h'
    · rw [h']; exact hc⟩
theorem GoodM.later {l : List Deed} {cs : List (List En)} (h : GoodM l cs) {m : List Deed} (hg : Good (l ++ m)) (h1 : (l ++ m).length ≤ 1000) : GoodM (l ++ m) cs :=
  ⟨hg, h1, fun c hc => (h.all c hc).later m⟩

def nodeB (n : Nat) (node : Int) : Bool := decide (0 ≤ node) && decide (node < n)
theorem nodeB_iff {n : Nat} {node : Int} : nodeB n node = true ↔ 0 ≤ node ∧ node < n := by simp [nodeB]
/-- what a node's cache has when it has heard of a key -/
def learnC (l : List Deed) (c : List En) (key : Int) : List En := (putE c (wasE l key l.length)).1
def learnM (l : List Deed) (cs : List (List En)) (node key : Int) : List (List En) := cs.set node.toNat (learnC l (cacheN cs node) key)
/-- what put and delete leave -/
structure MOut where
  done : List Deed
  cs : List (List En)
  num : Int
  err : Int
def mDone (o : Out) (l : List Deed) (cs : List (List En)) (node key : Int) : MOut :=
  if nodeB cs.length node = false then ⟨l, cs, 0, 1⟩ else if o.err ≠ 0 then ⟨l, cs, 0, o.err⟩ else ⟨o.done, learnM o.done cs node key, o.num, 0⟩
def mPut (l : List Deed) (cs : List (List En)) (node key : Int) (t : ByteArray) : MOut := mDone (putO l key t) l cs node key
def mDel (l : List Deed) (cs : List (List En)) (node key : Int) : MOut := mDone (delO l key) l cs node key
theorem rec_fine {l : List Deed} {k : Int} {g : Bool} {t : ByteArray} (h : (recO l k g t).err = 0) : l.length < 1000 ∧ recO l k g t = ⟨l ++ [⟨k, g, t⟩], (l.length : Int) + 1, 0⟩ := by
  unfold recO at h ⊢
  split at h
  · cases h
  · rename_i hn
    exact ⟨by omega, by rw [if_neg hn]⟩
theorem put_fine {l : List Deed} {k : Int} {t : ByteArray} (h : (putO l k t).err = 0) : stK k = true ∧ t.size ≤ 12 ∧ l.length < 1000 ∧ putO l k t = ⟨l ++ [⟨k, false, t⟩], (l.length : Int) + 1, 0⟩ := by
  unfold putO at h ⊢
  split at h
  · cases h
  · rename_i hk
    split at h
    · cases h
    · rename_i h12
      rw [if_neg hk, if_neg h12]
      obtain ⟨h1, h2⟩ := rec_fine h
      exact ⟨by simpa using hk, by omega, h1, h2⟩
theorem del_fine {l : List Deed} {k : Int} (h : (delO l k).err = 0) : stK k = true ∧ l.length < 1000 ∧ delO l k = ⟨l ++ [⟨k, true, ByteArray.empty⟩], (l.length : Int) + 1, 0⟩ := by
  unfold delO at h ⊢
  split at h
  · cases h
  · rename_i hk
    split at h
    · cases h
    · rename_i hg
      rw [if_neg hk, if_neg hg]
      obtain ⟨h1, h2⟩ := rec_fine h
      exact ⟨by simpa using hk, h1, h2⟩
theorem learnC_good {l : List Deed} {c : List En} {key : Int} (hl : Good l) (h1 : l.length ≤ 1000) (hc : GoodC l c) (hk : stK key = true) : GoodC l (learnC l c key) := (put_was hl h1 hc (was_mk hk (Nat.le_refl _))).2.1
theorem learnC_add {l : List Deed} {c : List En} {key : Int} (hl : Good l) (h1 : l.length ≤ 1000) (hc : GoodC l c) (hk : stK key = true) : ∃ b, cacheAdd c (wasE l key l.length) = (learnC l c key, b, 0) := by
  have hw := was_mk hk (Nat.le_refl l.length)
  refine ⟨(putE c (wasE l key l.length)).2.1, ?_⟩
  rw [cacheAdd, if_neg (by simpa using hc.good.bad), if_neg (by simpa using hw.bad hl h1)]
  exact Prod.ext rfl (Prod.ext rfl (put_was hl h1 hc hw).1)
theorem GoodM.learn {l : List Deed} {cs : List (List En)} (h : GoodM l cs) (node : Int) {key : Int} (hk : stK key = true) : GoodM l (learnM l cs node key) :=
  h.set _ (learnC_good h.good h.len (h.at node) hk)
theorem mPut_good {l : List Deed} {cs : List (List En)} (h : GoodM l cs) (node key : Int) (t : ByteArray) : GoodM (mPut l cs node key t).done (mPut l cs node key t).cs := by
  unfold mPut mDone
  split
  · exact h
  · split
    · exact h
    · rename_i h0
      have h0 : (putO l key t).err = 0 := by simpa using h0
      obtain ⟨h1, h2, h3, h4⟩ := put_fine h0
      have hg := good_put l key t h.good
      rw [h4] at hg ⊢
      exact (h.later hg (by simp; omega)).learn node h1
theorem mDel_good {l : List Deed} {cs : List (List En)} (h : GoodM l cs) (node key : Int) : GoodM (mDel l cs node key).done (mDel l cs node key).cs := by
  unfold mDel mDone
  split
  · exact h
  · split
    · exact h
    · rename_i h0
      have h0 : (delO l key).err = 0 := by simpa using h0
      obtain ⟨h1, h3, h4⟩ := del_fine h0
      have hg := good_del l key h.good
      rw [h4] at hg ⊢
      exact (h.later hg (by simp; omega)).learn node h1
theorem learnM_len (l : List Deed) (cs : List (List En)) (node key : Int) : (learnM l cs node key).length = cs.length := by simp [learnM]
theorem mDone_len (o : Out) (l : List Deed) (cs : List (List En)) (node key : Int) : (mDone o l cs node key).cs.length = cs.length := by
  unfold mDone
  split
  · rfl
  · split
    · rfl
    · exact learnM_len _ _ _ _
/-- what get leaves: the caches, the entry, was it of the cache, the fault -/
def mGet (l : List Deed) (cs : List (List En)) (node key floor : Int) : List (List En) × En × Bool × Int :=
  if nodeB cs.length node = false ∨ stK key = false ∨ floor < 0 ∨ (l.length : Int) < floor then (cs, ⟨0, 0, 0, false, ⟨#[]⟩⟩, false, 1)
  else match getE (cacheN cs node) key with
    | some x => if floor ≤ x.a then (cs, x, true, 0) else (learnM l cs node key, wasE l key l.length, false, 0)
    | none => (learnM l cs node key, wasE l key l.length, false, 0)
theorem mGet_good {l : List Deed} {cs : List (List En)} (h : GoodM l cs) (node key floor : Int) : GoodM l (mGet l cs node key floor).1 := by
  unfold mGet
  split
  · exact h
  · rename_i hn
    have hk : stK key = true := by
      cases e : stK key
      · exact absurd (.inr (.inl e)) hn
      · rfl
    split
    · split
      · exact h
      · exact h.learn node hk
    · exact h.learn node hk
theorem mGet_len (l : List Deed) (cs : List (List En)) (node key floor : Int) : (mGet l cs node key floor).1.length = cs.length := by
  unfold mGet
  split
  · rfl
  · split
    · split
      · rfl
      · exact learnM_len _ _ _ _
    · exact learnM_len _ _ _ _
end Go.Proofs.YtpcnfoaoajfhlaaGreatDoor
