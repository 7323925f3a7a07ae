/-
  Mail beside a mesh: all that lies in its letters was so.
-/
import Derived.Test.YtbincnajklmnaaaTpO
import Derived.Test.YtbincnajklmnaaaMKe
namespace Go.Proofs.Ytbincnajklmnaaa
set_option linter.unusedVariables false
set_option linter.unusedSimpArgs false
open Go.RowKit

theorem Kept.turn {S : Nat → Prop} {w w' : World} (h : Kept S w w') : Turn S w w' := ⟨h.os, h.tape, h.output, h.size, h.block⟩
/-- a mesh at m and mail at b, apart from each other and from the blocks in P; nothing older than N has turned -/
structure Jm (P : Nat → Prop) (N : Nat) (w0 wc : World) (m b : Nat) (l : List Deed) (cs : List (List En)) (ls : List Lt) (q : Nat → Nat → Bool) : Prop where
  s : ∃ S T, MeshAt S wc m l cs ∧ MlAt T wc b ls q ∧ (∀ c, S c → N ≤ c ∧ ¬ P c ∧ ¬ T c) ∧ (∀ c, T c → N ≤ c ∧ ¬ P c)
  bel : Below N w0 wc
  hN : N ≤ wc.heap.size
  hP : ∀ c, P c → c < wc.heap.size
theorem Jm.grown {P : Nat → Prop} {N : Nat} {w0 wc w' : World} {m b : Nat} {l : List Deed} {cs : List (List En)} {ls : List Lt} {q : Nat → Nat → Bool} (h : Jm P N w0 wc m b l cs ls q) (hb : Below wc.heap.size wc w') : Jm P N w0 w' m b l cs ls q := by
  obtain ⟨S, T, h1, h2, h3, h4⟩ := h.s
  exact ⟨⟨S, T, h1.grown hb, h2.grown hb, h3, h4⟩, h.bel.trans (hb.mono h.hN), Nat.le_trans h.hN hb.size, fun c hc => Nat.lt_of_lt_of_le (h.hP c hc) hb.size⟩
theorem Jm.less {P P' : Nat → Prop} {N : Nat} {w0 wc : World} {m b : Nat} {l : List Deed} {cs : List (List En)} {ls : List Lt} {q : Nat → Nat → Bool} (h : Jm P N w0 wc m b l cs ls q) (hp : ∀ c, P' c → P c) : Jm P' N w0 wc m b l cs ls q := by
  obtain ⟨S, T, h1, h2, h3, h4⟩ := h.s
  exact ⟨⟨S, T, h1, h2, fun c hc => ⟨(h3 c hc).1, fun h' => (h3 c hc).2.1 (hp c h'), (h3 c hc).2.2⟩, fun c hc => ⟨(h4 c hc).1, fun h' => (h4 c hc).2 (hp c h')⟩⟩, h.bel, h.hN, fun c hc => h.hP c (hp c hc)⟩
theorem Jm.more {P P' : Nat → Prop} {N : Nat} {w0 wc w' : World} {m b : Nat} {l : List Deed} {cs : List (List En)} {ls : List Lt} {q : Nat → Nat → Bool} (h : Jm P N w0 wc m b l cs ls q) (hb : Below wc.heap.size wc w') (hp : ∀ c, P' c → P c ∨ wc.heap.size ≤ c) (hl : ∀ c, P' c → c < w'.heap.size) : Jm P' N w0 w' m b l cs ls q := by
  obtain ⟨S, T, h1, h2, h3, h4⟩ := h.s
  refine ⟨⟨S, T, h1.grown hb, h2.grown hb, fun c hc => ⟨(h3 c hc).1, fun h' => ?_, (h3 c hc).2.2⟩, fun c hc => ⟨(h4 c hc).1, fun h' => ?_⟩⟩, h.bel.trans (hb.mono h.hN), Nat.le_trans h.hN hb.size, hl⟩
  · rcases hp c h' with h' | h'
    · exact (h3 c hc).2.1 h'
    · have := h1.lt c hc
      omega
  · rcases hp c h' with h' | h'
    · exact (h4 c hc).2 h'
    · have := h2.lt c hc
      omega
theorem Jm.turnM {P : Nat → Prop} {N : Nat} {w0 wc w' : World} {m b : Nat} {l l' : List Deed} {cs cs' : List (List En)} {ls : List Lt} {q : Nat → Nat → Bool} (h : Jm P N w0 wc m b l cs ls q) {S T : Nat → Prop} (h2 : MlAt T wc b ls q) (h3 : ∀ c, S c → N ≤ c ∧ ¬ P c ∧ ¬ T c) (h4 : ∀ c, T c → N ≤ c ∧ ¬ P c)
    (ht : MeshTo S wc w' m l' cs') : Jm P N w0 w' m b l' cs' ls q ∧ (∀ c, P c → w'.heap[c]? = wc.heap[c]?) ∧ wc.heap.size ≤ w'.heap.size := by
  obtain ⟨ht, S', g1, g2⟩ := ht
  have hN := h.hN
  refine ⟨⟨⟨S', T, g1, h2.turn ht.turn (fun c hc hs => (h3 c hs).2.2 hc), fun c hc => ?_, h4⟩, h.bel.trans (ht.below h.hN (fun c hc => (h3 c hc).1)), Nat.le_trans h.hN ht.size, fun c hc => Nat.lt_of_lt_of_le (h.hP c hc) ht.size⟩, fun c hc => ht.block c (h.hP c hc) (fun h' => (h3 c h').2.1 hc), ht.size⟩
  rcases g2 c hc with h' | h'
  · exact h3 c h'
  · refine ⟨by omega, fun hp => ?_, fun hp => ?_⟩
    · have := h.hP c hp
      omega
    · have := h2.lt c hp
      omega
theorem Jm.callM {P : Nat → Prop} {N : Nat} {w0 wc : World} {m b : Nat} {l : List Deed} {cs : List (List En)} {ls : List Lt} {q : Nat → Nat → Bool} (h : Jm P N w0 wc m b l cs ls q) :
    ∃ S, MeshAt S wc m l cs ∧ ∀ w' l' cs', MeshTo S wc w' m l' cs' → Jm P N w0 w' m b l' cs' ls q ∧ (∀ c, P c → w'.heap[c]? = wc.heap[c]?) ∧ wc.heap.size ≤ w'.heap.size := by
  obtain ⟨S, T, h1, h2, h3, h4⟩ := h.s
  exact ⟨S, h1, fun w' l' cs' ht => h.turnM h2 h3 h4 ht⟩
/-- a block is made ahead of the call, or behind it -/
theorem Jm.callN {N : Nat} {w0 wc : World} {m b : Nat} {l : List Deed} {cs : List (List En)} {ls : List Lt} {q : Nat → Nat → Bool} (h : Jm (fun _ => False) N w0 wc m b l cs ls q) :
    ∃ S, MeshAt S wc m l cs ∧ (∀ w' l' cs', MeshTo S wc w' m l' cs' → Jm (fun _ => False) N w0 w' m b l' cs' ls q) ∧
      ∀ o w' l' cs', MeshTo S (wc.alloc o) w' m l' cs' → Jm (fun c => c = wc.heap.size) N w0 w' m b l' cs' ls q ∧ w'.heap[wc.heap.size]? = (wc.alloc o).heap[wc.heap.size]? := by
  obtain ⟨S, T, h1, h2, h3, h4⟩ := h.s
  refine ⟨S, h1, fun w' l' cs' ht => (h.turnM h2 h3 h4 ht).1, fun o w' l' cs' ht => ?_⟩
  have hb : Below wc.heap.size wc (wc.alloc o) := (Below.refl _ _).alloc (Nat.le_refl _) _
  have h3' : ∀ c, S c → N ≤ c ∧ ¬ c = wc.heap.size ∧ ¬ T c := fun c hc => ⟨(h3 c hc).1, by have := h1.lt c hc; omega, (h3 c hc).2.2⟩
  have h4' : ∀ c, T c → N ≤ c ∧ ¬ c = wc.heap.size := fun c hc => ⟨(h4 c hc).1, by have := h2.lt c hc; omega⟩
  have hJ : Jm (fun c => c = wc.heap.size) N w0 (wc.alloc o) m b l cs ls q := h.more hb (fun c hc => .inr (by omega)) (fun c hc => by simp; omega)
  have r := hJ.turnM (h2.grown hb) h3' h4' ht
  exact ⟨r.1, r.2.1 _ rfl⟩
theorem Jm.set1 {P : Nat → Prop} {N : Nat} {w0 wc : World} {m b A : Nat} {l : List Deed} {cs : List (List En)} {ls : List Lt} {q : Nat → Nat → Bool} (h : Jm P N w0 wc m b l cs ls q) (hA : P A) (hN : N ≤ A) (k : Nat) (u : Value) : Jm P N w0 (wc.setCell ⟨A, k, none⟩ u) m b l cs ls q := by
  obtain ⟨S, T, h1, h2, h3, h4⟩ := h.s
  have hb : ∀ c, c ≠ A → (wc.setCell ⟨A, k, none⟩ u).heap[c]? = wc.heap[c]? := fun c hc => Below.heap_setCell _ _ _ c hc
  have hsz : (wc.setCell ⟨A, k, none⟩ u).heap.size = wc.heap.size := World.size_setCell _ _ _
  exact ⟨⟨S, T, h1.blocks (by rw [hsz]; exact Nat.le_refl _) (fun c hc => hb c (fun e => (h3 c hc).2.1 (e ▸ hA))), h2.blocks (by rw [hsz]; exact Nat.le_refl _) (fun c hc => hb c (fun e => (h4 c hc).2 (e ▸ hA))), h3, h4⟩,
    h.bel.trans ⟨rfl, rfl, rfl, by rw [hsz]; exact Nat.le_refl _, fun c hc => hb c (by omega)⟩, by rw [hsz]; exact h.hN, fun c hc => by rw [hsz]; exact h.hP c hc⟩
theorem Jm.sets {P : Nat → Prop} {N : Nat} {w0 wc : World} {m b A : Nat} {l : List Deed} {cs : List (List En)} {ls : List Lt} {q : Nat → Nat → Bool} (h : Jm P N w0 wc m b l cs ls q) (hA : P A) (hN : N ≤ A) (x0 x1 x2 x3 x4 : Value) :
    Jm P N w0 (((((wc.setCell ⟨A, 0, none⟩ x0).setCell ⟨A, 1, none⟩ x1).setCell ⟨A, 2, none⟩ x2).setCell ⟨A, 3, none⟩ x3).setCell ⟨A, 4, none⟩ x4) m b l cs ls q :=
  ((((h.set1 hA hN 0 x0).set1 hA hN 1 x1).set1 hA hN 2 x2).set1 hA hN 3 x3).set1 hA hN 4 x4
theorem Jm.callB {P : Nat → Prop} {N : Nat} {w0 wc : World} {m b : Nat} {l : List Deed} {cs : List (List En)} {ls : List Lt} {q : Nat → Nat → Bool} (h : Jm P N w0 wc m b l cs ls q) :
    ∃ T, MlAt T wc b ls q ∧ ∀ w' ls' q', MlTo T wc w' b ls' q' → Jm P N w0 w' m b l cs ls' q' ∧ (∀ c, P c → w'.heap[c]? = wc.heap[c]?) ∧ wc.heap.size ≤ w'.heap.size := by
  obtain ⟨S, T, h1, h2, h3, h4⟩ := h.s
  refine ⟨T, h2, fun w' ls' q' ht => ?_⟩
  obtain ⟨ht, T', g1, g2⟩ := ht
  have hN := h.hN
  refine ⟨⟨⟨S, T', h1.blocks ht.size (fun c hc => ht.block c (h1.lt c hc) (h3 c hc).2.2), g1, fun c hc => ⟨(h3 c hc).1, (h3 c hc).2.1, fun hp => ?_⟩, fun c hc => ?_⟩, h.bel.trans (ht.below h.hN (fun c hc => (h4 c hc).1)), Nat.le_trans h.hN ht.size, fun c hc => Nat.lt_of_lt_of_le (h.hP c hc) ht.size⟩, fun c hc => ht.block c (h.hP c hc) (fun h' => (h4 c h').2 hc), ht.size⟩
  · rcases g2 c hp with h' | h'
    · exact (h3 c hc).2.2 h'
    · have := h1.lt c hc
      omega
  · rcases g2 c hc with h' | h'
    · exact h4 c h'
    · refine ⟨by omega, fun hp => ?_⟩
      have := h.hP c hp
      omega
theorem Jm.new {P : Nat → Prop} {N : Nat} {w0 wc w' : World} {m b : Nat} {l : List Deed} {cs : List (List En)} {T : Nat → Prop} {q : Nat → Nat → Bool} (h : Mh P N w0 wc m l cs) (hm : MlAt T w' b [] q) (hT : ∀ c, T c → wc.heap.size ≤ c) (hb : Below wc.heap.size wc w') : Jm P N w0 w' m b l cs [] q := by
  obtain ⟨S, h1, h2⟩ := h.s
  have hN := h.hN
  refine ⟨⟨S, T, h1.grown hb, hm, fun c hc => ⟨(h2 c hc).1, (h2 c hc).2, fun ht => ?_⟩, fun c hc => ⟨by have := hT c hc; omega, fun hp => ?_⟩⟩, h.bel.trans (hb.mono h.hN), Nat.le_trans h.hN hb.size, fun c hc => Nat.lt_of_lt_of_le (h.hP c hc) hb.size⟩
  · have := h1.lt c hc
    have := hT c ht
    omega
  · have := h.hP c hp
    have := hT c hc
    omega
/-- what lies in the letters was so -/
def QWas (l : List Deed) (ls : List Lt) : Prop := ∀ x ∈ ls, Was l x.e
theorem QWas.nil (l : List Deed) : QWas l [] := fun x hx => by cases hx
theorem QWas.later {l : List Deed} {ls : List Lt} (h : QWas l ls) (m : List Deed) : QWas (l ++ m) ls := fun x hx => (h x hx).later m
theorem QWas.send {l : List Deed} {ls : List Lt} {q : Nat → Nat → Bool} {x : Lt} (h : QWas l ls) (hx : Was l x.e) : QWas l (sendL ls q x) := by
  unfold sendL
  split
  · intro y hy
    rcases List.mem_append.1 hy with hy | hy
    · exact h y hy
    · rw [List.mem_singleton.1 hy]; exact hx
  · exact h
theorem QWas.lose {l : List Deed} {ls : List Lt} (h : QWas l ls) (i : Int) : QWas l (loseL ls i) := by
  unfold loseL
  split
  · exact fun y hy => h y (List.mem_of_mem_eraseIdx hy)
  · exact h
theorem QWas.twice {l : List Deed} {ls : List Lt} (h : QWas l ls) (i : Int) : QWas l (twiceL ls i) := by
  unfold twiceL
  split
  · intro y hy
    rcases List.mem_append.1 hy with hy | hy
    · exact h y hy
    · exact h y (List.mem_of_mem_drop (List.mem_of_mem_take hy))
  · exact h
/-- what was put, and was told at once -/
theorem put_done {l l' : List Deed} {cs cs' : List (List En)} {node key k : Int} {t : ByteArray} (h : mPut l cs node key t = ⟨l', cs', k, 0⟩) : (∃ m, l' = l ++ m) ∧ k = l'.length ∧ nodeB cs.length node = true := by
  unfold mPut mDone at h
  split at h
  · injection h with _ _ _ h4
    cases h4
  · rename_i hn
    split at h
    · rename_i he
      injection h with _ _ _ h4
      exact absurd h4 he
    · rename_i he
      have he : (putO l key t).err = 0 := by simpa using he
      obtain ⟨h1, h2, h3, h4⟩ := put_fine he
      rw [h4] at h
      injection h with e1 e2 e3 _
      dsimp only at e1 e2 e3
      exact ⟨⟨_, e1.symm⟩, by rw [← e3, ← e1]; simp, by simpa using hn⟩
theorem put_not {l l' : List Deed} {cs cs' : List (List En)} {node key k n : Int} {t : ByteArray} (h : mPut l cs node key t = ⟨l', cs', k, n⟩) (hn : n ≠ 0) : l' = l ∧ cs' = cs := by
  unfold mPut mDone at h
  split at h
  · injection h with h1 h2 _ _
    exact ⟨h1.symm, h2.symm⟩
  · split at h
    · injection h with h1 h2 _ _
      exact ⟨h1.symm, h2.symm⟩
    · injection h with _ _ _ h4
      exact absurd h4.symm hn
/-- what was is told by the store -/
theorem was_at {l : List Deed} {x : En} (h : Was l x) : atO l x.k x.a = (⟨x.k, x.v, x.a, x.g, x.t⟩, 0) := by
  obtain ⟨hk, s, hs, hx⟩ := h
  have ha : x.a = s := by rw [hx]; rfl
  have hv : x.v = (lastOf (l.take s) x.k).ver := by rw [hx]; rfl
  have hg : x.g = (lastOf (l.take s) x.k).gone := by rw [hx]; rfl
  have ht : x.t = (lastOf (l.take s) x.k).text := by rw [hx]; rfl
  rw [atO, if_pos ⟨hk, by omega, by omega⟩, ha, hv, hg, ht, Int.toNat_natCast]
  rfl
/-- what the law's rounds carry -/
structure TmIs (P : Nat → Prop) (N : Nat) (w0 w : World) (m b : Nat) (l : List Deed) (cs : List (List En)) (ls : List Lt) (q : Nat → Nat → Bool) : Prop where
  h : Jm P N w0 w m b l cs ls q
  good : GoodM l cs
  was : QWas l ls
theorem TmIs.grown {P : Nat → Prop} {N : Nat} {w0 w w' : World} {m b : Nat} {l : List Deed} {cs : List (List En)} {ls : List Lt} {q : Nat → Nat → Bool} (h : TmIs P N w0 w m b l cs ls q) (hb : Below w.heap.size w w') : TmIs P N w0 w' m b l cs ls q := ⟨h.h.grown hb, h.good, h.was⟩
theorem add_was {l : List Deed} {xs : List En} {e : En} (hl : Good l) (h1 : l.length ≤ 1000) (hc : GoodC l xs) (he : Was l e) : ∃ R b, cacheAdd xs e = (R, b, 0) ∧ GoodC l R := by
  refine ⟨(putE xs e).1, (putE xs e).2.1, ?_, (put_was hl h1 hc he).2.1⟩
  rw [cacheAdd, if_neg (by simpa using hc.good.bad), if_neg (by simpa using he.bad hl h1)]
  exact Prod.ext rfl (Prod.ext rfl (put_was hl h1 hc he).1)
theorem MeshTo.undrew {S : Nat → Prop} {w w' : World} {n m : Nat} {l : List Deed} {cs : List (List En)} (h : MeshTo S (w.drewN n) w' m l cs) : MeshTo S w w' m l cs := by
  obtain ⟨k, S', h1, h2⟩ := h
  exact ⟨⟨k.os, k.tape, k.output, k.size, k.block⟩, S', h1, h2⟩
theorem MlTo.undrew {S : Nat → Prop} {w w' : World} {n b : Nat} {l : List Lt} {q : Nat → Nat → Bool} (h : MlTo S (w.drewN n) w' b l q) : MlTo S w w' b l q := by
  obtain ⟨k, S', h1, h2⟩ := h
  exact ⟨⟨k.os, k.tape, k.output, k.size, k.block⟩, S', h1, h2⟩
theorem mPut_n {S : Nat → Prop} {w : World} {m : Nat} {l l' : List Deed} {cs cs' : List (List En)} (h : MeshAt S w m l cs) (hG : GoodM l cs) {node key kk er : Int} {ev : Value} {t : ByteArray} (ht : t.size ≤ maxLen) (hx : mPut l cs node key t = ⟨l', cs', kk, er⟩) (he : eV er = ev) :
    Calls Try.prog 8 #[.pointer (some ⟨m, 0, none⟩), .int .i64 node, .int .i64 key, .string t] w fun e w' => e = .returned (.tuple #[.int .i64 kk, ev]) ∧ MeshTo S w w' m l' cs' := by
  have c := mPut_c h hG node key t ht
  rw [hx] at c
  refine c.mono ?_
  rintro e w' ⟨he', ht⟩
  exact ⟨by rw [he', he], ht⟩
theorem mSeq_n {S : Nat → Prop} {w : World} {m n : Nat} {l : List Deed} {cs : List (List En)} (h : MeshAt S w m l cs) (hn : l.length = n) :
    Calls Try.prog 10 #[.pointer (some ⟨m, 0, none⟩)] w fun e w' => e = .returned (.int .i64 n) ∧ w' = w := by
  subst hn
  exact mSeq_c h
theorem mGet_n {S : Nat → Prop} {w : World} {m : Nat} {l : List Deed} {cs cs' : List (List En)} (h : MeshAt S w m l cs) (hG : GoodM l cs) {node key floor x0 x1 x2 : Int} {x3 had : Bool} {x4 : ByteArray} (hx : mGet l cs node key floor = (cs', ⟨x0, x1, x2, x3, x4⟩, had, 0)) :
    Calls Try.prog 9 #[.pointer (some ⟨m, 0, none⟩), .int .i64 node, .int .i64 key, .int .i64 floor] w fun e w' => e = .returned (.tuple #[.agg #[.int .i64 x0, .int .i64 x1, .int .i64 x2, .bool x3, .string x4], .bool had, .nilIface]) ∧ MeshTo S w w' m l cs' := by
  have c := mGet_o h hG hx
  rw [eV_zeroN] at c
  exact c
/-- what is asked behind a piece of code that ends: R; nothing but an end is let by -/
def endsBy (R : Act → World → Prop) : Exit → Act → World → Prop := fun e a w => match e with | .normal => R a w | _ => False
theorem wp_ends {c : Code} {R : Act → World → Prop} {E : Exit → Act → World → Prop} {a : Act} {w : World} (h : Code.wp Try.prog c (endsBy R) a w) : Code.wp Try.prog c (Exit.then R E) a w :=
  Code.wp_mono (Q := endsBy R) (fun e x y hx => by cases e <;> first | exact hx | exact hx.elim) h
theorem endsBy_normal {R : Act → World → Prop} {a : Act} {w : World} (h : R a w) : endsBy R .normal a w := h
end Go.Proofs.Ytbincnajklmnaaa
