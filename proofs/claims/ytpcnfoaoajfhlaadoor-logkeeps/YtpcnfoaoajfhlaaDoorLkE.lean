/-
  LogKeeps: all that the law keeps, as its walk carries it.
-/
import Derived.Test.YtpcnfoaoajfhlaaDoorLkD
namespace Go.Proofs.YtpcnfoaoajfhlaaDoor
set_option linter.unusedVariables false
set_option linter.unusedSimpArgs false
open Go.RowKit

theorem ints_at {w w' : World} {pv : Option Addr} {n c : Nat} {l : List Int} (h : IntsIs w (.slice pv n c) l) (hb : Below w.heap.size w w') (hn : l.length = n) {i : Nat} (hi : i < n) : ∃ b o z, pv = some ⟨b, o, none⟩ ∧ w'.cell? ⟨b, o + i, none⟩ = some (.int .i64 z) ∧ z ∈ l := by
  obtain ⟨_, p', c', he, hrow⟩ := h
  have hil : i < l.length := by omega
  obtain ⟨b, o, rfl, hlt, hat⟩ := hrow (fun e => by rw [e] at hil; exact absurd hil (by simp))
  have hpv : pv = some ⟨b, o, none⟩ := by simpa using (by cases he; rfl : pv = _)
  exact ⟨b, o, l[i], hpv, old_cellK hb (hat i hil), List.getElem_mem hil⟩
def rowD (gd nn cd : Nat) : Value := .slice (some ⟨gd, 0, none⟩) (nn + 1) cd
/-- the log, the stores of its deeds and their marks -/
def KpI (N : Nat) (w0 w : World) (j : Nat) (l : List Deed) (p : List Nat) (sf : Nat) (lf : Int) (st : Bool) (gd cd gm cm nn : Nat) : Prop :=
  l.length = nn ∧ ∃ S X bs, Kp S X N w0 w j l p sf lf st (.slice (some ⟨gd, 0, none⟩) (nn + 1) cd) (.slice (some ⟨gm, 0, none⟩) (nn + 1) cm) bs (preL l) (markL l)
/-- .. and the store that comes next; the log may be ahead -/
def KqJ (N : Nat) (w0 w : World) (j : Nat) (l' : List Deed) (p : List Nat) (sf : Nat) (lf : Int) (st : Bool) (l : List Deed) (gd cd gm cm nn nb : Nat) (nl : List Deed) : Prop :=
  l.length = nn ∧ ∃ S X G bs, Kq S X G N w0 w j l' p sf lf st (.slice (some ⟨gd, 0, none⟩) (nn + 1) cd) (.slice (some ⟨gm, 0, none⟩) (nn + 1) cm) bs (preL l) (markL l) nb nl
theorem KpI.bel {N : Nat} {w0 w : World} {j : Nat} {l : List Deed} {p : List Nat} {sf : Nat} {lf : Int} {st : Bool} {gd cd gm cm nn : Nat} (h : KpI N w0 w j l p sf lf st gd cd gm cm nn) : Below N w0 w ∧ N ≤ w.heap.size := by
  obtain ⟨_, S, X, bs, hk⟩ := h
  exact ⟨hk.bel, hk.hN⟩
theorem KqJ.bel {N : Nat} {w0 w : World} {j : Nat} {l' : List Deed} {p : List Nat} {sf : Nat} {lf : Int} {st : Bool} {l : List Deed} {gd cd gm cm nn nb : Nat} {nl : List Deed} (h : KqJ N w0 w j l' p sf lf st l gd cd gm cm nn nb nl) : Below N w0 w ∧ N ≤ w.heap.size := by
  obtain ⟨_, S, X, G, bs, hk⟩ := h
  exact ⟨hk.k.bel, hk.k.hN⟩
theorem KpI.grown {N : Nat} {w0 w w' : World} {j : Nat} {l : List Deed} {p : List Nat} {sf : Nat} {lf : Int} {st : Bool} {gd cd gm cm nn : Nat} (h : KpI N w0 w j l p sf lf st gd cd gm cm nn) (hb : Below w.heap.size w w') : KpI N w0 w' j l p sf lf st gd cd gm cm nn := by
  obtain ⟨h1, S, X, bs, hk⟩ := h
  exact ⟨h1, S, X, bs, hk.grown hb⟩
theorem KqJ.grown {N : Nat} {w0 w w' : World} {j : Nat} {l' : List Deed} {p : List Nat} {sf : Nat} {lf : Int} {st : Bool} {l : List Deed} {gd cd gm cm nn nb : Nat} {nl : List Deed} (h : KqJ N w0 w j l' p sf lf st l gd cd gm cm nn nb nl) (hb : Below w.heap.size w w') : KqJ N w0 w' j l' p sf lf st l gd cd gm cm nn nb nl := by
  obtain ⟨h1, S, X, G, bs, hk⟩ := h
  exact ⟨h1, S, X, G, bs, hk.grown hb⟩
theorem KpI.log {N : Nat} {w0 w : World} {j : Nat} {l : List Deed} {p : List Nat} {sf : Nat} {lf : Int} {st : Bool} {gd cd gm cm nn : Nat} (h : KpI N w0 w j l p sf lf st gd cd gm cm nn) :
    ∃ S, LgAt S w j l p sf lf st ∧ ∀ w' p' sf' lf' st', LgTo S w w' j l p' sf' lf' st' → KpI N w0 w' j l p' sf' lf' st' gd cd gm cm nn := by
  obtain ⟨h1, S, X, bs, hk⟩ := h
  refine ⟨S, hk.lg, fun w' p' sf' lf' st' hto => ?_⟩
  obtain ⟨S', hk'⟩ := hk.log hto
  exact ⟨h1, S', X, bs, hk'⟩
theorem KqJ.log {N : Nat} {w0 w : World} {j : Nat} {l' : List Deed} {p : List Nat} {sf : Nat} {lf : Int} {st : Bool} {l : List Deed} {gd cd gm cm nn nb : Nat} {nl : List Deed} (h : KqJ N w0 w j l' p sf lf st l gd cd gm cm nn nb nl) :
    ∃ S, LgAt S w j l' p sf lf st ∧ ∀ w' l2 p' sf' lf' st', LgTo S w w' j l2 p' sf' lf' st' → KqJ N w0 w' j l2 p' sf' lf' st' l gd cd gm cm nn nb nl := by
  obtain ⟨h1, S, X, G, bs, hk⟩ := h
  refine ⟨S, hk.k.lg, fun w' l2 p' sf' lf' st' hto => ?_⟩
  obtain ⟨S', hk'⟩ := hk.log hto
  exact ⟨h1, S', X, G, bs, hk'⟩
theorem KpI.at {N : Nat} {w0 w : World} {j : Nat} {l : List Deed} {p : List Nat} {sf : Nat} {lf : Int} {st : Bool} {gd cd gm cm nn : Nat} (h : KpI N w0 w j l p sf lf st gd cd gm cm nn) {i : Nat} (hi : i ≤ nn) :
    ∃ b G, w.cell? ⟨gd, i, none⟩ = some (.pointer (some ⟨b, 0, none⟩)) ∧ RefIs w b (l.take i) G := by
  obtain ⟨h1, S, X, bs, hk⟩ := h
  have hl : bs.length = nn + 1 := by rw [hk.sto.1, preL_len, h1]
  obtain ⟨g, cap, he, _, _, hc⟩ := hk.row.cells (fun e => by rw [e] at hl; simp at hl)
  obtain ⟨rfl, _, rfl⟩ : gd = g ∧ nn + 1 = bs.length ∧ cd = cap := by simpa using he
  have hib : i < bs.length := by omega
  obtain ⟨G, hr, _⟩ := hk.sto.2 i hib (by rw [preL_len]; omega)
  rw [preL_at] at hr
  exact ⟨bs[i], G, hc i hib, hr⟩
theorem KpI.mark {N : Nat} {w0 w : World} {j : Nat} {l : List Deed} {p : List Nat} {sf : Nat} {lf : Int} {st : Bool} {gd cd gm cm nn : Nat} (h : KpI N w0 w j l p sf lf st gd cd gm cm nn) {i : Nat} (hi : i ≤ nn) :
    w.cell? ⟨gm, i, none⟩ = some (.int .i64 (lenD l i : Nat)) := by
  obtain ⟨h1, S, X, bs, hk⟩ := h
  have hil : i < (markL l).length := by rw [markL_len]; omega
  obtain ⟨_, p', c', he, hrow⟩ := hk.mks.ints
  obtain ⟨b, o, rfl, _, hat⟩ := hrow (fun e => by rw [e] at hil; simp at hil)
  have hg : gm = b ∧ 0 = o := by simpa using (by injection he with h1 _ _ : some (⟨gm, 0, none⟩ : Addr) = some ⟨b, o, none⟩)
  obtain ⟨rfl, rfl⟩ := hg
  have h2 := hat i hil
  rw [markL_at, Nat.zero_add] at h2
  exact h2
theorem KpI.caps {N : Nat} {w0 w : World} {j : Nat} {l : List Deed} {p : List Nat} {sf : Nat} {lf : Int} {st : Bool} {gd cd gm cm nn : Nat} (h : KpI N w0 w j l p sf lf st gd cd gm cm nn) : nn + 1 ≤ cd ∧ cd ≤ maxLen ∧ nn + 1 ≤ cm ∧ cm ≤ maxLen := by
  obtain ⟨h1, S, X, bs, hk⟩ := h
  have hl : bs.length = nn + 1 := by rw [hk.sto.1, preL_len, h1]
  obtain ⟨g, cap, he, h2, h3, _⟩ := hk.row.cells (fun e => by rw [e] at hl; simp at hl)
  obtain ⟨rfl, _, rfl⟩ : gd = g ∧ nn + 1 = bs.length ∧ cd = cap := by simpa using he
  rcases hk.mks.2 with ⟨he, _⟩ | ⟨g', cap', cur, he, _, _, h4, h5, _⟩
  · cases he
  · obtain ⟨rfl, _, rfl⟩ : gm = g' ∧ nn + 1 = (markL l).length ∧ cm = cap' := by simpa using he
    rw [markL_len, h1] at h4
    exact ⟨by omega, h3, h4, h5⟩
theorem KpI.next {N : Nat} {w0 w w' : World} {j : Nat} {l : List Deed} {p : List Nat} {sf : Nat} {lf : Int} {st : Bool} {gd cd gm cm nn nb : Nat} {nl : List Deed} {G : Nat → Prop} (h : KpI N w0 w j l p sf lf st gd cd gm cm nn) (hb : Below w.heap.size w w') (hr : RefIs w' nb nl G) (hG : ∀ c, G c → w.heap.size ≤ c) : KqJ N w0 w' j l p sf lf st l gd cd gm cm nn nb nl := by
  obtain ⟨h1, S, X, bs, hk⟩ := h
  exact ⟨h1, S, X, G, bs, hk.next hb hr hG⟩
theorem KqJ.turn {N : Nat} {w0 w : World} {j : Nat} {l' : List Deed} {p : List Nat} {sf : Nat} {lf : Int} {st : Bool} {l : List Deed} {gd cd gm cm nn nb : Nat} {nl : List Deed} (h : KqJ N w0 w j l' p sf lf st l gd cd gm cm nn nb nl) :
    ∃ G, RefIs w nb nl G ∧ ∀ w' nl', (∃ G', RefIs w' nb nl' G' ∧ (∀ c, G' c → G c ∨ w.heap.size ≤ c) ∧ Kept G w w') → KqJ N w0 w' j l' p sf lf st l gd cd gm cm nn nb nl' := by
  obtain ⟨h1, S, X, G, bs, hk⟩ := h
  refine ⟨G, hk.nx, fun w' nl' ⟨G', hr, hG, hkp⟩ => ⟨h1, S, X, G', bs, hk.turn hr hG hkp⟩⟩
theorem KqJ.drop {N : Nat} {w0 w : World} {j : Nat} {p : List Nat} {sf : Nat} {lf : Int} {st : Bool} {l : List Deed} {gd cd gm cm nn nb : Nat} {nl : List Deed} (h : KqJ N w0 w j l p sf lf st l gd cd gm cm nn nb nl) : KpI N w0 w j l p sf lf st gd cd gm cm nn := by
  obtain ⟨h1, S, X, G, bs, hk⟩ := h
  exact ⟨h1, S, X, bs, hk.k⟩
/-- both rows cut at m -/
theorem KpI.cut {N : Nat} {w0 w w' : World} {j : Nat} {l : List Deed} {p p' : List Nat} {sf sf' : Nat} {lf lf' : Int} {st st' : Bool} {gd cd gm cm nn m : Nat} (hm : m ≤ nn) (h : ∃ S X bs, Kp S X N w0 w j (l.take m) p sf lf st (.slice (some ⟨gd, 0, none⟩) (nn + 1) cd) (.slice (some ⟨gm, 0, none⟩) (nn + 1) cm) bs (preL l) (markL l)) (hl : l.length = nn) : KpI N w0 w j (l.take m) p sf lf st gd cd gm cm m := by
  obtain ⟨S, X, bs, hk⟩ := h
  have hb : bs.length = nn + 1 := by rw [hk.sto.1, preL_len, hl]
  have h2 := hk.cut (m + 1) (by omega) (by rw [markL_len]; omega) (hk.mks.take (m + 1) (by rw [markL_len]; omega))
  rw [preL_take l (by omega), markL_take l (by omega)] at h2
  exact ⟨by rw [List.length_take]; omega, S, X, _, h2⟩
/-- a crash: the log has fewer deeds than there are stores -/
def KpC (N : Nat) (w0 w : World) (j : Nat) (l : List Deed) (m : Nat) (p : List Nat) (sf : Nat) (lf : Int) (st : Bool) (gd cd gm cm nn : Nat) : Prop :=
  l.length = nn ∧ ∃ S X bs, Kp S X N w0 w j (l.take m) p sf lf st (.slice (some ⟨gd, 0, none⟩) (nn + 1) cd) (.slice (some ⟨gm, 0, none⟩) (nn + 1) cm) bs (preL l) (markL l)
theorem KpI.crash {N : Nat} {w0 w : World} {j : Nat} {l : List Deed} {p : List Nat} {sf : Nat} {lf : Int} {st : Bool} {gd cd gm cm nn : Nat} (h : KpI N w0 w j l p sf lf st gd cd gm cm nn) :
    ∃ S, LgAt S w j l p sf lf st ∧ ∀ w' m p' sf' lf' st', LgTo S w w' j (l.take m) p' sf' lf' st' → KpC N w0 w' j l m p' sf' lf' st' gd cd gm cm nn := by
  obtain ⟨h1, S, X, bs, hk⟩ := h
  refine ⟨S, hk.lg, fun w' m p' sf' lf' st' hto => ?_⟩
  obtain ⟨S', hk'⟩ := hk.log hto
  exact ⟨h1, S', X, bs, hk'⟩
theorem KpC.grown {N : Nat} {w0 w w' : World} {j : Nat} {l : List Deed} {m : Nat} {p : List Nat} {sf : Nat} {lf : Int} {st : Bool} {gd cd gm cm nn : Nat} (h : KpC N w0 w j l m p sf lf st gd cd gm cm nn) (hb : Below w.heap.size w w') : KpC N w0 w' j l m p sf lf st gd cd gm cm nn := by
  obtain ⟨h1, S, X, bs, hk⟩ := h
  exact ⟨h1, S, X, bs, hk.grown hb⟩
theorem KpC.mark {N : Nat} {w0 w : World} {j : Nat} {l : List Deed} {m : Nat} {p : List Nat} {sf : Nat} {lf : Int} {st : Bool} {gd cd gm cm nn : Nat} (h : KpC N w0 w j l m p sf lf st gd cd gm cm nn) {i : Nat} (hi : i ≤ nn) :
    w.cell? ⟨gm, i, none⟩ = some (.int .i64 (lenD l i : Nat)) := by
  obtain ⟨h1, S, X, bs, hk⟩ := h
  have hil : i < (markL l).length := by rw [markL_len]; omega
  obtain ⟨_, p', c', he, hrow⟩ := hk.mks.ints
  obtain ⟨b, o, rfl, _, hat⟩ := hrow (fun e => by rw [e] at hil; simp at hil)
  have hg : gm = b ∧ 0 = o := by simpa using (by injection he with h1 _ _ : some (⟨gm, 0, none⟩ : Addr) = some ⟨b, o, none⟩)
  obtain ⟨rfl, rfl⟩ := hg
  have h2 := hat i hil
  rw [markL_at, Nat.zero_add] at h2
  exact h2
theorem KpC.cut {N : Nat} {w0 w : World} {j : Nat} {l : List Deed} {m : Nat} {p : List Nat} {sf : Nat} {lf : Int} {st : Bool} {gd cd gm cm nn : Nat} (h : KpC N w0 w j l m p sf lf st gd cd gm cm nn) (hm : m ≤ nn) : KpI N w0 w j (l.take m) p sf lf st gd cd gm cm m :=
  KpI.cut (w' := w) (p' := p) (sf' := sf) (lf' := lf) (st' := st) hm h.2 h.1
/-- the store put behind the others -/
theorem KqJ.append {N : Nat} {w0 w : World} {j : Nat} {l' : List Deed} {p : List Nat} {st : Bool} {sf : Nat} {lf : Int} {l : List Deed} {gd cd gm cm nn nb : Nat} {d : Deed} (hl : l' = l ++ [d]) (h : KqJ N w0 w j l' p sf lf st l gd cd gm cm nn nb l') :
    ∃ bs S X G, OwnP N w (.slice (some ⟨gd, 0, none⟩) (nn + 1) cd) bs ∧ bs.length = nn + 1 ∧ Kq S X G N w0 w j l' p sf lf st (.slice (some ⟨gd, 0, none⟩) (nn + 1) cd) (.slice (some ⟨gm, 0, none⟩) (nn + 1) cm) bs (preL l) (markL l) nb l' ∧ preL l' = preL l ++ [l'] ∧ markL l' = markL l ++ [(((flatD l').length : Nat) : Int)] ∧ l'.length = nn + 1 := by
  obtain ⟨h1, S, X, G, bs, hk⟩ := h
  refine ⟨bs, S, X, G, hk.k.row, by rw [hk.k.sto.1, preL_len, h1], hk, ?_, ?_, ?_⟩
  · rw [hl, preL_snoc]
  · rw [hl, markL_snoc]
  · rw [hl]; simp [h1]
theorem wp_appIm {ops : Array Oper} {rest : List Oper} {o : Oper} {ac : Act} {Q : Exit → Act → World → Prop} (w : World) (hgd : o.guard = none) (s x : Operand)
    (ho : o.op = .call { callee := .builtin .append, args := #[s, x], argTypes := #[30, 30] }) (B : Nat) (v : Value) (out : List Int) (e : Int) (hs : ac.eval s = v)
    (hown : OwnI B w v out) (vb : Nat) (hx : ac.eval x = .slice (some ⟨vb, 0, none⟩) 1 1) (hv : w.heap[vb]? = some (.cells #[.int .i64 e] 3 (0, 0))) (hl : out.length ≤ 100) (hB : B ≤ w.heap.size)
    (h : ∀ v' w', OwnedMoreI B w' v' out e → Hid (w.grownBy w' v.ownBlock) → Hid (v'.ownBlock = v.ownBlock ∨ v'.ownBlock = some w.heap.size) → wpList Tryd.prog ops Q rest (ac.put o.dst v') w') : wpList Tryd.prog ops Q (o :: rest) ac w := by
  obtain ⟨i0, hi0, hz0, hz1, hz2⟩ := info_parts infoInt
  have q3 : ∀ (u : Value), u ∈ [Value.int .i64 e] → u.oneCell' = true := fun u hu => by simp at hu; subst hu; rfl
  have q2 : ∀ (j : Nat) (u : Value), [Value.int .i64 e][j]? = some u → w.cell? ((⟨vb, 0, none⟩ : Addr).add j) = some u := World.news_of_block hv
  refine wpList_append_own_at w hgd s x 30 ho B 3 i0 _ 1 8 Tryd.underlying30 hi0 hz0 hz1 hz2 rfl (by omega) v out.length (intC out) hs hown ⟨vb, 0, none⟩ 1 1 [.int .i64 e] hx rfl q2 q3 (by unfold maxLen; omega) (by omega) hB ?_
  intro v' w' h1 h2 _ h4
  refine h v' w' (show World.ownsRow _ _ _ _ _ _ _ from ?_) h2 h4
  have hr : intC (out ++ [e]) = intC out ++ [.int .i64 e] := by simp [intC]
  rw [hr, List.length_append]
  exact h1
theorem old_grown {w w' : World} {o : Option Nat} {a : Addr} {v : Value} (hg : w.grownBy w' o) (h : w.cell? a = some v) (ha : o ≠ some a.block) : w'.cell? a = some v :=
  (World.cell?_of_block (a := a) (hg.block a.block (World.block_lt_of_cell? w a h) (Ne.symm ha))).trans h
/-- at first: one store, one mark -/
theorem kp_new {S : Nat → Prop} {N : Nat} {w0 w : World} {j : Nat} (h : LgAt S w j [] [] 0 (-1) false) (hS : ∀ c, S c → N ≤ c) (hb : Below N w0 w) (hN : N ≤ w.heap.size) :
    KpI N w0 (((w.alloc (.cells #[.slice none 0 0] 59)).alloc (.cells #[.pointer (some ⟨w.heap.size, 0, none⟩)] 57)).alloc (.cells #[.int .i64 0] 3)) j [] [] 0 (-1) false (w.heap.size + 1) 1 (w.heap.size + 2) 1 0 := by
  have b1 : Below w.heap.size w (w.alloc (.cells #[.slice none 0 0] 59)) := (Below.refl _ _).alloc (Nat.le_refl _) _
  obtain ⟨w1, hw1⟩ : ∃ w1, w1 = w.alloc (.cells #[.slice none 0 0] 59) := ⟨_, rfl⟩
  have s1 : w1.heap.size = w.heap.size + 1 := by rw [hw1]; simp
  have a1 : w1.heap[w.heap.size]? = some (.cells #[.slice none 0 0] 59) := by rw [hw1]; exact alloc_at w _ _ rfl
  rw [← hw1] at b1 ⊢
  clear hw1
  have b2 : Below w1.heap.size w1 (w1.alloc (.cells #[.pointer (some ⟨w.heap.size, 0, none⟩)] 57)) := (Below.refl _ _).alloc (Nat.le_refl _) _
  obtain ⟨w2, hw2⟩ : ∃ w2, w2 = w1.alloc (.cells #[.pointer (some ⟨w.heap.size, 0, none⟩)] 57) := ⟨_, rfl⟩
  have s2 : w2.heap.size = w.heap.size + 2 := by rw [hw2]; simp [s1]
  have a2 : w2.heap[w.heap.size + 1]? = some (.cells #[.pointer (some ⟨w.heap.size, 0, none⟩)] 57) := by rw [hw2]; exact alloc_at w1 _ _ s1.symm
  rw [← hw2] at b2 ⊢
  clear hw2
  have b3 : Below w2.heap.size w2 (w2.alloc (.cells #[.int .i64 0] 3)) := (Below.refl _ _).alloc (Nat.le_refl _) _
  obtain ⟨w3, hw3⟩ : ∃ w3, w3 = w2.alloc (.cells #[.int .i64 0] 3) := ⟨_, rfl⟩
  have s3 : w3.heap.size = w.heap.size + 3 := by rw [hw3]; simp [s2]
  have a3 : w3.heap[w.heap.size + 2]? = some (.cells #[.int .i64 0] 3) := by rw [hw3]; exact alloc_at w2 _ _ s2.symm
  rw [← hw3] at b3 ⊢
  clear hw3
  have a31 : w3.heap[w.heap.size]? = some (.cells #[.slice none 0 0] 59) := (b3.block _ (by omega)).trans ((b2.block _ (by omega)).trans a1)
  have a32 : w3.heap[w.heap.size + 1]? = some (.cells #[.pointer (some ⟨w.heap.size, 0, none⟩)] 57) := (b3.block _ (by omega)).trans a2
  have hb13 : Below w.heap.size w w3 := b1.trans ((b2.mono (by omega)).trans (b3.mono (by omega)))
  refine ⟨rfl, S, (fun c => c = w.heap.size), [w.heap.size], h.grown hb13, ⟨rfl, fun i hi hi' => ?_⟩, OwnP.one (by omega) a32, OwnI.one (by omega) a3, fun c hc => ?_, fun c hc => ?_, fun c hc => ?_, hb.trans (hb13.mono hN), by omega⟩
  · obtain rfl : i = 0 := by simpa using hi
    refine ⟨(fun c => c = w.heap.size), ?_, fun c hc => hc⟩
    refine ⟨.slice none 0 0, by simp [World.cell?, a31], by simp [World.frozen?, a31], ⟨rfl, .inl ⟨rfl, rfl⟩⟩, by simp [Value.ownBlock], fun c hc => by simp [Value.ownBlock] at hc, rfl, fun c hc => by omega, by simp [preL]⟩
  · have := h.lt c hc
    refine ⟨hS c hc, by omega, ?_, ?_⟩ <;> simp [Value.ownBlock] <;> omega
  · subst hc
    refine ⟨hN, by omega, ?_, ?_⟩ <;> simp [Value.ownBlock]
  · have : w.heap.size + 1 = c := by simpa [Value.ownBlock] using hc
    subst this
    simp [Value.ownBlock]
end Go.Proofs.YtpcnfoaoajfhlaaDoor
