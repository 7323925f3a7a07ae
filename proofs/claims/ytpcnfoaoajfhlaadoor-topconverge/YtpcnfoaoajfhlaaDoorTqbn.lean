/-
  What TopConverge's rounds carry.
-/
import Derived.Test.YtpcnfoaoajfhlaaDoorTqbk
import Derived.Test.YtpcnfoaoajfhlaaDoorTqbl
import Derived.Test.YtpcnfoaoajfhlaaDoorTqbm
namespace Go.Proofs.YtpcnfoaoajfhlaaDoor
set_option linter.unusedVariables false
set_option linter.unusedSimpArgs false
set_option linter.unusedVariables false
set_option linter.unusedSimpArgs false
open Go.RowKit

structure TcIs (P : Nat → Prop) (N : Nat) (w0 w : World) (m nn : Nat) (l : List Deed) (cs : List (List En)) : Prop where
  h : Mh P N w0 w m l cs
  good : GoodM l cs
  len : cs.length = nn
theorem TcIs.grown {P : Nat → Prop} {N : Nat} {w0 w w' : World} {m nn : Nat} {l : List Deed} {cs : List (List En)} (h : TcIs P N w0 w m nn l cs) (hb : Below w.heap.size w w') : TcIs P N w0 w' m nn l cs := ⟨h.h.grown hb, h.good, h.len⟩
/-- a mesh, eight numbers at A, and calls that lie in X -/
structure TcJ (X : Nat → Prop) (A N : Nat) (w0 w : World) (m nn : Nat) (l : List Deed) (cs : List (List En)) (nw : Nat → Int) (v : Value) (ls : List (List Int)) : Prop where
  h : Mh (fun c => c = A ∨ (X c ∧ N ≤ c)) N w0 w m l cs
  good : GoodM l cs
  len : cs.length = nn
  a8 : EightAt w A nw
  calls : CallsAt X w v ls
theorem TcJ.grown {X : Nat → Prop} {A N : Nat} {w0 w w' : World} {m nn : Nat} {l : List Deed} {cs : List (List En)} {nw : Nat → Int} {v : Value} {ls : List (List Int)} (h : TcJ X A N w0 w m nn l cs nw v ls) (hb : Below w.heap.size w w') : TcJ X A N w0 w' m nn l cs nw v ls :=
  ⟨h.h.grown hb, h.good, h.len, h.a8.grown hb, h.calls.keep hb.size (fun c _ hc => hb.block c hc)⟩
theorem TcJ.call {X : Nat → Prop} {A N : Nat} {w0 w : World} {m nn : Nat} {l : List Deed} {cs : List (List En)} {nw : Nat → Int} {v : Value} {ls : List (List Int)} (h : TcJ X A N w0 w m nn l cs nw v ls) :
    ∃ S, MeshAt S w m l cs ∧ ∀ w' cs', MeshTo S w w' m l cs' → (∀ c, X c → c < w.heap.size → w'.heap[c]? = w.heap[c]?) ∧ (GoodM l cs' → cs'.length = nn → TcJ X A N w0 w' m nn l cs' nw v ls) := by
  obtain ⟨S, h1, h2⟩ := h.h.call
  refine ⟨S, h1, fun w' cs' ht => ?_⟩
  obtain ⟨g1, g2, g3⟩ := h2 w' l cs' ht
  have hk : ∀ c, X c → w'.heap[c]? = w.heap[c]? := fun c hc => by
    by_cases hN : N ≤ c
    · exact g2 c (.inr ⟨hc, hN⟩)
    · exact (g1.bel.block c (by omega)).trans (h.h.bel.block c (by omega)).symm
  exact ⟨fun c hc _ => hk c hc, fun hg hl => ⟨g1, hg, hl, h.a8.of_block (g2 A (.inl rfl)), h.calls.keep g3 (fun c hc _ => hk c hc)⟩⟩
theorem TcIs.start {X : Nat → Prop} {A N : Nat} {w0 w w' : World} {m nn : Nat} {l : List Deed} {cs : List (List En)} {nw : Nat → Int} {v : Value} {ls : List (List Int)} (h : TcIs (fun c => c = A) N w0 w m nn l cs) (ha : EightAt w A nw) (hb : Below w.heap.size w w')
    (hX : ∀ c, X c → N ≤ c → w.heap.size ≤ c ∧ c < w'.heap.size) (hc : CallsAt X w' v ls) : TcJ X A N w0 w' m nn l cs nw v ls := by
  refine ⟨h.h.more hb (fun c hc => ?_) (fun c hc => ?_), h.good, h.len, ha.grown hb, hc⟩
  · rcases hc with hc | hc
    · exact .inl hc
    · exact .inr (hX c hc.1 hc.2).1
  · rcases hc with hc | hc
    · subst hc
      exact Nat.lt_of_lt_of_le ha.lt hb.size
    · exact (hX c hc.1 hc.2).2
theorem inC_o {a : List Int} {x : Int} {c : Bool} (h : a.contains x = c) (va : Value) (w : World) (hra : IntsIs w va a) :
    Calls Tryd.prog 13 #[va, .int .i64 x] w fun e w' => e = .returned (.bool c) ∧ Below w.heap.size w w' := by
  subst h
  exact in_c va a x w hra
theorem mPut_t {S : Nat → Prop} {w : World} {m : Nat} {l l' : List Deed} {cs cs' : List (List En)} {node key kk er : Int} {t : ByteArray} {ev : Value} (h : MeshAt S w m l cs) (hG : GoodM l cs) (ht : t.size ≤ maxLen) (hx : mPut l cs node key t = ⟨l', cs', kk, er⟩) (hev : eV er = ev) :
    Calls Tryd.prog 7 #[.pointer (some ⟨m, 0, none⟩), .int .i64 node, .int .i64 key, .string t] w fun e w' => e = .returned (.tuple #[.int .i64 kk, ev]) ∧ MeshTo S w w' m l' cs' := by
  subst hev
  have c := mPut_c h hG node key t ht
  rw [hx] at c
  exact c
theorem mPut_lenT {l l' : List Deed} {cs cs' : List (List En)} {node key kk er : Int} {t : ByteArray} (hG : GoodM l cs) (h : mPut l cs node key t = ⟨l', cs', kk, er⟩) : GoodM l' cs' ∧ cs'.length = cs.length := by
  have h1 := mPut_good hG node key t
  have h2 := mDone_len (putO l key t) l cs node key
  have h3 : mDone (putO l key t) l cs node key = ⟨l', cs', kk, er⟩ := h
  rw [h] at h1
  rw [h3] at h2
  exact ⟨h1, h2⟩
theorem mSwap_t {S : Nat → Prop} {w : World} {m : Nat} {l : List Deed} {cs cs' : List (List En)} (h : MeshAt S w m l cs) (hG : GoodM l cs) {a b : Int} (hx : mSwap cs a b = (cs', 0)) (hT : Lib.TabIs Tryd.prog w powName .u64 Lib.pow10Tab) :
    Calls Tryd.prog 14 #[.pointer (some ⟨m, 0, none⟩), .int .i64 a, .int .i64 b] w fun e w' => e = .returned .nilIface ∧ MeshTo S w w' m l cs' := by
  have c := mSwap_o h hG hx hT
  rw [eV_zeroN] at c
  exact c
/-- a swap of two nodes that are there -/
theorem swap_goes {l : List Deed} {cs : List (List En)} (hG : GoodM l cs) {a b : Nat} (ha : a < cs.length) (hb : b < cs.length) (hab : a ≠ b) : ∃ x y, pairW (cs.getD a []) (cs.getD b []) = (x, y, 0) ∧ mSwap cs (a : Int) (b : Int) = ((cs.set a x).set b y, 0) ∧ GoodM l ((cs.set a x).set b y) ∧ ((cs.set a x).set b y).length = cs.length := by
  obtain ⟨x, y, hp, _, _⟩ := pair_was hG.good hG.len (hG.atD a) (hG.atD b)
  have e : mSwap cs (a : Int) (b : Int) = ((cs.set a x).set b y, 0) := by
    rw [mSwap, if_neg (by rw [nodeB_iff.2 (by omega : (0 : Int) ≤ (a : Int) ∧ (a : Int) < (cs.length : Int)), nodeB_iff.2 (by omega : (0 : Int) ≤ (b : Int) ∧ (b : Int) < (cs.length : Int))]; simp), if_neg (by omega), Int.toNat_natCast, Int.toNat_natCast]
    unfold cacheN
    rw [Int.toNat_natCast, Int.toNat_natCast, hp]
  refine ⟨x, y, hp, e, ?_, by rw [List.length_set, List.length_set]⟩
  have h1 := mSwap_good hG (a : Int) (b : Int)
  rw [e] at h1
  exact h1
theorem neq_eV (E : Int) {ev : Value} {en : Bool} (h : eV E = ev) (he : (!(E == 0)) = en) (w : World) : (binOp .neq 27 ev .nilIface).run Tryd.prog w = .ok (.bool en) w := by
  subst h he
  by_cases h : E = 0
  · subst h
    rw [eV_zeroN]
    simp [go_sem, Tryd.underlying27]
  · have e : (E == 0) = false := by simp [h]
    rw [eV_errN h, e]
    simp [go_sem, Tryd.underlying27]
theorem guard_eV (E : Int) {ev : Value} (h : eV E = ev) (k : Nat) (w : World) : (eqGuard .neq 27 (.tmp k) (.const .nilIface) ev .nilIface).run Tryd.prog w = .ok () w := by
  subst h
  by_cases h : E = 0
  · subst h
    rw [eV_zeroN]
    simp [go_sem, eqGuard]
  · rw [eV_errN h]
    simp [go_sem, eqGuard]
theorem row_atT {w : World} {p : Option Addr} {n c : Nat} {l : List En} (h : RowIs w (.slice p n c) l) {j : Nat} (hj : j < l.length) : ∃ b o, p = some ⟨b, o, none⟩ ∧ EnAt w b (o + j * 5) l[j] ∧ b < w.heap.size := by
  obtain ⟨_, p', c', e, hr⟩ := h
  obtain ⟨b, o, rfl, hl, hat⟩ := hr (fun e => by rw [e] at hj; exact absurd hj (by simp))
  injection e with e1 _ _
  exact ⟨b, o, e1, hat j hj, hl⟩
theorem getD_get {cs : List (List En)} {i : Nat} (h : i < cs.length) : cs.getD i [] = cs[i] := by
  rw [List.getD_eq_getElem?_getD, List.getElem?_eq_getElem h]
  rfl
theorem flatten_take {cs : List (List En)} {c : Nat} (h : c < cs.length) : (cs.take (c + 1)).flatten = (cs.take c).flatten ++ cs[c] := by
  rw [List.take_succ_eq_append_getElem h, List.flatten_append]
  simp
/-- Get of a key that is there -/
theorem getS_some {l : List En} {q : Nat} {x0 x1 x2 : Int} {x3 : Bool} {x4 : ByteArray} (hb : badL l = 0) (hq : q < 8) (h : getE l (q : Int) = some ⟨x0, x1, x2, x3, x4⟩) (v : Value) (w : World) (hr : RowIs w v l) :
    Calls Tryd.prog 12 #[v, .int .i64 (q : Nat)] w fun e w' => e = .returned (.tuple #[.agg #[.int .i64 x0, .int .i64 x1, .int .i64 x2, .bool x3, .string x4], .nilIface]) ∧ Below w.heap.size w w' := by
  have hk : isKeyB (q : Int) = true := by
    simp [isKeyB]
    omega
  have c := get_c v l (q : Int) w hr
  rw [cacheGet, if_neg (by simpa using hb), if_neg (by simp [hk]), h] at c
  exact c
theorem getS_none {l : List En} {q : Nat} (hb : badL l = 0) (hq : q < 8) (h : getE l (q : Int) = none) (v : Value) (w : World) (hr : RowIs w v l) :
    Calls Tryd.prog 12 #[v, .int .i64 (q : Nat)] w fun e w' => e = .returned (.tuple #[.agg #[.int .i64 0, .int .i64 0, .int .i64 0, .bool false, .string ⟨#[]⟩], .iface 71 (.int .i64 5)]) ∧ Below w.heap.size w w' := by
  have hk : isKeyB (q : Int) = true := by
    simp [isKeyB]
    omega
  have c := get_c v l (q : Int) w hr
  rw [cacheGet, if_neg (by simpa using hb), if_neg (by simp [hk]), h] at c
  exact c
/-- what Get answers of a right cache, with letters -/
theorem getS_e (v : Value) (l : List En) (q : Nat) (hb : badL l = 0) (hq : q < 8) : ∃ (x0 x1 x2 : Int) (x3 : Bool) (x4 : ByteArray) (EV : Value),
    (∀ w, RowIs w v l → Calls Tryd.prog 12 #[v, .int .i64 (q : Nat)] w fun e w' => e = .returned (.tuple #[.agg #[.int .i64 x0, .int .i64 x1, .int .i64 x2, .bool x3, .string x4], EV]) ∧ Below w.heap.size w w') ∧
    ((EV = .nilIface ∧ getE l (q : Int) = some ⟨x0, x1, x2, x3, x4⟩) ∨ (EV = .iface 71 (.int .i64 5) ∧ getE l (q : Int) = none)) := by
  cases hg : getE l (q : Int) with
  | none => exact ⟨_, _, _, _, _, _, fun w hr => getS_none hb hq hg v w hr, .inr ⟨rfl, rfl⟩⟩
  | some x =>
    obtain ⟨x0, x1, x2, x3, x4⟩ := x
    exact ⟨x0, x1, x2, x3, x4, _, fun w hr => getS_some hb hq hg v w hr, .inl ⟨rfl, rfl⟩⟩
theorem toL_ne {s t : ByteArray} (h : s ≠ t) : (s.toList == t.toList) = false := by
  rw [beq_eq_false_iff_ne]
  intro he
  apply h
  rw [ByteArray.toList_eq, ByteArray.toList_eq] at he
  exact ByteArray.ext (Array.toList_inj.mp he)
theorem vO_eq {p q : List En} {k : Nat} {x0 x1 x2 y0 y1 y2 : Int} {x3 y3 : Bool} {x4 y4 : ByteArray} (hp : getE p (k : Int) = some ⟨x0, x1, x2, x3, x4⟩) (hq : getE q (k : Int) = some ⟨y0, y1, y2, y3, y4⟩) (h : x1 = y1) : vN p k = vN q k := by
  unfold vN
  rw [hp, hq]
  exact h
theorem vO_none {p q : List En} {k : Nat} (hp : getE p (k : Int) = none) (hq : getE q (k : Int) = none) : vN p k = vN q k := by
  unfold vN
  rw [hp, hq]
end Go.Proofs.YtpcnfoaoajfhlaaDoor
