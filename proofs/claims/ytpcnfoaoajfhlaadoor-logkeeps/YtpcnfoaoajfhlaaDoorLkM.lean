/-
  LogKeeps: a log, the document's stores in a row, marks; memory apart from each other.
-/
import Derived.Test.YtpcnfoaoajfhlaaDoorLgO
import Derived.Test.YtpcnfoaoajfhlaaDoorRgO
import Derived.Test.YtpcnfoaoajfhlaaDoorRefCM
import Derived.Laws.AppendOwnNone
namespace Go.Proofs.YtpcnfoaoajfhlaaDoor
set_option linter.unusedVariables false
set_option linter.unusedSimpArgs false
open Go.RowKit

/-- a row of pointers of the call's own -/
def ptrC (bs : List Nat) : List Value := bs.map (fun b => Value.pointer (some ⟨b, 0, none⟩))
theorem ptrC_append (a b : List Nat) : ptrC (a ++ b) = ptrC a ++ ptrC b := List.map_append
theorem ptrC_length (a : List Nat) : (ptrC a).length = a.length := List.length_map ..
def OwnP (B : Nat) (w : World) (v : Value) (bs : List Nat) : Prop := w.ownsRow B 57 1 v bs.length (ptrC bs)
theorem OwnP.one {B : Nat} {w : World} {b x : Nat} (hB : B ≤ b) (h : w.heap[b]? = some (.cells #[.pointer (some ⟨x, 0, none⟩)] 57 (0, 0))) : OwnP B w (.slice (some ⟨b, 0, none⟩) 1 1) [x] :=
  ⟨rfl, .inr ⟨b, 1, _, rfl, hB, h, Nat.le_refl _, by unfold maxLen; omega, rfl, rfl⟩⟩
theorem OwnP.blocks {B : Nat} {w w' : World} {v : Value} {bs : List Nat} (h : OwnP B w v bs) (hb : ∀ c, v.ownBlock = some c → w'.heap[c]? = w.heap[c]?) : OwnP B w' v bs := by
  refine ⟨h.1, ?_⟩
  rcases h.2 with hn | ⟨g, cap, cur, rfl, h1, h2, rest⟩
  · exact .inl hn
  · exact .inr ⟨g, cap, cur, rfl, h1, (hb g rfl).trans h2, rest⟩
theorem OwnP.lt {B : Nat} {w : World} {v : Value} {bs : List Nat} (h : OwnP B w v bs) (c : Nat) (hc : v.ownBlock = some c) : B ≤ c ∧ c < w.heap.size := by
  rcases h.2 with ⟨rfl, _⟩ | ⟨g, cap, cur, rfl, h1, h2, _⟩
  · cases hc
  · obtain rfl : g = c := by simpa [Value.ownBlock] using hc
    exact ⟨h1, (Array.getElem?_eq_some_iff.1 h2).1⟩
theorem OwnP.cells {B : Nat} {w : World} {v : Value} {bs : List Nat} (h : OwnP B w v bs) (h0 : bs ≠ []) : ∃ g cap, v = .slice (some ⟨g, 0, none⟩) bs.length cap ∧ bs.length ≤ cap ∧ cap ≤ maxLen ∧ ∀ i (hi : i < bs.length), w.cell? ⟨g, i, none⟩ = some (.pointer (some ⟨bs[i], 0, none⟩)) := by
  rcases h.2 with ⟨_, hn⟩ | ⟨g, cap, cur, rfl, h1, h2, h3, h4, h5, h6⟩
  · exact absurd (List.length_eq_zero_iff.1 hn) h0
  · refine ⟨g, cap, rfl, h3, h4, fun i hi => ?_⟩
    have hp : (ptrC bs)[i]? = some (.pointer (some ⟨bs[i], 0, none⟩)) := by simp [ptrC, hi]
    rw [← h6] at hp
    have hj : (cur.toList.take (bs.length * 1))[i]? = some (.pointer (some ⟨bs[i], 0, none⟩)) := hp
    rw [List.getElem?_take] at hj
    split at hj
    · have hq : cur[i]? = some (.pointer (some ⟨bs[i], 0, none⟩)) := by simpa using hj
      simp [World.cell?, h2, hq]
    · cases hj
theorem OwnP.take {B : Nat} {w : World} {g cap : Nat} {bs : List Nat} {n0 : Nat} (h : OwnP B w (.slice (some ⟨g, 0, none⟩) n0 cap) bs) (n : Nat) (hn : n ≤ bs.length) : OwnP B w (.slice (some ⟨g, 0, none⟩) n cap) (bs.take n) := by
  refine ⟨by rw [ptrC_length]; simp, ?_⟩
  rcases h.2 with ⟨he, _⟩ | ⟨g', cap', cur, he, h0, hg, h1, h2, h3, h4⟩
  · cases he
  · obtain ⟨rfl, rfl, rfl⟩ : g = g' ∧ n0 = bs.length ∧ cap = cap' := by simpa using he
    refine .inr ⟨g, cap, cur, by rw [List.length_take, Nat.min_eq_left hn], h0, hg, by rw [List.length_take]; omega, h2, h3, ?_⟩
    have e : ptrC (bs.take n) = (ptrC bs).take n := by simp [ptrC, List.map_take]
    rw [e, ← h4, List.take_take, List.length_take, Nat.min_eq_left hn, Nat.min_eq_left (by omega), Nat.mul_one]
theorem infoPt : (Tryd.prog.info? 57).map (fun i => (i.zero, i.size, i.bytes)) = some (some (.pointer none), 1, 8) := by kernel_rfl
def OwnedMoreP (B : Nat) (w : World) (v : Value) (out : List Nat) (e : Nat) : Prop := OwnP B w v (out ++ [e])
theorem wp_appPt {ops : Array Oper} {rest : List Oper} {o : Oper} {ac : Act} {Q : Exit → Act → World → Prop} (w : World) (hgd : o.guard = none) (s x : Operand)
    (ho : o.op = .call { callee := .builtin .append, args := #[s, x], argTypes := #[60, 60] }) (B : Nat) (v : Value) (out : List Nat) (e : Nat) (hs : ac.eval s = v)
    (hown : OwnP B w v out) (vb : Nat) (hx : ac.eval x = .slice (some ⟨vb, 0, none⟩) 1 1) (hv : w.heap[vb]? = some (.cells #[.pointer (some ⟨e, 0, none⟩)] 57 (0, 0))) (hl : out.length ≤ 100) (hB : B ≤ w.heap.size)
    (h : ∀ v' w', OwnedMoreP B w' v' out e → Hid (w.grownBy w' v.ownBlock) → Hid (v'.ownBlock = v.ownBlock ∨ v'.ownBlock = some w.heap.size) → wpList Tryd.prog ops Q rest (ac.put o.dst v') w') : wpList Tryd.prog ops Q (o :: rest) ac w := by
  obtain ⟨i0, hi0, hz0, hz1, hz2⟩ := info_parts infoPt
  have q3 : ∀ (u : Value), u ∈ [Value.pointer (some ⟨e, 0, none⟩)] → u.oneCell' = true := fun u hu => by simp at hu; subst hu; rfl
  have q2 : ∀ (j : Nat) (u : Value), [Value.pointer (some ⟨e, 0, none⟩)][j]? = some u → w.cell? ((⟨vb, 0, none⟩ : Addr).add j) = some u := World.news_of_block hv
  refine wpList_append_own_at w hgd s x 60 ho B 57 i0 _ 1 8 Tryd.underlying60 hi0 hz0 hz1 hz2 rfl (by omega) v out.length (ptrC out) hs hown ⟨vb, 0, none⟩ 1 1 [.pointer (some ⟨e, 0, none⟩)] hx rfl q2 q3 (by unfold maxLen; omega) (by omega) hB ?_
  intro v' w' h1 h2 _ h4
  refine h v' w' (show World.ownsRow _ _ _ _ _ _ _ from ?_) h2 h4
  rw [ptrC_append, List.length_append]
  exact h1
/-- the document's stores in a row -/
def StoresAt (X : Nat → Prop) (w : World) (bs : List Nat) (zs : List (List Deed)) : Prop := bs.length = zs.length ∧ ∀ i (h : i < bs.length) (h' : i < zs.length), ∃ G, RefIs w bs[i] zs[i] G ∧ ∀ c, G c → X c
theorem StoresAt.blocks {X : Nat → Prop} {w w' : World} {bs : List Nat} {zs : List (List Deed)} (h : StoresAt X w bs zs) (hs : w.heap.size ≤ w'.heap.size) (hb : ∀ c, X c → w'.heap[c]? = w.heap[c]?) : StoresAt X w' bs zs :=
  ⟨h.1, fun i hi hi' => by
    obtain ⟨G, hr, hG⟩ := h.2 i hi hi'
    exact ⟨G, hr.blocks hs (fun c hc => hb c (hG c hc)), hG⟩⟩
theorem StoresAt.mono {X Y : Nat → Prop} {w : World} {bs : List Nat} {zs : List (List Deed)} (h : StoresAt X w bs zs) (hx : ∀ c, X c → Y c) : StoresAt Y w bs zs :=
  ⟨h.1, fun i hi hi' => by
    obtain ⟨G, hr, hG⟩ := h.2 i hi hi'
    exact ⟨G, hr, fun c hc => hx c (hG c hc)⟩⟩
theorem StoresAt.more {X : Nat → Prop} {w : World} {bs : List Nat} {zs : List (List Deed)} {b : Nat} {z : List Deed} {G : Nat → Prop} (h : StoresAt X w bs zs) (hr : RefIs w b z G) : StoresAt (fun c => X c ∨ G c) w (bs ++ [b]) (zs ++ [z]) := by
  refine ⟨by simp [h.1], fun i hi hi' => ?_⟩
  by_cases hlt : i < bs.length
  · obtain ⟨G', hr', hG⟩ := h.2 i hlt (by rw [← h.1]; exact hlt)
    refine ⟨G', ?_, fun c hc => .inl (hG c hc)⟩
    rw [List.getElem_append_left hlt, List.getElem_append_left (by rw [← h.1]; exact hlt)]
    exact hr'
  · have e : i = bs.length := by simp at hi; omega
    subst e
    refine ⟨G, ?_, fun c hc => .inr hc⟩
    have e2 : (zs ++ [z])[bs.length] = z := by
      rw [List.getElem_append_right (by rw [h.1]; exact Nat.le_refl _)]
      simp [h.1]
    rw [e2]
    simp
    exact hr
theorem StoresAt.take {X : Nat → Prop} {w : World} {bs : List Nat} {zs : List (List Deed)} (h : StoresAt X w bs zs) (n : Nat) : StoresAt X w (bs.take n) (zs.take n) := by
  refine ⟨by simp [h.1], fun i hi hi' => ?_⟩
  rw [List.length_take] at hi hi'
  obtain ⟨G, hr, hG⟩ := h.2 i (by omega) (by omega)
  exact ⟨G, by rw [List.getElem_take, List.getElem_take]; exact hr, hG⟩
/-- all of it: the log, the stores, their row, the marks -/
structure Kp (S X : Nat → Prop) (N : Nat) (w0 w : World) (j : Nat) (l : List Deed) (p : List Nat) (sf : Nat) (lf : Int) (st : Bool) (vd vm : Value) (bs : List Nat) (zs : List (List Deed)) (ms : List Int) : Prop where
  lg : LgAt S w j l p sf lf st
  sto : StoresAt X w bs zs
  row : OwnP N w vd bs
  mks : OwnI N w vm ms
  sX : ∀ c, S c → N ≤ c ∧ ¬ X c ∧ vd.ownBlock ≠ some c ∧ vm.ownBlock ≠ some c
  xX : ∀ c, X c → N ≤ c ∧ c < w.heap.size ∧ vd.ownBlock ≠ some c ∧ vm.ownBlock ≠ some c
  dm : ∀ c, vd.ownBlock = some c → vm.ownBlock ≠ some c
  bel : Below N w0 w
  hN : N ≤ w.heap.size
theorem OwnI.lt {B : Nat} {w : World} {v : Value} {l : List Int} (h : OwnI B w v l) (c : Nat) (hc : v.ownBlock = some c) : B ≤ c ∧ c < w.heap.size := by
  rcases h.2 with ⟨rfl, _⟩ | ⟨g, cap, cur, rfl, h1, h2, _⟩
  · cases hc
  · obtain rfl : g = c := by simpa [Value.ownBlock] using hc
    exact ⟨h1, (Array.getElem?_eq_some_iff.1 h2).1⟩
theorem OwnI.all {B : Nat} {w w' : World} {v : Value} {l : List Int} (h : OwnI B w v l) (hb : ∀ c, v.ownBlock = some c → w'.heap[c]? = w.heap[c]?) : OwnI B w' v l := h.blocks (fun c hc _ => hb c hc)
/-- the log has turned -/
theorem Kp.log {S X : Nat → Prop} {N : Nat} {w0 w : World} {j : Nat} {l : List Deed} {p : List Nat} {sf : Nat} {lf : Int} {st : Bool} {vd vm : Value} {bs : List Nat} {zs : List (List Deed)} {ms : List Int} (h : Kp S X N w0 w j l p sf lf st vd vm bs zs ms)
    {w' : World} {l' : List Deed} {p' : List Nat} {sf' : Nat} {lf' : Int} {st' : Bool} (ht : LgTo S w w' j l' p' sf' lf' st') : ∃ S', Kp S' X N w0 w' j l' p' sf' lf' st' vd vm bs zs ms := by
  obtain ⟨hk, S', ha, hs⟩ := ht
  refine ⟨S', ha, h.sto.blocks hk.size (fun c hc => hk.block c (h.xX c hc).2.1 (fun hS => (h.sX c hS).2.1 hc)), h.row.blocks (fun c hc => hk.block c (h.row.lt c hc).2 (fun hS => (h.sX c hS).2.2.1 hc)), h.mks.all (fun c hc => hk.block c (h.mks.lt c hc).2 (fun hS => (h.sX c hS).2.2.2 hc)), fun c hc => ?_, fun c hc => ?_, h.dm, ?_, Nat.le_trans h.hN hk.size⟩
  · rcases hs c hc with h1 | h1
    · exact h.sX c h1
    · refine ⟨Nat.le_trans h.hN h1, fun hx => ?_, fun hv => ?_, fun hv => ?_⟩
      · have := (h.xX c hx).2.1; omega
      · have := (h.row.lt c hv).2; omega
      · have := (h.mks.lt c hv).2; omega
  · obtain ⟨h1, h2, h3⟩ := h.xX c hc
    exact ⟨h1, Nat.lt_of_lt_of_le h2 hk.size, h3⟩
  · exact h.bel.trans (hk.below h.hN (fun c hc => (h.sX c hc).1))
theorem Kp.grown {S X : Nat → Prop} {N : Nat} {w0 w : World} {j : Nat} {l : List Deed} {p : List Nat} {sf : Nat} {lf : Int} {st : Bool} {vd vm : Value} {bs : List Nat} {zs : List (List Deed)} {ms : List Int} (h : Kp S X N w0 w j l p sf lf st vd vm bs zs ms)
    {w' : World} (hb : Below w.heap.size w w') : Kp S X N w0 w' j l p sf lf st vd vm bs zs ms :=
  ⟨h.lg.grown hb, h.sto.blocks hb.size (fun c hc => hb.block c (h.xX c hc).2.1), h.row.blocks (fun c hc => hb.block c (h.row.lt c hc).2), h.mks.all (fun c hc => hb.block c (h.mks.lt c hc).2), h.sX,
   fun c hc => ⟨(h.xX c hc).1, Nat.lt_of_lt_of_le (h.xX c hc).2.1 hb.size, (h.xX c hc).2.2⟩, h.dm, h.bel.trans (hb.mono h.hN), Nat.le_trans h.hN hb.size⟩
/-- .. and the store that is made next -/
structure Kq (S X G : Nat → Prop) (N : Nat) (w0 w : World) (j : Nat) (l : List Deed) (p : List Nat) (sf : Nat) (lf : Int) (st : Bool) (vd vm : Value) (bs : List Nat) (zs : List (List Deed)) (ms : List Int) (nb : Nat) (nl : List Deed) : Prop where
  k : Kp S X N w0 w j l p sf lf st vd vm bs zs ms
  nx : RefIs w nb nl G
  gX : ∀ c, G c → N ≤ c ∧ ¬ S c ∧ ¬ X c ∧ vd.ownBlock ≠ some c ∧ vm.ownBlock ≠ some c
theorem Kq.grown {S X G : Nat → Prop} {N : Nat} {w0 w : World} {j : Nat} {l : List Deed} {p : List Nat} {sf : Nat} {lf : Int} {st : Bool} {vd vm : Value} {bs : List Nat} {zs : List (List Deed)} {ms : List Int} {nb : Nat} {nl : List Deed} (h : Kq S X G N w0 w j l p sf lf st vd vm bs zs ms nb nl)
    {w' : World} (hb : Below w.heap.size w w') : Kq S X G N w0 w' j l p sf lf st vd vm bs zs ms nb nl := ⟨h.k.grown hb, h.nx.below hb, h.gX⟩
theorem Kq.log {S X G : Nat → Prop} {N : Nat} {w0 w : World} {j : Nat} {l : List Deed} {p : List Nat} {sf : Nat} {lf : Int} {st : Bool} {vd vm : Value} {bs : List Nat} {zs : List (List Deed)} {ms : List Int} {nb : Nat} {nl : List Deed} (h : Kq S X G N w0 w j l p sf lf st vd vm bs zs ms nb nl)
    {w' : World} {l' : List Deed} {p' : List Nat} {sf' : Nat} {lf' : Int} {st' : Bool} (ht : LgTo S w w' j l' p' sf' lf' st') : ∃ S', Kq S' X G N w0 w' j l' p' sf' lf' st' vd vm bs zs ms nb nl := by
  obtain ⟨hk, S', ha, hs⟩ := ht
  have hlt := h.nx.lt
  obtain ⟨S2, h2⟩ : ∃ S2, S2 = S' := ⟨_, rfl⟩
  have hKp : Kp S' X N w0 w' j l' p' sf' lf' st' vd vm bs zs ms := by
    refine ⟨ha, h.k.sto.blocks hk.size (fun c hc => hk.block c (h.k.xX c hc).2.1 (fun hS => (h.k.sX c hS).2.1 hc)), h.k.row.blocks (fun c hc => hk.block c (h.k.row.lt c hc).2 (fun hS => (h.k.sX c hS).2.2.1 hc)), h.k.mks.all (fun c hc => hk.block c (h.k.mks.lt c hc).2 (fun hS => (h.k.sX c hS).2.2.2 hc)), fun c hc => ?_, fun c hc => ?_, h.k.dm, ?_, Nat.le_trans h.k.hN hk.size⟩
    · rcases hs c hc with h1 | h1
      · exact h.k.sX c h1
      · refine ⟨Nat.le_trans h.k.hN h1, fun hx => ?_, fun hv => ?_, fun hv => ?_⟩
        · have := (h.k.xX c hx).2.1; omega
        · have := (h.k.row.lt c hv).2; omega
        · have := (h.k.mks.lt c hv).2; omega
    · obtain ⟨h1, h2, h3⟩ := h.k.xX c hc
      exact ⟨h1, Nat.lt_of_lt_of_le h2 hk.size, h3⟩
    · exact h.k.bel.trans (hk.below h.k.hN (fun c hc => (h.k.sX c hc).1))
  refine ⟨S', hKp, h.nx.blocks hk.size (fun c hc => hk.block c (hlt c hc) (h.gX c hc).2.1), fun c hc => ?_⟩
  obtain ⟨g1, g2, g3⟩ := h.gX c hc
  refine ⟨g1, fun hS => ?_, g3⟩
  rcases hs c hS with h1 | h1
  · exact g2 h1
  · have := hlt c hc; omega
/-- a store is made -/
theorem Kp.next {S X G : Nat → Prop} {N : Nat} {w0 w : World} {j : Nat} {l : List Deed} {p : List Nat} {sf : Nat} {lf : Int} {st : Bool} {vd vm : Value} {bs : List Nat} {zs : List (List Deed)} {ms : List Int} (h : Kp S X N w0 w j l p sf lf st vd vm bs zs ms)
    {w' : World} (hb : Below w.heap.size w w') {nb : Nat} {nl : List Deed} (hr : RefIs w' nb nl G) (hG : ∀ c, G c → w.heap.size ≤ c) : Kq S X G N w0 w' j l p sf lf st vd vm bs zs ms nb nl :=
  ⟨h.grown hb, hr, fun c hc => by
    have hc' := hG c hc
    refine ⟨Nat.le_trans h.hN hc', fun hS => ?_, fun hx => ?_, fun hv => ?_, fun hv => ?_⟩
    · have := h.lg.lt c hS; omega
    · have := (h.xX c hx).2.1; omega
    · have := (h.row.lt c hv).2; omega
    · have := (h.mks.lt c hv).2; omega⟩
/-- .. turned -/
theorem Kq.turn {S X G : Nat → Prop} {N : Nat} {w0 w : World} {j : Nat} {l : List Deed} {p : List Nat} {sf : Nat} {lf : Int} {st : Bool} {vd vm : Value} {bs : List Nat} {zs : List (List Deed)} {ms : List Int} {nb : Nat} {nl : List Deed} (h : Kq S X G N w0 w j l p sf lf st vd vm bs zs ms nb nl)
    {w' : World} {nl' : List Deed} {G' : Nat → Prop} (hr : RefIs w' nb nl' G') (hG : ∀ c, G' c → G c ∨ w.heap.size ≤ c) (hk : Kept G w w') : Kq S X G' N w0 w' j l p sf lf st vd vm bs zs ms nb nl' := by
  have hblk : ∀ c, c < w.heap.size → ¬ G c → w'.heap[c]? = w.heap[c]? := hk.block
  refine ⟨⟨?_, h.k.sto.blocks hk.size (fun c hc => hblk c (h.k.xX c hc).2.1 (fun hg => (h.gX c hg).2.2.1 hc)), h.k.row.blocks (fun c hc => hblk c (h.k.row.lt c hc).2 (fun hg => (h.gX c hg).2.2.2.1 hc)), h.k.mks.all (fun c hc => hblk c (h.k.mks.lt c hc).2 (fun hg => (h.gX c hg).2.2.2.2 hc)), h.k.sX, fun c hc => ⟨(h.k.xX c hc).1, Nat.lt_of_lt_of_le (h.k.xX c hc).2.1 hk.size, (h.k.xX c hc).2.2⟩, h.k.dm, h.k.bel.trans (hk.below h.k.hN (fun c hc => (h.gX c hc).1)), Nat.le_trans h.k.hN hk.size⟩, hr, fun c hc => ?_⟩
  · obtain ⟨F, b, v, hlg⟩ := h.k.lg
    exact ⟨F, b, v, hlg.blocks hk.size (fun c hc => hblk c (hlg.lt c hc) (fun hg => (h.gX c hg).2.1 hc))⟩
  · rcases hG c hc with h1 | h1
    · exact h.gX c h1
    · refine ⟨Nat.le_trans h.k.hN h1, fun hS => ?_, fun hx => ?_, fun hv => ?_, fun hv => ?_⟩
      · have := h.k.lg.lt c hS; omega
      · have := (h.k.xX c hx).2.1; omega
      · have := (h.k.row.lt c hv).2; omega
      · have := (h.k.mks.lt c hv).2; omega
/-- .. and put behind the others -/
theorem Kq.append {S X G : Nat → Prop} {N : Nat} {w0 w : World} {j : Nat} {l : List Deed} {p : List Nat} {sf : Nat} {lf : Int} {st : Bool} {vd vm : Value} {bs : List Nat} {zs : List (List Deed)} {ms : List Int} {nb : Nat} {nl : List Deed} (h : Kq S X G N w0 w j l p sf lf st vd vm bs zs ms nb nl)
    {w' : World} {vd' : Value} (hg : w.grownBy w' vd.ownBlock) (ho : OwnP N w' vd' (bs ++ [nb])) (hat : vd'.ownBlock = vd.ownBlock ∨ ∀ c, vd'.ownBlock = some c → w.heap.size ≤ c) : Kp S (fun c => X c ∨ G c) N w0 w' j l p sf lf st vd' vm (bs ++ [nb]) (zs ++ [nl]) ms := by
  have hglt := h.nx.lt
  have hblk : ∀ c, c < w.heap.size → vd.ownBlock ≠ some c → w'.heap[c]? = w.heap[c]? := fun c hc hn => hg.block c hc (Ne.symm hn)
  have hoff : ∀ c, c < w.heap.size → vd.ownBlock ≠ some c → vd'.ownBlock ≠ some c := fun c hc hn hv => by
    rcases hat with e | e
    · exact hn (e ▸ hv)
    · have := e c hv; omega
  refine ⟨?_, ?_, ho, h.k.mks.all (fun c hc => hblk c (h.k.mks.lt c hc).2 (fun hv => h.k.dm c hv hc)), fun c hc => ?_, fun c hc => ?_, fun c hc hm => ?_, ?_, Nat.le_trans h.k.hN hg.size⟩
  · obtain ⟨F, b, v, hlg⟩ := h.k.lg
    exact ⟨F, b, v, hlg.blocks hg.size (fun c hc => hblk c (hlg.lt c hc) (h.k.sX c hc).2.2.1)⟩
  · exact (h.k.sto.more h.nx).blocks hg.size (fun c hc => by
      rcases hc with hc | hc
      · exact hblk c (h.k.xX c hc).2.1 (h.k.xX c hc).2.2.1
      · exact hblk c (hglt c hc) (h.gX c hc).2.2.2.1)
  · obtain ⟨s1, s2, s3, s4⟩ := h.k.sX c hc
    exact ⟨s1, fun hx => hx.elim s2 (fun hx => (h.gX c hx).2.1 hc), hoff c (h.k.lg.lt c hc) s3, s4⟩
  · rcases hc with hc | hc
    · obtain ⟨x1, x2, x3, x4⟩ := h.k.xX c hc
      exact ⟨x1, Nat.lt_of_lt_of_le x2 hg.size, hoff c x2 x3, x4⟩
    · obtain ⟨g1, _, _, g4, g5⟩ := h.gX c hc
      exact ⟨g1, Nat.lt_of_lt_of_le (hglt c hc) hg.size, hoff c (hglt c hc) g4, g5⟩
  · have hlt := (h.k.mks.lt c hm).2
    exact hoff c hlt (fun hv => h.k.dm c hv hm) hc
  · exact h.k.bel.trans (below_grownB hg h.k.hN (fun c hc => (h.k.row.lt c hc).1))
/-- a mark more -/
theorem Kp.mark {S X : Nat → Prop} {N : Nat} {w0 w : World} {j : Nat} {l : List Deed} {p : List Nat} {sf : Nat} {lf : Int} {st : Bool} {vd vm : Value} {bs : List Nat} {zs : List (List Deed)} {ms : List Int} (h : Kp S X N w0 w j l p sf lf st vd vm bs zs ms)
    {w' : World} {vm' : Value} {ms' : List Int} (hg : w.grownBy w' vm.ownBlock) (ho : OwnI N w' vm' ms') (hat : vm'.ownBlock = vm.ownBlock ∨ ∀ c, vm'.ownBlock = some c → w.heap.size ≤ c) : Kp S X N w0 w' j l p sf lf st vd vm' bs zs ms' := by
  have hblk : ∀ c, c < w.heap.size → vm.ownBlock ≠ some c → w'.heap[c]? = w.heap[c]? := fun c hc hn => hg.block c hc (Ne.symm hn)
  have hoff : ∀ c, c < w.heap.size → vm.ownBlock ≠ some c → vm'.ownBlock ≠ some c := fun c hc hn hv => by
    rcases hat with e | e
    · exact hn (e ▸ hv)
    · have := e c hv; omega
  refine ⟨?_, h.sto.blocks hg.size (fun c hc => hblk c (h.xX c hc).2.1 (h.xX c hc).2.2.2), h.row.blocks (fun c hc => hblk c (h.row.lt c hc).2 (h.dm c hc)), ho, fun c hc => ?_, fun c hc => ?_, fun c hc => ?_, ?_, Nat.le_trans h.hN hg.size⟩
  · obtain ⟨F, b, v, hlg⟩ := h.lg
    exact ⟨F, b, v, hlg.blocks hg.size (fun c hc => hblk c (hlg.lt c hc) (h.sX c hc).2.2.2)⟩
  · obtain ⟨s1, s2, s3, s4⟩ := h.sX c hc
    exact ⟨s1, s2, s3, hoff c (h.lg.lt c hc) s4⟩
  · obtain ⟨x1, x2, x3, x4⟩ := h.xX c hc
    exact ⟨x1, Nat.lt_of_lt_of_le x2 hg.size, x3, hoff c x2 x4⟩
  · exact hoff c (h.row.lt c hc).2 (h.dm c hc)
  · exact h.bel.trans (below_grownB hg h.hN (fun c hc => (h.mks.lt c hc).1))
/-- both rows cut -/
theorem Kp.cut {S X : Nat → Prop} {N : Nat} {w0 w : World} {j : Nat} {l : List Deed} {p : List Nat} {sf : Nat} {lf : Int} {st : Bool} {gd cd nd gm cm nm : Nat} {bs : List Nat} {zs : List (List Deed)} {ms : List Int} (h : Kp S X N w0 w j l p sf lf st (.slice (some ⟨gd, 0, none⟩) nd cd) (.slice (some ⟨gm, 0, none⟩) nm cm) bs zs ms)
    (n : Nat) (hn : n ≤ bs.length) (hm : n ≤ ms.length) (hI : OwnI N w (.slice (some ⟨gm, 0, none⟩) n cm) (ms.take n)) : Kp S X N w0 w j l p sf lf st (.slice (some ⟨gd, 0, none⟩) n cd) (.slice (some ⟨gm, 0, none⟩) n cm) (bs.take n) (zs.take n) (ms.take n) :=
  ⟨h.lg, h.sto.take n, h.row.take n hn, hI, h.sX, h.xX, h.dm, h.bel, h.hN⟩
theorem intC_take (l : List Int) (n : Nat) : intC (l.take n) = (intC l).take n := by simp [intC, List.map_take]
theorem intC_length (l : List Int) : (intC l).length = l.length := List.length_map ..
theorem OwnI.take {B : Nat} {w : World} {g cap : Nat} {l : List Int} {n0 : Nat} (h : OwnI B w (.slice (some ⟨g, 0, none⟩) n0 cap) l) (n : Nat) (hn : n ≤ l.length) : OwnI B w (.slice (some ⟨g, 0, none⟩) n cap) (l.take n) := by
  refine ⟨by rw [intC_length]; simp, ?_⟩
  rcases h.2 with ⟨he, _⟩ | ⟨g', cap', cur, he, h0, hg, h1, h2, h3, h4⟩
  · cases he
  · obtain ⟨rfl, rfl, rfl⟩ : g = g' ∧ n0 = l.length ∧ cap = cap' := by simpa using he
    refine .inr ⟨g, cap, cur, by rw [List.length_take, Nat.min_eq_left hn], h0, hg, by rw [List.length_take]; omega, h2, h3, ?_⟩
    rw [intC_take, ← h4, List.take_take, List.length_take, Nat.min_eq_left hn, Nat.min_eq_left (by omega), Nat.mul_one]
end Go.Proofs.YtpcnfoaoajfhlaaDoor
