/-
  Mail and the document's mail side by side, beside blocks that neither has.
-/
import Derived.Test.YthpcogpbgjkiaahDoorRmS
import Derived.Test.YthpcogpbgjkiaahDoorPl1
import Derived.Test.YthpcogpbgjkiaahDoorErrA
namespace Go.Proofs.YthpcogpbgjkiaahDoor
set_option linter.unusedVariables false
set_option linter.unusedSimpArgs false
open Go.RowKit

/-- mail at b, the document's at K, apart from each other and from the blocks in P; nothing older than N has turned -/
structure Tm (P : Nat → Prop) (N : Nat) (w0 wc : World) (b K : Nat) (l : List Lt) (q : Nat → Nat → Bool) (l2 : List Lt) (q2 : Nat → Nat → Bool) : Prop where
  s : ∃ S1 S2, MlAt S1 wc b l q ∧ RmAt S2 wc K l2 q2 ∧ (∀ c, S1 c → N ≤ c ∧ ¬ S2 c ∧ ¬ P c) ∧ (∀ c, S2 c → N ≤ c ∧ ¬ P c)
  bel : Below N w0 wc
  hN : N ≤ wc.heap.size
  hP : ∀ c, P c → c < wc.heap.size
theorem Tm.grown {P : Nat → Prop} {N : Nat} {w0 wc w' : World} {b K : Nat} {l l2 : List Lt} {q q2 : Nat → Nat → Bool} (h : Tm P N w0 wc b K l q l2 q2) (hb : Below wc.heap.size wc w') : Tm P N w0 w' b K l q l2 q2 := by
  obtain ⟨S1, S2, h1, h2, h3, h4⟩ := h.s
  exact ⟨⟨S1, S2, h1.grown hb, h2.grown hb, h3, h4⟩, h.bel.trans (hb.mono h.hN), Nat.le_trans h.hN hb.size, fun c hc => Nat.lt_of_lt_of_le (h.hP c hc) hb.size⟩
theorem Tm.less {P P' : Nat → Prop} {N : Nat} {w0 wc : World} {b K : Nat} {l l2 : List Lt} {q q2 : Nat → Nat → Bool} (h : Tm P N w0 wc b K l q l2 q2) (hp : ∀ c, P' c → P c) : Tm P' N w0 wc b K l q l2 q2 := by
  obtain ⟨S1, S2, h1, h2, h3, h4⟩ := h.s
  exact ⟨⟨S1, S2, h1, h2, fun c hc => ⟨(h3 c hc).1, (h3 c hc).2.1, fun h' => (h3 c hc).2.2 (hp c h')⟩, fun c hc => ⟨(h4 c hc).1, fun h' => (h4 c hc).2 (hp c h')⟩⟩, h.bel, h.hN, fun c hc => h.hP c (hp c hc)⟩
/-- a new block is neither's -/
theorem Tm.more {P : Nat → Prop} {N : Nat} {w0 wc w' : World} {b K : Nat} {l l2 : List Lt} {q q2 : Nat → Nat → Bool} (h : Tm P N w0 wc b K l q l2 q2) (hb : Below wc.heap.size wc w') (X : Nat) (hX : wc.heap.size ≤ X) (hX' : X < w'.heap.size) : Tm (fun c => P c ∨ c = X) N w0 w' b K l q l2 q2 := by
  obtain ⟨S1, S2, h1, h2, h3, h4⟩ := h.s
  refine ⟨⟨S1, S2, h1.grown hb, h2.grown hb, fun c hc => ⟨(h3 c hc).1, (h3 c hc).2.1, fun h' => ?_⟩, fun c hc => ⟨(h4 c hc).1, fun h' => ?_⟩⟩, h.bel.trans (hb.mono h.hN), Nat.le_trans h.hN hb.size, fun c hc => ?_⟩
  · rcases h' with h' | h'
    · exact (h3 c hc).2.2 h'
    · have := h1.lt c hc
      omega
  · rcases h' with h' | h'
    · exact (h4 c hc).2 h'
    · have := h2.lt c hc
      omega
  · rcases hc with hc | hc
    · exact Nat.lt_of_lt_of_le (h.hP c hc) hb.size
    · omega
theorem Tm.callM {P : Nat → Prop} {N : Nat} {w0 wc : World} {b K : Nat} {l l2 : List Lt} {q q2 : Nat → Nat → Bool} (h : Tm P N w0 wc b K l q l2 q2) :
    ∃ S, MlAt S wc b l q ∧ ∀ w' l' q', MlTo S wc w' b l' q' → Tm P N w0 w' b K l' q' l2 q2 ∧ ∀ c, P c → w'.heap[c]? = wc.heap[c]? := by
  obtain ⟨S1, S2, h1, h2, h3, h4⟩ := h.s
  refine ⟨S1, h1, fun w' l' q' ht => ?_⟩
  obtain ⟨ht, S', g1, g2⟩ := ht
  have hN := h.hN
  refine ⟨⟨⟨S', S2, g1, h2.turn ht (fun c hc h' => (h3 c h').2.1 hc), fun c hc => ?_, h4⟩, h.bel.trans (ht.below h.hN (fun c hc => (h3 c hc).1)), Nat.le_trans h.hN ht.size, fun c hc => Nat.lt_of_lt_of_le (h.hP c hc) ht.size⟩, fun c hc => ht.block c (h.hP c hc) (fun h' => (h3 c h').2.2 hc)⟩
  rcases g2 c hc with h' | h'
  · exact h3 c h'
  · refine ⟨by omega, fun hs => ?_, fun hp => ?_⟩
    · have := h2.lt c hs
      omega
    · have := h.hP c hp
      omega
theorem Tm.callK {P : Nat → Prop} {N : Nat} {w0 wc : World} {b K : Nat} {l l2 : List Lt} {q q2 : Nat → Nat → Bool} (h : Tm P N w0 wc b K l q l2 q2) :
    ∃ S, RmAt S wc K l2 q2 ∧ ∀ w' l' q', RmTo S wc w' K l' q' → Tm P N w0 w' b K l q l' q' ∧ ∀ c, P c → w'.heap[c]? = wc.heap[c]? := by
  obtain ⟨S1, S2, h1, h2, h3, h4⟩ := h.s
  refine ⟨S2, h2, fun w' l' q' ht => ?_⟩
  obtain ⟨ht, S', g1, g2⟩ := ht
  have hN := h.hN
  refine ⟨⟨⟨S1, S', h1.turn ht (fun c hc h' => (h3 c hc).2.1 h'), g1, fun c hc => ?_, fun c hc => ?_⟩, h.bel.trans (ht.below h.hN (fun c hc => (h4 c hc).1)), Nat.le_trans h.hN ht.size, fun c hc => Nat.lt_of_lt_of_le (h.hP c hc) ht.size⟩, fun c hc => ht.block c (h.hP c hc) (fun h' => (h4 c h').2 hc)⟩
  · refine ⟨(h3 c hc).1, fun hs => ?_, (h3 c hc).2.2⟩
    rcases g2 c hs with h' | h'
    · exact (h3 c hc).2.1 h'
    · have := h1.lt c hc
      omega
  · rcases g2 c hc with h' | h'
    · exact h4 c h'
    · refine ⟨by omega, fun hp => ?_⟩
      have := h.hP c hp
      omega
/-- the numbers of a step -/
structure Z3 (w : World) (A : Nat) (z0 z1 z2 : Int) : Prop where
  c0 : w.cell? ⟨A, 0, none⟩ = some (.int .i64 z0)
  c1 : w.cell? ⟨A, 1, none⟩ = some (.int .i64 z1)
  c2 : w.cell? ⟨A, 2, none⟩ = some (.int .i64 z2)
theorem Z3.of_block {w w' : World} {A : Nat} {z0 z1 z2 : Int} (h : Z3 w A z0 z1 z2) (hb : w'.heap[A]? = w.heap[A]?) : Z3 w' A z0 z1 z2 :=
  ⟨(World.cell?_of_block (a := ⟨A, 0, none⟩) hb).trans h.c0, (World.cell?_of_block (a := ⟨A, 1, none⟩) hb).trans h.c1, (World.cell?_of_block (a := ⟨A, 2, none⟩) hb).trans h.c2⟩
theorem Z3.lt {w : World} {A : Nat} {z0 z1 z2 : Int} (h : Z3 w A z0 z1 z2) : A < w.heap.size := World.block_lt_of_cell? w _ h.c0
theorem Z3.grown {w w' : World} {A : Nat} {z0 z1 z2 : Int} (h : Z3 w A z0 z1 z2) (hb : Below w.heap.size w w') : Z3 w' A z0 z1 z2 := h.of_block (hb.block A h.lt)
/-- is a number a place of so many? -/
def inK (n : Nat) (i : Int) : Bool := decide (0 ≤ i) && decide (i < n)
theorem inK_nat {n : Nat} {i : Int} (h : inK n i = true) : ∃ k : Nat, i = k ∧ k < n := by
  simp [inK] at h
  exact ⟨i.toNat, by omega, by omega⟩
/-- six times six Booleans, none of which is so -/
theorem rm_new (w : World) (b : Nat) (h : b = w.heap.size) : RmAt (fun c => c = b) (w.alloc (.cells #[.slice none 0 0, .bool false, .bool false, .bool false, .bool false, .bool false, .bool false, .bool false, .bool false, .bool false, .bool false, .bool false, .bool false, .bool false, .bool false, .bool false, .bool false, .bool false, .bool false, .bool false, .bool false, .bool false, .bool false, .bool false, .bool false, .bool false, .bool false, .bool false, .bool false, .bool false, .bool false, .bool false, .bool false, .bool false, .bool false, .bool false, .bool false] 31)) b [] (fun _ _ => false) := by
  subst h
  have hc : ∀ k, k < 36 → (w.alloc (.cells #[.slice none 0 0, .bool false, .bool false, .bool false, .bool false, .bool false, .bool false, .bool false, .bool false, .bool false, .bool false, .bool false, .bool false, .bool false, .bool false, .bool false, .bool false, .bool false, .bool false, .bool false, .bool false, .bool false, .bool false, .bool false, .bool false, .bool false, .bool false, .bool false, .bool false, .bool false, .bool false, .bool false, .bool false, .bool false, .bool false, .bool false, .bool false] 31)).cell? ⟨w.heap.size, 1 + k, none⟩ = some (.bool false) := by
    intro k hk
    have e : (w.alloc (.cells #[.slice none 0 0, .bool false, .bool false, .bool false, .bool false, .bool false, .bool false, .bool false, .bool false, .bool false, .bool false, .bool false, .bool false, .bool false, .bool false, .bool false, .bool false, .bool false, .bool false, .bool false, .bool false, .bool false, .bool false, .bool false, .bool false, .bool false, .bool false, .bool false, .bool false, .bool false, .bool false, .bool false, .bool false, .bool false, .bool false, .bool false, .bool false] 31)).cell? ⟨w.heap.size, 1 + k, none⟩ = (#[.slice none 0 0, .bool false, .bool false, .bool false, .bool false, .bool false, .bool false, .bool false, .bool false, .bool false, .bool false, .bool false, .bool false, .bool false, .bool false, .bool false, .bool false, .bool false, .bool false, .bool false, .bool false, .bool false, .bool false, .bool false, .bool false, .bool false, .bool false, .bool false, .bool false, .bool false, .bool false, .bool false, .bool false, .bool false, .bool false, .bool false, .bool false] : Array Value)[1 + k]? := by simp
    rw [e]
    have hz : (#[.slice none 0 0, .bool false, .bool false, .bool false, .bool false, .bool false, .bool false, .bool false, .bool false, .bool false, .bool false, .bool false, .bool false, .bool false, .bool false, .bool false, .bool false, .bool false, .bool false, .bool false, .bool false, .bool false, .bool false, .bool false, .bool false, .bool false, .bool false, .bool false, .bool false, .bool false, .bool false, .bool false, .bool false, .bool false, .bool false, .bool false, .bool false] : Array Value) = #[Value.slice none 0 0] ++ Array.replicate 36 (.bool false) := by rfl
    rw [hz, Array.getElem?_append_right (by simp)]
    rw [Array.getElem?_replicate, if_pos (by simp; omega)]
  refine ⟨.slice none 0 0, by simp, fun x y hx hy => ?_, fun j => by simp, OwnL.nil _, by simp [Value.ownBlock], rfl, fun c hc => by simp [Value.ownBlock] at hc, fun c hc => by rw [hc]; simp⟩
  rw [Nat.add_assoc]
  exact hc _ (by omega)
theorem send_40 {l : List Lt} {q : Nat → Nat → Bool} {x : Lt} (h : l.length ≤ 40) : (sendL l q x).length ≤ 40 := by
  unfold sendL
  split
  · rename_i h1
    have h2 : ¬ 40 ≤ l.length := fun h3 => by
      have := h1.1
      unfold sendE at this
      rw [if_pos h3] at this
      split at this
      · omega
      · split at this <;> omega
    simp
    omega
  · exact h
theorem lose_40 {l : List Lt} {i : Int} (h : l.length ≤ 40) : (loseL l i).length ≤ 40 := by
  unfold loseL
  split
  · rw [List.length_eraseIdx]
    split <;> omega
  · exact h
theorem twice_40 {l : List Lt} {i : Int} (h : l.length ≤ 40) : (twiceL l i).length ≤ 40 := by
  unfold twiceL
  split
  · rename_i h1
    have h2 : ¬ 40 ≤ l.length := fun h3 => by
      unfold twiceE at h1
      rw [if_pos h3] at h1
      split at h1 <;> omega
    simp
    omega
  · exact h
/-- a way is cut, or no more -/
theorem Rm.recut {S : Nat → Prop} {w : World} {b : Nat} {v : Value} {l : List Lt} {q : Nat → Nat → Bool} (h : Rm S w b v l q) (x y : Nat) (hx : x < 6) (hy : y < 6) (c : Bool) : RmTo S w (w.setCell ⟨b, 1 + x * 6 + y, none⟩ (.bool c)) b l (fun a e => if a = x ∧ e = y then c else q a e) := by
  refine ⟨(Turn.refl S w).set b _ h.s0 _, S, ⟨v, ?_, fun a e ha he => ?_, fun j => ?_, ?_, h.n0, h.s0, h.s2, fun c hc => ?_⟩, fun c hc => .inl hc⟩
  · rw [World.cell?_setCell_other _ _ _ _ (by simp)]
    exact h.c0
  · by_cases hae : a = x ∧ e = y
    · obtain ⟨rfl, rfl⟩ := hae
      rw [World.cell?_setCell_same _ _ _ (h.cq a e ha he)]
      simp
    · have hne : (⟨b, 1 + x * 6 + y, none⟩ : Addr) ≠ ⟨b, 1 + a * 6 + e, none⟩ := fun h' => hae (by
        have h2 : 1 + x * 6 + y = 1 + a * 6 + e := by injection h'
        omega)
      rw [World.cell?_setCell_other _ _ _ _ hne]
      simp only [if_neg hae]
      exact h.cq a e ha he
  · rw [World.frozen?_setCell]
    exact h.fz j
  · exact h.own.blocks (fun c hc => Below.heap_setCell _ _ _ c (fun e => h.n0 (hc.trans (congrArg some e))))
  · rw [World.size_setCell]
    exact h.lt c hc
/-- what Give gives -/
def giveX (l : List Lt) (i : Int) : Lt := if inK l.length i = true then (l[i.toNat]?).getD noLt else noLt
theorem giveX_no {l : List Lt} {i : Int} (h : inK l.length i = false) : giveX l i = noLt := by rw [giveX, h]; rfl
theorem giveX_yes {l : List Lt} {k : Nat} (h : k < l.length) : giveX l k = l[k] := by
  have h1 : inK l.length k = true := by simp [inK]; omega
  rw [giveX, if_pos h1, Int.toNat_natCast, List.getElem?_eq_getElem h]
  rfl
theorem mlGive_n {S : Nat → Prop} {w : World} {b : Nat} {l l' : List Lt} {q : Nat → Nat → Bool} {i m : Int} {f d k v a : Int} {g : Bool} {t : ByteArray} (h : MlAt S w b l q) (hm : hasE l.length i = m) (hl : loseL l i = l') (hx : giveX l i = ⟨f, d, ⟨k, v, a, g, t⟩⟩) :
    Calls Tryd.prog 10 #[.pointer (some ⟨b, 0, none⟩), .int .i64 i] w fun e w' => e = .returned (.tuple #[.agg #[.int .i64 f, .int .i64 d, .int .i64 k, .int .i64 v, .int .i64 a, .bool g, .string t], eV m]) ∧ MlTo S w w' b l' q := by
  subst hm hl
  cases hc : inK l.length i
  · have hc' : (decide (0 ≤ i) && decide (i < l.length)) = false := hc
    rw [giveX_no hc] at hx
    have e0 : noLt = ⟨0, 0, ⟨0, 0, 0, false, ⟨#[]⟩⟩⟩ := rfl
    rw [e0] at hx
    injection hx with e1 e2 e3
    injection e3 with e3 e4 e5 e6 e7
    subst e1 e2 e3 e4 e5 e6 e7
    refine (mlGive_err h hc').mono ?_
    rintro e w' ⟨rfl, hb⟩
    rw [hasE, hc', loseL, hc', if_neg (by simp), if_neg (by simp), eV_not (by omega)]
    exact ⟨rfl, h.to hb⟩
  · obtain ⟨n, rfl, hn⟩ := inK_nat hc
    have hc' : (decide (0 ≤ (n : Int)) && decide ((n : Int) < l.length)) = true := hc
    rw [giveX_yes hn] at hx
    rw [hasE, hc', loseL, hc', if_pos rfl, if_pos rfl, eV_nil rfl, Int.toNat_natCast]
    exact mlGive_ok n hn h f d k v a g t hx
theorem mlCut_n {S : Nat → Prop} {w : World} {b : Nat} {l : List Lt} {q q' : Nat → Nat → Bool} {f d m : Int} {c : Bool} (h : MlAt S w b l q) (hm : endsE f d = m) (hq : cutQ q f d c = q') :
    Calls Tryd.prog 14 #[.pointer (some ⟨b, 0, none⟩), .int .i64 f, .int .i64 d, .bool c] w fun e w' => e = .returned (eV m) ∧ MlTo S w w' b l q' := by
  subst hq
  exact mlCut_c h f d m c hm
theorem Tm.cellK {P : Nat → Prop} {N : Nat} {w0 wc : World} {b K : Nat} {l l2 : List Lt} {q q2 : Nat → Nat → Bool} (h : Tm P N w0 wc b K l q l2 q2) : ∃ p cap, wc.cell? ⟨K, 0, none⟩ = some (.slice p l2.length cap) := by
  obtain ⟨S1, S2, h1, ⟨v, h2⟩, h3, h4⟩ := h.s
  obtain ⟨p, cap, rfl⟩ := h2.own.slice
  exact ⟨p, cap, h2.c0⟩
theorem Tm.farK {P : Nat → Prop} {N : Nat} {w0 wc : World} {b K : Nat} {l l2 : List Lt} {q q2 : Nat → Nat → Bool} (h : Tm P N w0 wc b K l q l2 q2) {v : Value} (hc : wc.cell? ⟨K, 0, none⟩ = some v) : (∀ c, v.ownBlock = some c → ¬ P c) ∧ ¬ P K := by
  obtain ⟨S1, S2, h1, ⟨v', h2⟩, h3, h4⟩ := h.s
  have e : v' = v := by
    have := h2.c0.symm.trans hc
    simpa using this
  subst e
  exact ⟨fun c hcv => (h4 c (h2.s2 c hcv)).2, (h4 K h2.s0).2⟩
theorem Tm.rowK {P : Nat → Prop} {N : Nat} {w0 wc : World} {b K : Nat} {l l2 : List Lt} {q q2 : Nat → Nat → Bool} (h : Tm P N w0 wc b K l q l2 q2) (i : Nat) (hi : i < l2.length) : ∃ G cap, wc.cell? ⟨K, 0, none⟩ = some (.slice (some ⟨G, 0, none⟩) l2.length cap) ∧ G < wc.heap.size ∧ LtAt wc G (i * 7) l2[i] := by
  obtain ⟨S1, S2, h1, ⟨v, h2⟩, h3, h4⟩ := h.s
  rcases h2.own.2 with ⟨rfl, h0⟩ | ⟨G, cap, cur, rfl, _, hG, hc1, hc2, hc3, hc4⟩
  · omega
  refine ⟨G, cap, h2.c0, (Array.getElem?_eq_some_iff.1 hG).1, ?_⟩
  have hcell : ∀ j u, (rowL l2)[j]? = some u → wc.cell? ⟨G, j, none⟩ = some u := fun j u hu => by
    have := World.ownsRow.cells h2.own (g := G) rfl j u hu
    simpa [Addr.add_lit] using this
  obtain ⟨a0, a1, a2, a3, a4, a5, a6⟩ := rowL_get l2 i hi
  exact ⟨hcell _ _ a0, hcell _ _ a1, hcell _ _ a2, hcell _ _ a3, hcell _ _ a4, hcell _ _ a5, hcell _ _ a6⟩
theorem rOut_n {S : Nat → Prop} {w : World} {b : Nat} {l l' : List Lt} {q : Nat → Nat → Bool} {i : Nat} (h : RmAt S w b l q) (hi : i < l.length) (hl : l.length ≤ 40) (h' : loseL l i = l') :
    Calls Tryd.prog 9 #[.pointer (some ⟨b, 0, none⟩), .int .i64 i] w fun e w' => e = .returned (.tuple #[]) ∧ RmTo S w w' b l' q := by
  have hc : (decide (0 ≤ (i : Int)) && decide ((i : Int) < l.length)) = true := by simp; omega
  rw [loseL, hc, if_pos rfl, Int.toNat_natCast] at h'
  subst h'
  exact rOut_c i hi hl h
/-- append, not laid open: its run is then met as a fact -/
def appG (ats : Array TypeId) (ty : TypeId) (args : Array Value) : Sem Value := Builtin.append_ ats ty args
theorem appG_is (ats : Array TypeId) (ty : TypeId) (args : Array Value) : Builtin.append_ ats ty args = appG ats ty args := rfl
end Go.Proofs.YthpcogpbgjkiaahDoor
