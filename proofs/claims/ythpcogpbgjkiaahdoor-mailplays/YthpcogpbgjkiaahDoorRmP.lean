/-
  The document's mail in memory (mereref2.Mail): a row of letters and six times six Booleans behind a pointer; its Ends, Send, Out by their contracts.
-/
import Derived.Test.YthpcogpbgjkiaahDoorMlL
import Derived.Test.YthpcogpbgjkiaahDoorRfE2
import Derived.Maps.AppendAt
namespace Go.Proofs.YthpcogpbgjkiaahDoor
set_option linter.unusedVariables false
set_option linter.unusedSimpArgs false
open Go.RowKit
attribute [local go_sem ↓] Go.wp_at_zero Go.wp_at_succ

theorem rEnds_c (f d : Int) (w : World) : Calls Tryd.prog 13 #[.int .i64 f, .int .i64 d] w fun e w' => e = .returned (.int .i64 (endsE f d)) ∧ w = w' := by
  obtain ⟨m, HM⟩ : ∃ m, Hid (endsE f d = m) := ⟨_, rfl⟩
  have hm : endsE f d = m := HM.out
  rw [HM.out]
  unfold endsE isNd at hm
  cases h0 : decide (f < 0)
  · have h0' : decide (0 ≤ f) = true := by simp at h0 ⊢; omega
    cases h1 : decide (5 < f)
    · have h1' : decide (f < 6) = true := by simp at h1 ⊢; omega
      cases h2 : decide (d < 0)
      · have h2' : decide (0 ≤ d) = true := by simp at h2 ⊢; omega
        cases h3 : decide (5 < d)
        · have h3' : decide (d < 6) = true := by simp at h3 ⊢; omega
          rw [h0', h1', h2', h3'] at hm
          by_cases e : f = d
          · have HE : Hid (m = 3) := by show m = 3; rw [← hm, if_pos e]; rfl
            have hb : (f == d) = true := by simp [e]
            clear hm e h0' h1' h2' h3'
            rw [HE.out]
            go_enter Tryd.func13, Tryd.ntmps13
            go_wp2_with fail
            go_ret
            exact ⟨rfl, rfl⟩
          · have HE : Hid (m = 0) := by show m = 0; rw [← hm, if_neg e]; rfl
            have hb : (f == d) = false := by simp [e]
            clear hm e h0' h1' h2' h3'
            rw [HE.out]
            go_enter Tryd.func13, Tryd.ntmps13
            go_wp2_with fail
            go_ret
            exact ⟨rfl, rfl⟩
        · have h3' : decide (d < 6) = false := by simp at h3 ⊢; omega
          rw [h0', h1', h2', h3'] at hm
          have HE : Hid (m = 1) := hm.symm
          clear hm h0' h1' h2' h3'
          rw [HE.out]
          go_enter Tryd.func13, Tryd.ntmps13
          go_wp2_with fail
          go_ret
          exact ⟨rfl, rfl⟩
      · have h2' : decide (0 ≤ d) = false := by simp at h2 ⊢; omega
        rw [h0', h1', h2'] at hm
        have HE : Hid (m = 1) := hm.symm
        clear hm h0' h1' h2'
        rw [HE.out]
        go_enter Tryd.func13, Tryd.ntmps13
        go_wp2_with fail
        go_ret
        exact ⟨rfl, rfl⟩
    · have h1' : decide (f < 6) = false := by simp at h1 ⊢; omega
      rw [h0', h1'] at hm
      have HE : Hid (m = 1) := hm.symm
      clear hm h0' h1'
      rw [HE.out]
      go_enter Tryd.func13, Tryd.ntmps13
      go_wp2_with fail
      go_ret
      exact ⟨rfl, rfl⟩
  · have h0' : decide (0 ≤ f) = false := by simp at h0 ⊢; omega
    rw [h0'] at hm
    have HE : Hid (m = 1) := hm.symm
    clear hm h0'
    rw [HE.out]
    go_enter Tryd.func13, Tryd.ntmps13
    go_wp2_with fail
    go_ret
    exact ⟨rfl, rfl⟩
theorem rEnds_b {f d m : Int} (h : endsE f d = m) (w : World) : Calls Tryd.prog 13 #[.int .i64 f, .int .i64 d] w fun e w' => e = .returned (.int .i64 m) ∧ w = w' := by
  subst h
  exact rEnds_c f d w
/-- a whole row of letters appended to a row of the call's own -/
theorem wp_appLs {ops : Array Oper} {rest : List Oper} {o : Oper} {ac : Act} {Q : Exit → Act → World → Prop} (w : World) (hgd : o.guard = none) (s x : Operand)
    (ho : o.op = .call { callee := .builtin .append, args := #[s, x], argTypes := #[27, 27] }) (v : Value) (out more : List Lt) (hs : ac.eval s = v)
    (hown : OwnL w v out) (ad : Addr) (m c : Nat) (hx : ac.eval x = .slice (some ad) m c) (hm : more.length = m) (hv : ∀ j u, (rowL more)[j]? = some u → w.cell? (ad.add j) = some u) (hl : out.length + more.length ≤ 2000)
    (h : ∀ v' w', OwnL w' v' (out ++ more) → Hid (w.grownBy w' v.ownBlock) → Hid (v'.ownBlock = v.ownBlock ∨ v'.ownBlock = some w.heap.size) → wpList Tryd.prog ops Q rest (ac.put o.dst v') w') : wpList Tryd.prog ops Q (o :: rest) ac w := by
  obtain ⟨i0, hi0, hz0, hz1, hz2⟩ := info_parts infoLt
  refine wpList_append_own_at w hgd s x 27 ho 0 37 i0 _ 7 64 Tryd.underlying27 hi0 hz0 hz1 hz2 rfl (by omega) v out.length (rowL out) hs hown ad m c (rowL more) hx (by rw [rowL_length, hm]) hv (rowL_one more) (by unfold maxLen; omega) (by omega) (Nat.zero_le _) ?_
  intro v' w' h1 h2 _ h4
  refine h v' w' (show World.ownsRow _ _ _ _ _ _ _ from ?_) h2 h4
  rw [rowL_append, List.length_append, hm]
  exact h1
/-- the document's mail behind a pointer; all of it lies in S -/
structure Rm (S : Nat → Prop) (w : World) (b : Nat) (v : Value) (l : List Lt) (q : Nat → Nat → Bool) : Prop where
  c0 : w.cell? ⟨b, 0, none⟩ = some v
  cq : ∀ x y : Nat, x < 6 → y < 6 → w.cell? ⟨b, 1 + x * 6 + y, none⟩ = some (.bool (q x y))
  fz : ∀ j, w.frozen? ⟨b, j, none⟩ = false
  own : OwnL w v l
  n0 : v.ownBlock ≠ some b
  s0 : S b
  s2 : ∀ c, v.ownBlock = some c → S c
  lt : ∀ c, S c → c < w.heap.size
def RmAt (S : Nat → Prop) (w : World) (b : Nat) (l : List Lt) (q : Nat → Nat → Bool) : Prop := ∃ v, Rm S w b v l q
def RmTo (S : Nat → Prop) (w w' : World) (b : Nat) (l : List Lt) (q : Nat → Nat → Bool) : Prop := Turn S w w' ∧ ∃ S', RmAt S' w' b l q ∧ ∀ c, S' c → S c ∨ w.heap.size ≤ c
theorem Rm.blocks {S : Nat → Prop} {w w' : World} {b : Nat} {v : Value} {l : List Lt} {q : Nat → Nat → Bool} (h : Rm S w b v l q) (hs : w.heap.size ≤ w'.heap.size) (hb : ∀ c, S c → w'.heap[c]? = w.heap[c]?) : Rm S w' b v l q :=
  ⟨(World.cell?_of_block (a := ⟨b, 0, none⟩) (hb b h.s0)).trans h.c0, fun x y hx hy => (World.cell?_of_block (a := ⟨b, 1 + x * 6 + y, none⟩) (hb b h.s0)).trans (h.cq x y hx hy), fun j => (World.frozen?_of_block (a := ⟨b, j, none⟩) (hb b h.s0)).trans (h.fz j), h.own.blocks (fun c hc => hb c (h.s2 c hc)), h.n0, h.s0, h.s2, fun c hc => Nat.lt_of_lt_of_le (h.lt c hc) hs⟩
theorem RmAt.blocks {S : Nat → Prop} {w w' : World} {b : Nat} {l : List Lt} {q : Nat → Nat → Bool} (h : RmAt S w b l q) (hs : w.heap.size ≤ w'.heap.size) (hb : ∀ c, S c → w'.heap[c]? = w.heap[c]?) : RmAt S w' b l q := by
  obtain ⟨v, h1⟩ := h
  exact ⟨v, h1.blocks hs hb⟩
theorem RmAt.lt {S : Nat → Prop} {w : World} {b : Nat} {l : List Lt} {q : Nat → Nat → Bool} (h : RmAt S w b l q) : ∀ c, S c → c < w.heap.size := by
  obtain ⟨v, h1⟩ := h
  exact h1.lt
theorem RmAt.grown {S : Nat → Prop} {w w' : World} {b : Nat} {l : List Lt} {q : Nat → Nat → Bool} (h : RmAt S w b l q) (hb : Below w.heap.size w w') : RmAt S w' b l q := h.blocks hb.size fun c hc => hb.block c (h.lt c hc)
theorem RmAt.turn {S T : Nat → Prop} {w w' : World} {b : Nat} {l : List Lt} {q : Nat → Nat → Bool} (h : RmAt S w b l q) (ht : Turn T w w') (hd : ∀ c, S c → ¬ T c) : RmAt S w' b l q := h.blocks ht.size fun c hc => ht.block c (h.lt c hc) (hd c hc)
theorem RmAt.to {S : Nat → Prop} {w w' : World} {b : Nat} {l : List Lt} {q : Nat → Nat → Bool} (h : RmAt S w b l q) (hb : Below w.heap.size w w') : RmTo S w w' b l q := ⟨Turn.of_below hb, S, h.grown hb, fun c hc => .inl hc⟩
theorem RmTo.after {S : Nat → Prop} {w w1 w' : World} {b : Nat} {l : List Lt} {q : Nat → Nat → Bool} (hb : Below w.heap.size w w1) (h : RmTo S w1 w' b l q) : RmTo S w w' b l q := by
  obtain ⟨ht, S', h1, h2⟩ := h
  have hs := hb.size
  refine ⟨(Turn.of_below hb).trans ht (fun c hc => .inl hc), S', h1, fun c hc => ?_⟩
  rcases h2 c hc with h | h
  · exact .inl h
  · exact .inr (by omega)
/-- the row grew, its new value is stored -/
theorem Rm.sent {S : Nat → Prop} {W w4 : World} {b n cap' G : Nat} {v : Value} {l : List Lt} {q : Nat → Nat → Bool} {o : Obj} {x : Lt} (h : Rm S W b v l q) (hn : l.length = n) (hgrow : (W.alloc o).drew.grownBy w4 v.ownBlock)
    (hown : w4.ownsRow 0 37 7 (.slice (some ⟨G, 0, none⟩) (n + 1) cap') (n + 1) (rowL l ++ x.cells)) (hat : v.ownBlock = some G ∨ G = W.heap.size + 1) (hlt : G < w4.heap.size) :
    RmTo S W (w4.setCell ⟨b, 0, none⟩ (.slice (some ⟨G, 0, none⟩) (n + 1) cap')) b (l ++ [x]) q := by
  have hsz : (W.alloc o).drew.heap.size = W.heap.size + 1 := by simp
  have hs4 : W.heap.size + 1 ≤ w4.heap.size := by have := hgrow.size; omega
  have hb : ∀ c, c < W.heap.size → v.ownBlock ≠ some c → w4.heap[c]? = W.heap[c]? := fun c hc hv => (hgrow.block c (by omega) (fun e => hv e.symm)).trans (Below.heap_alloc _ _ _ hc)
  have lb := h.lt b h.s0
  have b4 := hb b lb h.n0
  have hGb : G ≠ b := fun e => by
    rcases hat with h1 | h1
    · exact h.n0 (by rw [← e]; exact h1)
    · omega
  have hG : ∀ c, (Value.slice (some ⟨G, 0, none⟩) (n + 1) cap').ownBlock = some c → G = c := fun c hc => by simpa [Value.ownBlock] using hc
  have ho : OwnL w4 (.slice (some ⟨G, 0, none⟩) (n + 1) cap') (l ++ [x]) := by
    show World.ownsRow _ _ _ _ _ _ _
    rw [rowL_append, List.length_append, hn]
    simpa [rowL] using hown
  refine ⟨⟨hgrow.os, hgrow.tape, hgrow.output, by rw [World.size_setCell]; omega, fun c hc hs => ?_⟩, fun c => S c ∨ c = G, ⟨_, World.cell?_setCell_same _ _ _ ((World.cell?_of_block (a := ⟨b, 0, none⟩) b4).trans h.c0), fun x y hx hy => ?_, fun j => ?_, ?_, fun e => hGb (hG _ e), .inl h.s0, fun c hc => .inr (hG c hc).symm, fun c hc => ?_⟩, fun c hc => ?_⟩
  · rw [Below.heap_setCell _ _ _ c (fun e => hs (by rw [e]; exact h.s0))]
    exact hb c hc (fun e => hs (h.s2 c e))
  · rw [World.cell?_setCell_other _ _ _ _ (by simp)]
    exact (World.cell?_of_block (a := ⟨b, 1 + x * 6 + y, none⟩) b4).trans (h.cq x y hx hy)
  · rw [World.frozen?_setCell]
    exact (World.frozen?_of_block (a := ⟨b, j, none⟩) b4).trans (h.fz j)
  · exact ho.blocks (fun c hc => Below.heap_setCell _ _ _ c (fun e => hGb ((hG c hc).trans e)))
  · rw [World.size_setCell]
    rcases hc with hc | hc
    · have := h.lt c hc
      omega
    · omega
  · rcases hc with hc | hc
    · exact .inl hc
    · rcases hat with h1 | h1
      · exact .inl (h.s2 c (by rw [hc]; exact h1))
      · exact .inr (by omega)
/-- a row that lies in new memory, its value stored -/
theorem Rm.other {S : Nat → Prop} {W w4 : World} {b : Nat} {v v' : Value} {l l' : List Lt} {q : Nat → Nat → Bool} (h : Rm S W b v l q) (hb : Below W.heap.size W w4) (hown : OwnL w4 v' l') (hat : ∀ c, v'.ownBlock = some c → W.heap.size ≤ c) :
    RmTo S W (w4.setCell ⟨b, 0, none⟩ v') b l' q := by
  have lb := h.lt b h.s0
  have b4 := hb.block b lb
  have hs := hb.size
  have hGb : v'.ownBlock ≠ some b := fun e => by have := hat b e; omega
  refine ⟨⟨hb.os, hb.tape, hb.output, by rw [World.size_setCell]; exact hs, fun c hc hs => ?_⟩, fun c => S c ∨ v'.ownBlock = some c, ⟨_, World.cell?_setCell_same _ _ _ ((World.cell?_of_block (a := ⟨b, 0, none⟩) b4).trans h.c0), fun x y hx hy => ?_, fun j => ?_, ?_, hGb, .inl h.s0, fun c hc => .inr hc, fun c hc => ?_⟩, fun c hc => ?_⟩
  · rw [Below.heap_setCell _ _ _ c (fun e => hs (by rw [e]; exact h.s0))]
    exact hb.block c hc
  · rw [World.cell?_setCell_other _ _ _ _ (by simp)]
    exact (World.cell?_of_block (a := ⟨b, 1 + x * 6 + y, none⟩) b4).trans (h.cq x y hx hy)
  · rw [World.frozen?_setCell]
    exact (World.frozen?_of_block (a := ⟨b, j, none⟩) b4).trans (h.fz j)
  · exact hown.blocks (fun c hc => Below.heap_setCell _ _ _ c (fun e => hGb (hc.trans (congrArg some e))))
  · rw [World.size_setCell]
    rcases hc with hc | hc
    · have := h.lt c hc
      omega
    · exact hown.lt c hc
  · rcases hc with hc | hc
    · exact .inl hc
    · exact .inr (hat c hc)
end Go.Proofs.YthpcogpbgjkiaahDoor
