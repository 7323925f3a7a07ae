/-
  Mail beside a row of letters that were sent; what MailKeeps asks, on lists.
-/
import Derived.Test.YtbincnajklmnaaaMlL
import Derived.Maps.AppendAt
namespace Go.Proofs.Ytbincnajklmnaaa
set_option linter.unusedVariables false
set_option linter.unusedSimpArgs false
open Go.RowKit

theorem wp_appLat {ops : Array Oper} {rest : List Oper} {o : Oper} {ac : Act} {Q : Exit → Act → World → Prop} (w : World) (hgd : o.guard = none) (s x : Operand)
    (ho : o.op = .call { callee := .builtin .append, args := #[s, x], argTypes := #[72, 72] }) (v : Value) (out : List Lt) (e : Lt) (hs : ac.eval s = v)
    (hown : OwnL w v out) (vb : Nat) (hx : ac.eval x = .slice (some ⟨vb, 0, none⟩) 1 1) (hv : w.heap[vb]? = some (.cells e.cells.toArray 42 (0, 0))) (hl : out.length ≤ 2000)
    (h : ∀ v' w', OwnL w' v' (out ++ [e]) → Hid (w.grownBy w' v.ownBlock) → Hid (v'.ownBlock = v.ownBlock ∨ v'.ownBlock = some w.heap.size) → wpList Try.prog ops Q rest (ac.put o.dst v') w') : wpList Try.prog ops Q (o :: rest) ac w := by
  obtain ⟨i0, hi0, hz0, hz1, hz2⟩ := info_parts infoLt
  have q3 : ∀ (u : Value), u ∈ e.cells → u.oneCell' = true := fun u hu => rowL_one [e] u (by simpa [rowL] using hu)
  refine wpList_append_own_at w hgd s x 72 ho 0 42 i0 _ 7 64 Try.underlying72 hi0 hz0 hz1 hz2 rfl (by omega) v out.length (rowL out) hs hown ⟨vb, 0, none⟩ 1 1 e.cells hx rfl (World.news_of_block hv) q3 (by unfold maxLen; omega) (by omega) (Nat.zero_le _) ?_
  intro v' w' h1 h2 _ h4
  refine h v' w' (show World.ownsRow _ _ _ _ _ _ _ from ?_) h2 h4
  have hr : rowL (out ++ [e]) = rowL out ++ e.cells := by rw [rowL_append]; simp [rowL]
  rw [hr, List.length_append]
  exact h1
/-- mail and a row beside it, behind what was there -/
structure Mk (N : Nat) (w0 wr : World) (b : Nat) (l : List Lt) (q : Nat → Nat → Bool) (v : Value) (sent : List Lt) : Prop where
  m : ∃ S, MlAt S wr b l q ∧ (∀ c, S c → N ≤ c) ∧ ∀ c, v.ownBlock = some c → ¬ S c
  row : OwnL wr v sent
  rN : ∀ c, v.ownBlock = some c → N ≤ c
  bel : Below N w0 wr
  hN : N ≤ wr.heap.size
theorem Mk.grown {N : Nat} {w0 wr w' : World} {b : Nat} {l : List Lt} {q : Nat → Nat → Bool} {v : Value} {sent : List Lt} (h : Mk N w0 wr b l q v sent) (hb : Below wr.heap.size wr w') : Mk N w0 w' b l q v sent := by
  obtain ⟨S, h1, h2, h3⟩ := h.m
  exact ⟨⟨S, h1.grown hb, h2, h3⟩, h.row.below hb, h.rN, h.bel.trans (hb.mono h.hN), Nat.le_trans h.hN hb.size⟩
theorem Mk.call {N : Nat} {w0 wr : World} {b : Nat} {l : List Lt} {q : Nat → Nat → Bool} {v : Value} {sent : List Lt} (h : Mk N w0 wr b l q v sent) : ∃ S, MlAt S wr b l q ∧ ∀ w' l' q', MlTo S wr w' b l' q' → Mk N w0 w' b l' q' v sent := by
  obtain ⟨S, h1, h2, h3⟩ := h.m
  refine ⟨S, h1, fun w' l' q' ht => ?_⟩
  obtain ⟨ht, S', g1, g2⟩ := ht
  refine ⟨⟨S', g1, fun c hc => ?_, fun c hv hc => ?_⟩, h.row.blocks (fun c hc => ht.block c (h.row.lt c hc) (h3 c hc)), h.rN, h.bel.trans (ht.below h.hN h2), Nat.le_trans h.hN ht.size⟩
  · rcases g2 c hc with h' | h'
    · exact h2 c h'
    · have := h.hN
      omega
  · rcases g2 c hc with h' | h'
    · exact h3 c hv h'
    · have := h.row.lt c hv
      omega
theorem Mk.append {N : Nat} {w0 wr w' : World} {b : Nat} {l : List Lt} {q : Nat → Nat → Bool} {v v' : Value} {sent sent' : List Lt} (h : Mk N w0 wr b l q v sent) (ho : OwnL w' v' sent') (hg : wr.grownBy w' v.ownBlock) (hat : v'.ownBlock = v.ownBlock ∨ v'.ownBlock = some wr.heap.size) : Mk N w0 w' b l q v' sent' := by
  obtain ⟨S, h1, h2, h3⟩ := h.m
  have hs := hg.size
  have hN := h.hN
  refine ⟨⟨S, h1.blocks hs (fun c hc => hg.block c (h1.lt c hc) (fun e => h3 c e.symm hc)), h2, fun c hv hc => ?_⟩, ho, fun c hv => ?_, ?_, by omega⟩
  · rcases hat with e | e
    · exact h3 c (e ▸ hv) hc
    · rw [e] at hv
      have := h1.lt c hc
      have : wr.heap.size = c := by simpa using hv
      omega
  · rcases hat with e | e
    · exact h.rN c (e ▸ hv)
    · rw [e] at hv
      have : wr.heap.size = c := by simpa using hv
      omega
  · exact h.bel.trans ⟨hg.os, hg.tape, hg.output, hs, fun c hc => hg.block c (by omega) (fun e => by have := h.rN c e.symm; omega)⟩

/-- is there nothing wrong with a letter? -/
def okX (x : Lt) : Bool := sendE 0 x == 0
theorem send_small {n : Nat} (x : Lt) (h : n < 40) : sendE n x = sendE 0 x := by
  unfold sendE
  split
  · rfl
  · split
    · rfl
    · rw [if_neg (by omega), if_neg (by omega)]
theorem okX_ends {x : Lt} (h : okX x = true) : endsE x.f x.d = 0 := by
  have h1 : sendE 0 x = 0 := by simpa [okX] using h
  unfold sendE at h1
  split at h1
  · exact h1
  · rename_i h2
    omega
/-- those that were sent, of the first so many -/
def sentK (l : List Lt) (j : Nat) : List Lt := (l.take j).filter okX
theorem sentK_len (l : List Lt) (j : Nat) : (sentK l j).length ≤ j := by
  unfold sentK
  exact Nat.le_trans (List.length_filter_le _ _) (by simp; omega)
theorem sentK_yes {l : List Lt} {j : Nat} (h : j < l.length) (hok : okX l[j] = true) : sentK l (j + 1) = sentK l j ++ [l[j]] := by
  unfold sentK
  rw [List.take_succ_eq_append_getElem h, List.filter_append]
  simp [hok]
theorem sentK_no {l : List Lt} {j : Nat} (h : j < l.length) (hok : okX l[j] = false) : sentK l (j + 1) = sentK l j := by
  unfold sentK
  rw [List.take_succ_eq_append_getElem h, List.filter_append]
  simp [hok]
theorem sentK_mem {l : List Lt} {j n : Nat} (h : j < l.length) (hn : j < n) (hok : okX l[j] = true) : l[j] ∈ sentK l n := by
  unfold sentK
  rw [List.mem_filter]
  exact ⟨List.mem_take_iff_getElem.2 ⟨j, by omega, rfl⟩, hok⟩
/-- all that are on their way were sent -/
def AllOf (l sent : List Lt) : Prop := ∀ x ∈ l, x ∈ sent
theorem AllOf.add {l sent : List Lt} {x : Lt} (h : AllOf l sent) (hx : x ∈ sent) : AllOf (l ++ [x]) sent := fun y hy => by
  rcases List.mem_append.1 hy with h1 | h1
  · exact h y h1
  · rw [List.mem_singleton.1 h1]
    exact hx
theorem AllOf.lose {l sent : List Lt} (h : AllOf l sent) (i : Int) : AllOf (loseL l i) sent := fun y hy => by
  unfold loseL at hy
  split at hy
  · exact h y (List.mem_of_mem_eraseIdx hy)
  · exact h y hy
theorem lose_len (l : List Lt) (i : Int) : (loseL l i).length ≤ l.length := by
  unfold loseL
  split
  · rw [List.length_eraseIdx]
    split <;> omega
  · exact Nat.le_refl _
theorem AllOf.twice {l sent : List Lt} (h : AllOf l sent) (i : Int) : AllOf (twiceL l i) sent := fun y hy => by
  unfold twiceL at hy
  split at hy
  · rcases List.mem_append.1 hy with h1 | h1
    · exact h y h1
    · exact h y (List.mem_of_mem_drop (List.mem_of_mem_take h1))
  · exact h y hy
theorem twice_len (l : List Lt) (i : Int) (h : l.length ≤ 40) : (twiceL l i).length ≤ 40 := by
  unfold twiceL
  split
  · rename_i h1
    have h2 : ¬ 40 ≤ l.length := fun h3 => by
      unfold twiceE at h1
      rw [if_pos h3] at h1
      split at h1 <;> omega
    simp
    omega
  · exact h
theorem send_len (l : List Lt) (q : Nat → Nat → Bool) (x : Lt) : (sendL l q x).length ≤ l.length + 1 := by
  unfold sendL
  split <;> simp
/-- was it sent, up to there? -/
def wasK (sent : List Lt) (x : Lt) (k : Nat) : Bool := (sent.take k).any (fun y => y.same x)
theorem wasK_zero (sent : List Lt) (x : Lt) : wasK sent x 0 = false := by simp [wasK]
theorem wasK_step {sent : List Lt} {x : Lt} {k : Nat} (h : k < sent.length) : wasK sent x (k + 1) = (wasK sent x k || sent[k].same x) := by
  unfold wasK
  rw [List.take_succ_eq_append_getElem h, List.any_append]
  simp
theorem wasK_all {sent : List Lt} {x : Lt} {k : Nat} (h : x ∈ sent) (hk : sent.length ≤ k) : wasK sent x k = true := by
  unfold wasK
  rw [List.take_of_length_le hk]
  exact List.any_eq_true.2 ⟨x, h, Lt.same_self x⟩
theorem sentK_end {l : List Lt} {j n : Nat} (h : l.length ≤ j) (hn : j ≤ n) : sentK l j = sentK l n := by
  unfold sentK
  rw [List.take_of_length_le h, List.take_of_length_le (by omega)]
theorem Mk.new {N : Nat} {w0 wA w' : World} {S : Nat → Prop} {b : Nat} {q : Nat → Nat → Bool} (hb : Below N w0 wA) (hN : N ≤ wA.heap.size) (hm : MlAt S w' b [] q) (hS : ∀ c, S c → wA.heap.size ≤ c) (hb' : Below wA.heap.size wA w') : Mk N w0 w' b [] q (.slice none 0 0) [] :=
  ⟨⟨S, hm, fun c hc => Nat.le_trans hN (hS c hc), fun c hc => by simp [Value.ownBlock] at hc⟩, OwnL.nil _, fun c hc => by simp [Value.ownBlock] at hc, hb.trans (hb'.mono hN), Nat.le_trans hN hb'.size⟩
theorem send_yes {l : List Lt} {q : Nat → Nat → Bool} {x : Lt} (h : sendE l.length x = 0) (hq : q x.f.toNat x.d.toNat = false) : sendL l q x = l ++ [x] := by rw [sendL, if_pos ⟨h, hq⟩]
theorem send_cut {l : List Lt} {q : Nat → Nat → Bool} {x : Lt} (hq : q x.f.toNat x.d.toNat = true) : sendL l q x = l := by rw [sendL, if_neg (fun h => by rw [hq] at h; exact absurd h.2 (by simp))]
theorem send_no {l : List Lt} {q : Nat → Nat → Bool} {x : Lt} {m : Int} (h : sendE l.length x = m) (hm : m ≠ 0) : sendL l q x = l := by rw [sendL, if_neg (fun e => hm (h.symm.trans e.1))]
/-- is a way cut behind Cut? -/
theorem cut_is {f d x y : Int} (h : endsE x y = 0) : cutQ (fun _ _ => false) f d true x.toNat y.toNat = ((endsE f d == 0) && ((x == f) && (y == d))) := by
  obtain ⟨a, b, rfl, rfl, ha, hb, _⟩ := endsE_ok h
  unfold cutQ
  by_cases h0 : endsE f d = 0
  · rw [if_pos h0]
    obtain ⟨u, v, rfl, rfl, hu, hv, _⟩ := endsE_ok h0
    rw [h0]
    simp only [Int.toNat_natCast]
    by_cases e1 : a = u
    · by_cases e2 : b = v
      · simp [e1, e2]
      · have e2' : ¬ (b : Int) = (v : Int) := by omega
        simp [e2, e2']
    · have e1' : ¬ (a : Int) = (u : Int) := by omega
      simp [e1, e1']
  · rw [if_neg h0]
    simp [h0]
theorem sendE_okX {n : Nat} {x : Lt} (h : sendE n x = 0) : okX x = true := by
  unfold okX
  have h1 : sendE 0 x = 0 := by
    unfold sendE at h ⊢
    split
    · rename_i h2
      rw [if_pos h2] at h
      exact h
    · rename_i h2
      rw [if_neg h2] at h
      split
      · rename_i h3
        rw [if_pos h3] at h
        exact h
      · rw [if_neg (by omega)]
  simp [h1]
end Go.Proofs.Ytbincnajklmnaaa
