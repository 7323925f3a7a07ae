/-
  Package mail by its contracts, with letters for what comes out.
-/
import Derived.Test.YtbincnajklmnaaaMlT
namespace Go.Proofs.Ytbincnajklmnaaa
set_option linter.unusedVariables false
set_option linter.unusedSimpArgs false
open Go.RowKit

theorem mlSend_n {S : Nat → Prop} {w : World} {b : Nat} {l l' : List Lt} {q : Nat → Nat → Bool} {f d k v a : Int} {g : Bool} {t : ByteArray} {m : Int} (h : MlAt S w b l q) (hm : sendE l.length ⟨f, d, ⟨k, v, a, g, t⟩⟩ = m) (hl : sendL l q ⟨f, d, ⟨k, v, a, g, t⟩⟩ = l') :
    Calls Try.prog 11 #[.pointer (some ⟨b, 0, none⟩), .agg #[.int .i64 f, .int .i64 d, .int .i64 k, .int .i64 v, .int .i64 a, .bool g, .string t]] w fun e w' => e = .returned (eV m) ∧ MlTo S w w' b l' q := by
  subst hm hl
  exact mlSend_c h f d k v a g t
theorem mlTwice_n {S : Nat → Prop} {w : World} {b : Nat} {l l' : List Lt} {q : Nat → Nat → Bool} {i m : Int} (h : MlAt S w b l q) (hm : twiceE l.length i = m) (hl : twiceL l i = l') :
    Calls Try.prog 13 #[.pointer (some ⟨b, 0, none⟩), .int .i64 i] w fun e w' => e = .returned (eV m) ∧ MlTo S w w' b l' q := by
  subst hm hl
  exact mlTwice_c i h
theorem mlLose_n {S : Nat → Prop} {w : World} {b : Nat} {l l' : List Lt} {q : Nat → Nat → Bool} {i m : Int} (h : MlAt S w b l q) (hm : hasE l.length i = m) (hl : loseL l i = l') :
    Calls Try.prog 12 #[.pointer (some ⟨b, 0, none⟩), .int .i64 i] w fun e w' => e = .returned (eV m) ∧ MlTo S w w' b l' q := by
  subst hm hl
  exact mlLose_c i h
theorem eV_nil {m : Int} (h : m = 0) : eV m = .nilIface := by rw [eV, if_pos h]
theorem eV_not {m : Int} (h : m ≠ 0) : eV m = .iface 65 (.int .i64 m) := by rw [eV, if_neg h]
/-- mail of a law: it lies behind what was there, and block X is not its own -/
structure Mw (N X : Nat) (w0 wr : World) (b : Nat) (l : List Lt) (q : Nat → Nat → Bool) : Prop where
  m : ∃ S, MlAt S wr b l q ∧ (∀ c, S c → N ≤ c) ∧ ¬ S X
  bel : Below N w0 wr
  hN : N ≤ wr.heap.size
  hX : X < wr.heap.size
theorem Mw.grown {N X : Nat} {w0 wr w' : World} {b : Nat} {l : List Lt} {q : Nat → Nat → Bool} (h : Mw N X w0 wr b l q) (hb : Below wr.heap.size wr w') : Mw N X w0 w' b l q := by
  obtain ⟨S, h1, h2, h3⟩ := h.m
  exact ⟨⟨S, h1.grown hb, h2, h3⟩, h.bel.trans (hb.mono h.hN), Nat.le_trans h.hN hb.size, Nat.lt_of_lt_of_le h.hX hb.size⟩
/-- a call on it leaves block X as it was -/
theorem Mw.call {N X : Nat} {w0 wr : World} {b : Nat} {l : List Lt} {q : Nat → Nat → Bool} (h : Mw N X w0 wr b l q) : ∃ S, MlAt S wr b l q ∧ ∀ w' l' q', MlTo S wr w' b l' q' → Mw N X w0 w' b l' q' ∧ w'.heap[X]? = wr.heap[X]? := by
  obtain ⟨S, h1, h2, h3⟩ := h.m
  refine ⟨S, h1, fun w' l' q' ht => ?_⟩
  obtain ⟨ht, S', g1, g2⟩ := ht
  refine ⟨⟨⟨S', g1, fun c hc => ?_, fun hc => ?_⟩, h.bel.trans (ht.below h.hN h2), Nat.le_trans h.hN ht.size, Nat.lt_of_lt_of_le h.hX ht.size⟩, ht.block X h.hX h3⟩
  · rcases g2 c hc with h' | h'
    · exact h2 c h'
    · have := h.hN
      omega
  · rcases g2 X hc with h' | h'
    · exact h3 h'
    · have := h.hX
      omega
end Go.Proofs.Ytbincnajklmnaaa
