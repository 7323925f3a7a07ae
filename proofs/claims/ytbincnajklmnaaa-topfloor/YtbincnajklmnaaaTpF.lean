/-
  Floors beside a mesh.
-/
import Derived.Test.YtbincnajklmnaaaTpO
import Derived.Test.YtbincnajklmnaaaFlU
import Derived.Test.YtbincnajklmnaaaFrS
namespace Go.Proofs.Ytbincnajklmnaaa
set_option linter.unusedVariables false
set_option linter.unusedSimpArgs false
open Go.RowKit

theorem Mh.only {P : Nat → Prop} {N : Nat} {w0 wc w' : World} {m b : Nat} {l : List Deed} {cs : List (List En)} (h : Mh P N w0 wc m l cs) (ho : Only b wc w') (hb : P b) (hN : N ≤ b) : Mh P N w0 w' m l cs := by
  obtain ⟨S, h1, h2⟩ := h.s
  exact ⟨⟨S, h1.blocks ho.size (fun c hc => ho.block c (h1.lt c hc) (fun e => (h2 c hc).2 (by rw [e]; exact hb))), h2⟩, h.bel.trans (ho.below h.hN hN), Nat.le_trans h.hN ho.size, fun c hc => Nat.lt_of_lt_of_le (h.hP c hc) ho.size⟩
/-- floors from 0 to 1000 -/
def OkO (o : Nat → Int) : Prop := ∀ k, 0 ≤ o k ∧ o k ≤ 1000
theorem okO_zero : OkO (fun _ => 0) := fun k => ⟨by show (0 : Int) ≤ 0; omega, by show (0 : Int) ≤ 1000; omega⟩
theorem flS_iff {s : Int} : flS s = true ↔ 0 ≤ s ∧ s ≤ 1000 := by simp [flS]
theorem OkO.raise {o : Nat → Int} (h : OkO o) (k s : Int) : OkO (flRaise o k s) := by
  unfold flRaise
  split
  · rename_i hb
    rw [Bool.and_eq_true] at hb
    have hs := flS_iff.1 hb.2
    intro j
    unfold upd
    split
    · unfold hi
      split
      · exact hs
      · exact h _
    · exact h j
  · exact h
theorem OkO.all {o : Nat → Int} (h : OkO o) (s : Int) : OkO (flAll o s) := by
  unfold flAll
  split
  · rename_i hb
    have hs := flS_iff.1 hb
    intro j
    show 0 ≤ hi (o j) s ∧ hi (o j) s ≤ 1000
    unfold hi
    split
    · exact hs
    · exact h j
  · exact h
/-- what the law's rounds carry: a mesh, floors at fb -/
structure TfIs (N : Nat) (w0 w : World) (m nn fb : Nat) (l : List Deed) (cs : List (List En)) (o : Nat → Int) : Prop where
  h : Mh (fun c => c = fb) N w0 w m l cs
  good : GoodM l cs
  len : cs.length = nn
  fl : EightAt w fb o
  ok : OkO o
  hN : N ≤ fb
theorem TfIs.grown {N : Nat} {w0 w w' : World} {m nn fb : Nat} {l : List Deed} {cs : List (List En)} {o : Nat → Int} (h : TfIs N w0 w m nn fb l cs o) (hb : Below w.heap.size w w') : TfIs N w0 w' m nn fb l cs o :=
  ⟨h.h.grown hb, h.good, h.len, h.fl.grown hb, h.ok, h.hN⟩
/-- what is asked behind a piece of code that ends: R; nothing but an end is let by -/
def endsBy (R : Act → World → Prop) : Exit → Act → World → Prop := fun e a w => match e with | .normal => R a w | _ => False
theorem wp_ends {c : Code} {R : Act → World → Prop} {E : Exit → Act → World → Prop} {a : Act} {w : World} (h : Code.wp Try.prog c (endsBy R) a w) : Code.wp Try.prog c (Exit.then R E) a w :=
  Code.wp_mono (Q := endsBy R) (fun e x y hx => by cases e <;> first | exact hx | exact hx.elim) h
theorem endsBy_normal {R : Act → World → Prop} {a : Act} {w : World} (h : R a w) : endsBy R .normal a w := h
theorem only_drew {b n : Nat} {w w' : World} (h : Only b (w.drewN n) w') : Only b w w' := ⟨h.os, h.tape, h.output, h.size, h.block⟩
end Go.Proofs.Ytbincnajklmnaaa
