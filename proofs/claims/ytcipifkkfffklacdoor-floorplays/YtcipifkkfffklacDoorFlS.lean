/-
  Two rows of eight numbers, the floors and what they ought to be, beside the three numbers of a step.
-/
import Derived.Test.YtcipifkkfffklacDoorFlU
import Derived.Test.YtcipifkkfffklacDoorPl1
import Derived.Test.YtcipifkkfffklacDoorRfE2
import Derived.Test.YtcipifkkfffklacDoorErrA
import Derived.Test.YtcipifkkfffklacDoorCaP
import Derived.Deep.Draws
namespace Go.Proofs.YtcipifkkfffklacDoor
set_option linter.unusedVariables false
set_option linter.unusedSimpArgs false
open Go.RowKit

/-- the floors at B hold p, the row behind them holds q, the step's three numbers lie at A; nothing older than B has turned -/
structure Fl3 (B A : Nat) (z0 z1 z2 : Int) (w wc : World) (p q : Nat → Int) : Prop where
  fl : EightAt wc B p
  wa : EightAt wc (B + 1) q
  bel : Below B w wc
  c0 : wc.cell? ⟨A, 0, none⟩ = some (.int .i64 z0)
  c1 : wc.cell? ⟨A, 1, none⟩ = some (.int .i64 z1)
  c2 : wc.cell? ⟨A, 2, none⟩ = some (.int .i64 z2)
  hA : B + 1 < A
theorem Fl3.grown {B A : Nat} {z0 z1 z2 : Int} {w wc wd : World} {p q : Nat → Int} (h : Fl3 B A z0 z1 z2 w wc p q) (hb : Below wc.heap.size wc wd) : Fl3 B A z0 z1 z2 w wd p q :=
  ⟨h.fl.grown hb, h.wa.grown hb, h.bel.trans (hb.mono (Nat.le_of_lt h.fl.lt)), old_cell hb h.c0, old_cell hb h.c1, old_cell hb h.c2, h.hA⟩
theorem Fl3.only {B A : Nat} {z0 z1 z2 : Int} {w wc wd : World} {p p' q : Nat → Int} (h : Fl3 B A z0 z1 z2 w wc p q) (ho : Only B wc wd) (he : EightAt wd B p') : Fl3 B A z0 z1 z2 w wd p' q :=
  ⟨he, ho.eight h.wa (by omega), h.bel.trans (ho.below (Nat.le_of_lt h.fl.lt) (Nat.le_refl _)), ho.cell h.c0 (by have := h.hA; simp; omega), ho.cell h.c1 (by have := h.hA; simp; omega), ho.cell h.c2 (by have := h.hA; simp; omega), h.hA⟩
theorem Fl3.set {B A : Nat} {z0 z1 z2 : Int} {w wc : World} {p q : Nat → Int} (h : Fl3 B A z0 z1 z2 w wc p q) (k : Nat) (hk : k < 8) (z : Int) : Fl3 B A z0 z1 z2 w (wc.setCell ⟨B + 1, k, none⟩ (.int .i64 z)) p (upd q k z) :=
  ⟨h.fl.other _ (by simp) _, h.wa.set k hk z, h.bel.setCell (by simp) _,
    (World.cell?_setCell_other _ _ _ _ (by have := h.hA; simp <;> omega)).trans h.c0, (World.cell?_setCell_other _ _ _ _ (by have := h.hA; simp <;> omega)).trans h.c1, (World.cell?_setCell_other _ _ _ _ (by have := h.hA; simp <;> omega)).trans h.c2, h.hA⟩
theorem Fl3.drewN {B A : Nat} {z0 z1 z2 : Int} {w wc : World} {p q : Nat → Int} (h : Fl3 B A z0 z1 z2 w wc p q) (n : Nat) : Fl3 B A z0 z1 z2 w (wc.drewN n) p q :=
  h.grown ⟨rfl, rfl, rfl, Nat.le_refl _, fun _ _ => rfl⟩
theorem Fl3.to {B A : Nat} {z0 z1 z2 : Int} {w wc : World} {p q q' : Nat → Int} (h : Fl3 B A z0 z1 z2 w wc p q) (e : ∀ k, k < 8 → q k = q' k) : Fl3 B A z0 z1 z2 w wc p q' :=
  ⟨h.fl, h.wa.to e, h.bel, h.c0, h.c1, h.c2, h.hA⟩
theorem Fl3.size {B A : Nat} {z0 z1 z2 : Int} {w wc : World} {p q : Nat → Int} (h : Fl3 B A z0 z1 z2 w wc p q) : B ≤ wc.heap.size := Nat.le_of_lt h.fl.lt

theorem upTo_skip {o : Nat → Int} {s : Int} {j : Nat} (h : ¬ o j < s) : upTo o s (j + 1) = upTo o s j := by
  rw [← upTo_step, show hi (o j) s = o j from if_neg h]
  funext k
  by_cases e : k = j
  · subst e; simp [upd, upTo]
  · simp [upd, e]
theorem upTo_set {o : Nat → Int} {s : Int} {j : Nat} (h : o j < s) : upd (upTo o s j) j s = upTo o s (j + 1) := by
  rw [← upTo_step, show hi (o j) s = s from if_pos h]
theorem upTo_at (o : Nat → Int) (s : Int) (j : Nat) : upTo o s j j = o j := by simp [upTo]
theorem upTo_all {o : Nat → Int} {s : Int} {j : Nat} (hs : flS s = true) (hj : 8 ≤ j) : ∀ k, k < 8 → upTo o s j k = flAll o s k := by
  intro k hk
  have : k < j := by omega
  simp [upTo, this, flAll, hs]
theorem flAll_no {o : Nat → Int} {s : Int} (hs : flS s = false) : flAll o s = o := by simp [flAll, hs]
theorem flRaise_no {o : Nat → Int} {k s : Int} (h : (flK k && flS s) = false) : flRaise o k s = o := by simp [flRaise, h]
theorem flRose_no {o : Nat → Int} {k s : Int} (h : (flK k && flS s) = false) : flRose o k s = false := by simp [flRose, h]
theorem flRaise_up {o : Nat → Int} {k : Nat} {s : Int} (h : (flK k && flS s) = true) (hx : o k < s) : flRaise o k s = upd o k s ∧ flRose o k s = true := by
  refine ⟨?_, ?_⟩
  · rw [flRaise, if_pos h, Int.toNat_natCast, show hi (o k) s = s from if_pos hx]
  · rw [flRose, h, Int.toNat_natCast]; simpa using hx
theorem flRaise_same {o : Nat → Int} {k : Nat} {s : Int} (h : (flK k && flS s) = true) (hx : ¬ o k < s) : flRaise o k s = o ∧ flRose o k s = false := by
  refine ⟨?_, ?_⟩
  · rw [flRaise, if_pos h, Int.toNat_natCast, show hi (o k) s = o k from if_neg hx]
    funext j
    by_cases e : j = k
    · subst e; simp [upd]
    · simp [upd, e]
  · rw [flRose, h, Int.toNat_natCast]; simpa using hx
/-- may an entry be told? -/
def flMay (p : Nat → Int) (k a n : Int) : Bool := (n == 0) && decide (p k.toNat ≤ a)
theorem bad_keyN {k v a : Int} {g : Bool} {t : ByteArray} (h : bad k v a g t = 0) : ∃ n : Nat, k = n ∧ n < 8 := by
  unfold bad at h
  split at h
  · omega
  · rename_i h'
    simp [inR] at h'
    exact ⟨k.toNat, by omega, by omega⟩
theorem flMay_c {k v a : Int} {g : Bool} {t : ByteArray} {n : Int} (b : Nat) (h : bad k v a g t = n) (p : Nat → Int) (w : World) (he : EightAt w b p) :
    Calls Tryd.prog 11 #[.pointer (some ⟨b, 0, none⟩), .agg #[.int .i64 k, .int .i64 v, .int .i64 a, .bool g, .string t]] w fun e w' => e = .returned (.tuple #[.bool (flMay p k a n), eV n]) ∧ Below w.heap.size w w' := by
  by_cases hn : n = 0
  · subst hn
    obtain ⟨kn, rfl, hk⟩ := bad_keyN h
    exact (flMay_ok b kn hk h p w he).mono fun e w' ⟨h1, h2⟩ => ⟨by rw [h1]; simp [flMay, eV], h2⟩
  · exact (flMay_bad b h hn w).mono fun e w' ⟨h1, h2⟩ => ⟨by rw [h1]; simp [flMay, eV, hn], h2⟩
theorem rEntry_b {k v a : Int} {g : Bool} {t : ByteArray} {n : Int} (h : bad k v a g t = n) (w : World) :
    Calls Tryd.prog 10 #[.agg #[.int .i64 k, .int .i64 v, .int .i64 a, .bool g, .string t]] w fun e w' => e = .returned (.int .i64 n) ∧ Below w.heap.size w w' := by
  subst h
  exact rEntry_c k v a g t w
theorem flOf_b {k : Int} {f : Int} {kb : Bool} (b : Nat) (p : Nat → Int) (hk : flK k = kb) (hf : flOf p k = f) (w : World) (h : EightAt w b p) :
    Calls Tryd.prog 9 #[.pointer (some ⟨b, 0, none⟩), .int .i64 k] w fun e w' => e = .returned (.tuple #[.int .i64 f, eV (flErr kb)]) ∧ Below w.heap.size w w' := by
  subst hk hf
  exact flOf_c b k p w h
theorem flRaise_n {k s : Int} {r : Bool} {n : Int} (b : Nat) (o : Nat → Int) (hr : flRose o k s = r) (hn : flErr (flK k && flS s) = n) (w : World) (h : EightAt w b o) :
    Calls Tryd.prog 8 #[.pointer (some ⟨b, 0, none⟩), .int .i64 k, .int .i64 s] w fun e w' => e = .returned (.tuple #[.bool r, eV n]) ∧ EightAt w' b (flRaise o k s) ∧ Only b w w' := by
  subst hr hn
  exact flRaise_c b k s o w h
theorem flAll_b {s : Int} {c : Bool} (b : Nat) (o : Nat → Int) (hc : flS s = c) (w : World) (h : EightAt w b o) :
    Calls Tryd.prog 7 #[.pointer (some ⟨b, 0, none⟩), .int .i64 s] w fun e w' => e = .returned (eV (flErr c)) ∧ EightAt w' b (flAll o s) ∧ Only b w w' := by
  subst hc
  exact flAll_c b s o w h
end Go.Proofs.YtcipifkkfffklacDoor
