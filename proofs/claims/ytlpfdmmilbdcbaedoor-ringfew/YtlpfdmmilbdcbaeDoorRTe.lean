/-
  Package ring's answers to whatever it is asked, with letters.
-/
import Derived.Test.YtlpfdmmilbdcbaeDoorRgP
import Derived.Test.YtlpfdmmilbdcbaeDoorRgK
import Derived.Test.YtlpfdmmilbdcbaeDoorRgA
import Derived.Test.YtlpfdmmilbdcbaeDoorErrA
namespace Go.Proofs.YtlpfdmmilbdcbaeDoor
set_option linter.unusedVariables false
set_option linter.unusedSimpArgs false
open Go.RowKit

def ansP (nodes : List Int) (each : Int) : List Pt := if badPts nodes each = 0 then ptsL nodes each.toNat else []
theorem points_any {nodes : List Int} {each E1 : Int} {A : List Pt} (hE : badPts nodes each = E1) (hA : ansP nodes each = A) (v : Value) (w : World) (hr : IntsCap w v nodes) (hT : Lib.TabIs Tryd.prog w powName .u64 Lib.pow10Tab) :
    Calls Tryd.prog 15 #[v, .int .i64 each] w fun e w' => ∃ u, e = .returned (.tuple #[u, eV E1]) ∧ PtsIs w' u A ∧ Below w.heap.size w w' := by
  subst hA
  unfold ansP
  by_cases h : E1 = 0
  · rw [if_pos (hE.trans h)]
    subst h
    rw [eV_zero]
    obtain ⟨h1, k, rfl, h2, h3⟩ := badPts_good hE
    exact points_ok v nodes k w hr.1 hr.2 h1 h2 h3 hT
  · rw [if_neg (by rw [hE]; exact h), eV_err h]
    refine (points_bad v nodes each w E1 hr.1 hr.2 hE h).mono ?_
    rintro e w' ⟨rfl, hb⟩
    exact ⟨_, rfl, PtsIs.nil _, hb⟩
def ownerA (l : List Pt) (key : Int) : Int := if badFind l key = 0 then (ownP (keyT key.toNat) l).getD 0 else 0
theorem right_ne {l : List Pt} (h : rightP l = true) : l ≠ [] := by
  intro e
  have := right_len h
  rw [e] at this
  simp at this
theorem own_some {l : List Pt} (h : rightP l = true) (t : Int) : ∃ x, ownP t l = some x := ⟨_, own_first (firstQ_lt (right_ne h))⟩
theorem owner_any {l : List Pt} {key E2 X : Int} (hE : badFind l key = E2) (hX : ownerA l key = X) (v : Value) (w : World) (hr : PtsIs w v l) (hT : Lib.TabIs Tryd.prog w powName .u64 Lib.pow10Tab) :
    Calls Tryd.prog 20 #[v, .int .i64 key] w fun e w' => e = .returned (.tuple #[.int .i64 X, eV E2]) ∧ Below w.heap.size w w' := by
  subst hX
  unfold ownerA
  by_cases h : E2 = 0
  · rw [if_pos (hE.trans h)]
    subst h
    rw [eV_zero]
    obtain ⟨h1, h2⟩ := badFind_zero hE
    obtain ⟨k, rfl, hk⟩ := key_nat h2
    obtain ⟨x, hx⟩ := own_some h1 (keyT k)
    have e : (ownP (keyT (k : Int).toNat) l).getD 0 = x := by
      rw [Int.toNat_natCast, hx]
      rfl
    rw [e]
    exact owner_ok v l k w x hr h1 hk hx hT
  · rw [if_neg (by rw [hE]; exact h), eV_err h]
    exact owner_bad v l key w E2 hr hE h
/-- the owners of a key by right points, as many as there are -/
def allO (l : List Pt) (key : Int) : List Int := ownersL (keyT key.toNat) l
def badOwn (l : List Pt) (key many : Int) : Int := if badFind l key ≠ 0 then badFind l key else if inR many 1 6 = false then 1 else if ((allO l key).length : Int) < many then 5 else 0
def ansO (l : List Pt) (key many : Int) : List Int := if badOwn l key many = 0 then (allO l key).take many.toNat else []
theorem owners_any {l : List Pt} {key many E3 : Int} {O : List Int} (hE : badOwn l key many = E3) (hO : ansO l key many = O) (v : Value) (w : World) (hr : PtsIs w v l) (hT : Lib.TabIs Tryd.prog w powName .u64 Lib.pow10Tab) :
    Calls Tryd.prog 21 #[v, .int .i64 key, .int .i64 many] w fun e w' => ∃ u, e = .returned (.tuple #[u, eV E3]) ∧ IntsCap w' u O ∧ Below w.heap.size w w' := by
  subst hO
  unfold ansO
  rw [hE]
  unfold badOwn at hE
  by_cases h : badFind l key = 0
  · rw [if_neg (by simpa using h)] at hE
    obtain ⟨h1, h2⟩ := badFind_zero h
    obtain ⟨k, rfl, hk⟩ := key_nat h2
    cases hm : inR many 1 6
    · rw [if_pos hm] at hE
      subst hE
      rw [if_neg (by omega), eV_err (by omega)]
      refine (owners_many v l k many w hr h1 hk hm hT).mono ?_
      rintro e w' ⟨rfl, hb⟩
      exact ⟨_, rfl, ⟨IntsIs.nil _, CapOk.nil⟩, hb⟩
    · rw [if_neg (by rw [hm]; simp)] at hE
      obtain ⟨m, rfl, hm1, hm6⟩ : ∃ m : Nat, many = (m : Int) ∧ 1 ≤ m ∧ m ≤ 6 := by
        simp [inR] at hm
        exact ⟨many.toNat, by omega, by omega, by omega⟩
      refine (owners_ok v l k m w hr h1 hk hm1 hm6 hT).mono ?_
      rintro e w' ⟨ha, hb⟩
      have ea : allO l (k : Int) = ownersL (keyT k) l := by unfold allO; rw [Int.toNat_natCast]
      rw [ea] at hE ⊢
      rcases ha with ⟨hle, u, rfl, hu⟩ | ⟨hle, rfl⟩
      · rw [if_neg (by omega)] at hE
        subst hE
        rw [if_pos rfl, eV_zero, Int.toNat_natCast]
        exact ⟨u, rfl, ⟨hu.ints, hu.cap⟩, hb⟩
      · rw [if_pos (by omega)] at hE
        subst hE
        rw [if_neg (by omega), eV_err (by omega)]
        exact ⟨_, rfl, ⟨IntsIs.nil _, CapOk.nil⟩, hb⟩
  · rw [if_pos h] at hE
    rw [hE] at h
    rw [if_neg h, eV_err h]
    refine (owners_bad v l key many w E3 hr hE h).mono ?_
    rintro e w' ⟨rfl, hb⟩
    exact ⟨_, rfl, ⟨IntsIs.nil _, CapOk.nil⟩, hb⟩
theorem IntsCap.below {w w' : World} {v : Value} {l : List Int} (h : IntsCap w v l) (hb : Below w.heap.size w w') : IntsCap w' v l := ⟨h.1.below hb, h.2⟩
theorem allO_head {l : List Pt} {key : Int} (h : rightP l = true) : ∃ x r, allO l key = x :: r ∧ ownP (keyT key.toNat) l = some x := by
  obtain ⟨x, hx⟩ := own_some h (keyT key.toNat)
  have hh := owners_head (keyT key.toNat) l
  rw [hx] at hh
  unfold allO
  cases hl : ownersL (keyT key.toNat) l with
  | nil => rw [hl] at hh; cases hh
  | cons y r =>
    rw [hl] at hh
    exact ⟨y, r, rfl, by rw [hx]; exact hh.symm⟩
end Go.Proofs.YtlpfdmmilbdcbaeDoor
