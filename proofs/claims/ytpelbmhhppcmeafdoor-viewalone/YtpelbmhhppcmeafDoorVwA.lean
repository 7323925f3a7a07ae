/-
  Package view by its contracts: Add, Both.
-/
import Derived.Test.YtpelbmhhppcmeafDoorVwT
namespace Go.Proofs.YtpelbmhhppcmeafDoor
set_option linter.unusedVariables false
set_option linter.unusedSimpArgs false
open Go.RowKit

/-- what Add answers -/
def addV (l : List Mm) (m : Mm) : List Mm × Bool × Int := if badV l ≠ 0 then ([], false, badV l) else if m.ok = false then ([], false, 1) else (addM m l, isM m l, 0)
/-- what Both answers -/
def bothV (a b : List Mm) : List Mm × Int := if badV a ≠ 0 then ([], badV a) else if badV b ≠ 0 then ([], badV b) else (bothM a b, 0)
theorem OwnM.drewN {B : Nat} {w : World} {v : Value} {l : List Mm} (h : OwnM B w v l) (n : Nat) : OwnM B (w.drewN n) v l := h.below (below_drewN _ _ _)

set_option maxHeartbeats 4000000 in
theorem add_c (v : Value) (l : List Mm) (k f s : Int) (w : World) (hr : MmsIs w v l) :
    Calls Tryd.prog 8 #[v, .agg #[.int .i64 k, .int .i64 f, .int .i64 s]] w fun e w' => ∃ v', e = .returned (.tuple #[v', .bool (addV l ⟨k, f, s⟩).2.1, eV (addV l ⟨k, f, s⟩).2.2]) ∧ OwnM w.heap.size w' v' (addV l ⟨k, f, s⟩).1 ∧ Below w.heap.size w w' := by
  have HR : Hid (MmsIs w v l) := hr
  have HB0 : Hid (Below w.heap.size w (w.alloc (.cells #[.int .i64 k, .int .i64 f, .int .i64 s] 23))) := by show Below _ _ _; go_grown
  clear hr
  by_cases hn : badV l = 0
  · have HN : Hid (badV l = 0) := hn
    have HG : Hid (GoodV l) := badV_good hn
    clear hn
    cases hm : Mm.ok ⟨k, f, s⟩
    · have HM : Hid (Mm.ok ⟨k, f, s⟩ = false) := hm
      have HC : Hid (addV l ⟨k, f, s⟩ = ([], false, 1)) := by
        show addV l _ = _
        rw [addV, if_neg (by simpa using HN.out), if_pos HM.out]
      clear hm
      rw [HC.out]
      go_enter Tryd.func8, Tryd.ntmps8
      go_wp2_with fail
      refine (vcheck_ok (HR.out.below HB0.out) HN.out).mono ?_
      rintro e w1 ⟨rfl, hb⟩
      have B1 : Hid (Below w.heap.size w w1) := HB0.out.trans (hb.mono (by simp))
      obtain ⟨a0, a1, a2, af⟩ := (boxM_new w k f s w.heap.size rfl).below hb (by simp)
      clear hb
      go_wp2_with fail
      refine (isRight_b k f s false _ HM.out).mono ?_
      rintro e w2 ⟨rfl, hb⟩
      have B2 : Hid (Below w.heap.size w w2) := B1.out.trans (hb.mono B1.out.size)
      clear hb
      go_wp2_with fail
      go_ret3
      exact ⟨.slice none 0 0, rfl, OwnM.nil _ _, B2.out⟩
    · have HM : Hid (Mm.ok ⟨k, f, s⟩ = true) := hm
      have HC : Hid (addV l ⟨k, f, s⟩ = (addM ⟨k, f, s⟩ l, isM ⟨k, f, s⟩ l, 0)) := by
        show addV l _ = _
        rw [addV, if_neg (by simpa using HN.out), if_neg (by rw [HM.out]; simp)]
      clear hm
      rw [HC.out]
      obtain ⟨R1, HR1⟩ : ∃ R, Hid (addM ⟨k, f, s⟩ l = R) := ⟨_, rfl⟩
      obtain ⟨R2, HR2⟩ : ∃ R, Hid (isM ⟨k, f, s⟩ l = R) := ⟨_, rfl⟩
      rw [HR1.out, HR2.out]
      go_enter Tryd.func8, Tryd.ntmps8
      go_wp2_with fail
      refine (vcheck_ok (HR.out.below HB0.out) HN.out).mono ?_
      rintro e w1 ⟨rfl, hb⟩
      have B1 : Hid (Below w.heap.size w w1) := HB0.out.trans (hb.mono (by simp))
      have E1 : Hid (BoxM w1 w.heap.size k f s) := (boxM_new w k f s w.heap.size rfl).below hb (by simp)
      obtain ⟨a0, a1, a2, af⟩ := E1.out
      clear hb
      go_wp2_with fail
      refine (isRight_b k f s true _ HM.out).mono ?_
      rintro e w2 ⟨rfl, hb⟩
      have B2 : Hid (Below w.heap.size w w2) := B1.out.trans (hb.mono B1.out.size)
      have E2 : Hid (BoxM w2 w.heap.size k f s) := E1.out.below hb E1.out.lt
      clear hb a0 a1 a2 af
      obtain ⟨a0, a1, a2, af⟩ := E2.out
      go_upto_region 6 with fail
      go_region_with (first
        | (go_at_call 30; refine (clone_c v l _ ?_ (by have := good_len HG.out; omega)).mono ?_; exact (HR.out.below B2.out).drew; rintro e w3 ⟨v3, rfl, ho3, hb3⟩; have HO3 : Hid (OwnM w2.heap.size w3 v3 l) := ho3; have HB3 : Hid (Below w2.heap.size w2 w3) := below_undrew hb3; clear ho3 hb3; obtain ⟨d0, d1, d2, df⟩ := E2.out.below HB3.out E2.out.lt)
        | (go_at_call 29; refine (put_o HR1.out HR2.out w2.heap.size v3 _ HO3.out HB3.out.size HG.out).mono ?_; rintro e w4 ⟨v4, rfl, ho4, hg4⟩; have HO4 : Hid (OwnM w2.heap.size w4 v4 R1) := ho4; have HG4 : Hid _ := hg4; clear ho4 hg4))
      all_goals go_wp2_with fail
      all_goals go_ret3
      all_goals exact ⟨v4, by simp [eV_zero], HO4.out.base B2.out.size, below_grown (B2.out.trans (HB3.out.mono B2.out.size)) (Nat.le_refl _) HG4.out (fun c hc => Nat.le_trans B2.out.size (HO3.out.from c hc))⟩
  · obtain ⟨n, HN⟩ : ∃ n, Hid (badV l = n) := ⟨_, rfl⟩
    have HC : Hid (addV l ⟨k, f, s⟩ = ([], false, n)) := by
      show addV l _ = _
      rw [addV, if_pos hn, HN.out]
    rw [HN.out] at hn
    rw [HC.out]
    go_enter Tryd.func8, Tryd.ntmps8
    go_wp2_with fail
    refine (vcheck_err (HR.out.below HB0.out) HN.out hn).mono ?_
    rintro e w1 ⟨rfl, hb⟩
    have B1 : Hid (Below w.heap.size w w1) := HB0.out.trans (hb.mono (by simp))
    clear hb
    go_wp2_with fail
    go_ret3
    refine ⟨.slice none 0 0, ?_, OwnM.nil _ _, B1.out⟩
    show _ = Ending.returned (.tuple #[.slice none 0 0, .bool false, eV n])
    rw [eV_err hn]
    rfl
theorem add_o {l : List Mm} {k f s : Int} {R1 : List Mm} {R2 : Bool} {R3 : Int} (h : addV l ⟨k, f, s⟩ = (R1, R2, R3)) (v : Value) (w : World) (hr : MmsIs w v l) :
    Calls Tryd.prog 8 #[v, .agg #[.int .i64 k, .int .i64 f, .int .i64 s]] w fun e w' => ∃ v', e = .returned (.tuple #[v', .bool R2, eV R3]) ∧ OwnM w.heap.size w' v' R1 ∧ Below w.heap.size w w' := by
  have c := add_c v l k f s w hr
  rw [h] at c
  exact c
theorem both_drop {b : List Mm} {j : Nat} (hj : j < b.length) (l : List Mm) : bothM l (b.drop j) = bothM (addM b[j] l) (b.drop (j + 1)) := by
  rw [List.drop_eq_getElem_cons hj]
  rfl
end Go.Proofs.YtpelbmhhppcmeafDoor
