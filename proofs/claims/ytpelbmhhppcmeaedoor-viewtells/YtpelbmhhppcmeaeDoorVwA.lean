/-
  Package view by its contracts: Add, Both.
-/
import Derived.Test.YtpelbmhhppcmeaeDoorVwT
namespace Go.Proofs.YtpelbmhhppcmeaeDoor
set_option linter.unusedVariables false
set_option linter.unusedSimpArgs false
open Go.RowKit

/-- what Add answers -/
def addV (l : List Mm) (m : Mm) : List Mm × Bool × Int := if badV l ≠ 0 then ([], false, badV l) else if m.ok = false then ([], false, 1) else (addM m l, isM m l, 0)
/-- what Both answers -/
def bothV (a b : List Mm) : List Mm × Int := if badV a ≠ 0 then ([], badV a) else if badV b ≠ 0 then ([], badV b) else (bothM a b, 0)
theorem OwnM.drewN {B : Nat} {w : World} {v : Value} {l : List Mm} (h : OwnM B w v l) (n : Nat) : OwnM B (w.drewN n) v l := h.below (below_drewN _ _ _)

set_option maxHeartbeats 4000000 in
theorem add_c (v : Value) (l : List Mm) (k f s : Int) (w : World) (hr : MmsIs w v l) :
    Calls Tryd.prog 30 #[v, .agg #[.int .i64 k, .int .i64 f, .int .i64 s]] w fun e w' => ∃ v', e = .returned (.tuple #[v', .bool (addV l ⟨k, f, s⟩).2.1, eV (addV l ⟨k, f, s⟩).2.2]) ∧ OwnM w.heap.size w' v' (addV l ⟨k, f, s⟩).1 ∧ Below w.heap.size w w' := by
  have HR : Hid (MmsIs w v l) := hr
  have HB0 : Hid (Below w.heap.size w (w.alloc (.cells #[.int .i64 k, .int .i64 f, .int .i64 s] 57))) := by show Below _ _ _; go_grown
  clear hr
  by_cases hn : badV l = 0
  · have HN : Hid (badV l = 0) := hn
    have HG : Hid (GoodV l) := badV_good hn
    clear hn
    cases hm : Mm.ok ⟨k, f, s⟩
    · have HM : Hid (Mm.ok ⟨k, f, s⟩ = false) := hm
      have HC : Hid (addV l ⟨k, f, s⟩ = ([], false, 1)) := by
        show addV l _ = _
        rw [addV, if_neg (by simpa using HN.out), if_pos HM.out]
      clear hm
      rw [HC.out]
      go_enter Tryd.func30, Tryd.ntmps30
      go_wp2_with fail
      refine (vcheck_ok (HR.out.below HB0.out) HN.out).mono ?_
      rintro e w1 ⟨rfl, hb⟩
      have B1 : Hid (Below w.heap.size w w1) := HB0.out.trans (hb.mono (by simp))
      obtain ⟨a0, a1, a2, af⟩ := (boxM_new w k f s w.heap.size rfl).below hb (by simp)
      clear hb
      go_wp2_with fail
      refine (isRight_b k f s false _ HM.out).mono ?_
      rintro e w2 ⟨rfl, hb⟩
      have B2 : Hid (Below w.heap.size w w2) := B1.out.trans (hb.mono B1.out.size)
      clear hb
      go_wp2_with fail
      go_ret3
      exact ⟨.slice none 0 0, rfl, OwnM.nil _ _, B2.out⟩
    · have HM : Hid (Mm.ok ⟨k, f, s⟩ = true) := hm
      have HC : Hid (addV l ⟨k, f, s⟩ = (addM ⟨k, f, s⟩ l, isM ⟨k, f, s⟩ l, 0)) := by
        show addV l _ = _
        rw [addV, if_neg (by simpa using HN.out), if_neg (by rw [HM.out]; simp)]
      clear hm
      rw [HC.out]
      obtain ⟨R1, HR1⟩ : ∃ R, Hid (addM ⟨k, f, s⟩ l = R) := ⟨_, rfl⟩
      obtain ⟨R2, HR2⟩ : ∃ R, Hid (isM ⟨k, f, s⟩ l = R) := ⟨_, rfl⟩
      rw [HR1.out, HR2.out]
      go_enter Tryd.func30, Tryd.ntmps30
      go_wp2_with fail
      refine (vcheck_ok (HR.out.below HB0.out) HN.out).mono ?_
      rintro e w1 ⟨rfl, hb⟩
      have B1 : Hid (Below w.heap.size w w1) := HB0.out.trans (hb.mono (by simp))
      have E1 : Hid (BoxM w1 w.heap.size k f s) := (boxM_new w k f s w.heap.size rfl).below hb (by simp)
      obtain ⟨a0, a1, a2, af⟩ := E1.out
      clear hb
      go_wp2_with fail
      refine (isRight_b k f s true _ HM.out).mono ?_
      rintro e w2 ⟨rfl, hb⟩
      have B2 : Hid (Below w.heap.size w w2) := B1.out.trans (hb.mono B1.out.size)
      have E2 : Hid (BoxM w2 w.heap.size k f s) := E1.out.below hb E1.out.lt
      clear hb a0 a1 a2 af
      obtain ⟨a0, a1, a2, af⟩ := E2.out
      go_upto_region 6 with fail
      go_region_with (first
        | (go_at_call 55; refine (clone_c v l _ ?_ (by have := good_len HG.out; omega)).mono ?_; exact (HR.out.below B2.out).drew; rintro e w3 ⟨v3, rfl, ho3, hb3⟩; have HO3 : Hid (OwnM w2.heap.size w3 v3 l) := ho3; have HB3 : Hid (Below w2.heap.size w2 w3) := below_undrew hb3; clear ho3 hb3; obtain ⟨d0, d1, d2, df⟩ := E2.out.below HB3.out E2.out.lt)
        | (go_at_call 54; refine (put_o HR1.out HR2.out w2.heap.size v3 _ HO3.out HB3.out.size HG.out).mono ?_; rintro e w4 ⟨v4, rfl, ho4, hg4⟩; have HO4 : Hid (OwnM w2.heap.size w4 v4 R1) := ho4; have HG4 : Hid _ := hg4; clear ho4 hg4))
      all_goals go_wp2_with fail
      all_goals go_ret3
      all_goals exact ⟨v4, by simp [eV_zero], HO4.out.base B2.out.size, below_grown (B2.out.trans (HB3.out.mono B2.out.size)) (Nat.le_refl _) HG4.out (fun c hc => Nat.le_trans B2.out.size (HO3.out.from c hc))⟩
  · obtain ⟨n, HN⟩ : ∃ n, Hid (badV l = n) := ⟨_, rfl⟩
    have HC : Hid (addV l ⟨k, f, s⟩ = ([], false, n)) := by
      show addV l _ = _
      rw [addV, if_pos hn, HN.out]
    rw [HN.out] at hn
    rw [HC.out]
    go_enter Tryd.func30, Tryd.ntmps30
    go_wp2_with fail
    refine (vcheck_err (HR.out.below HB0.out) HN.out hn).mono ?_
    rintro e w1 ⟨rfl, hb⟩
    have B1 : Hid (Below w.heap.size w w1) := HB0.out.trans (hb.mono (by simp))
    clear hb
    go_wp2_with fail
    go_ret3
    refine ⟨.slice none 0 0, ?_, OwnM.nil _ _, B1.out⟩
    show _ = Ending.returned (.tuple #[.slice none 0 0, .bool false, eV n])
    rw [eV_err hn]
    rfl
theorem add_o {l : List Mm} {k f s : Int} {R1 : List Mm} {R2 : Bool} {R3 : Int} (h : addV l ⟨k, f, s⟩ = (R1, R2, R3)) (v : Value) (w : World) (hr : MmsIs w v l) :
    Calls Tryd.prog 30 #[v, .agg #[.int .i64 k, .int .i64 f, .int .i64 s]] w fun e w' => ∃ v', e = .returned (.tuple #[v', .bool R2, eV R3]) ∧ OwnM w.heap.size w' v' R1 ∧ Below w.heap.size w w' := by
  have c := add_c v l k f s w hr
  rw [h] at c
  exact c
theorem both_drop {b : List Mm} {j : Nat} (hj : j < b.length) (l : List Mm) : bothM l (b.drop j) = bothM (addM b[j] l) (b.drop (j + 1)) := by
  rw [List.drop_eq_getElem_cons hj]
  rfl
set_option maxHeartbeats 4000000 in
theorem both_c (va vb : Value) (a b : List Mm) (w : World) (hra : MmsIs w va a) (hrb : MmsIs w vb b) :
    Calls Tryd.prog 32 #[va, vb] w fun e w' => ∃ v', e = .returned (.tuple #[v', eV (bothV a b).2]) ∧ OwnM w.heap.size w' v' (bothV a b).1 ∧ Below w.heap.size w w' := by
  have HA : Hid (MmsIs w va a) := hra
  have HBr : Hid (MmsIs w vb b) := hrb
  by_cases hn : badV a = 0
  · have HN : Hid (badV a = 0) := hn
    have HG : Hid (GoodV a) := badV_good hn
    clear hn
    by_cases hm : badV b = 0
    · have HM : Hid (badV b = 0) := hm
      have HGb : Hid (GoodV b) := badV_good hm
      have HC : Hid (bothV a b = (bothM a (b.drop 0), 0)) := by
        show bothV a b = _
        rw [bothV, if_neg (by simpa using HN.out), if_neg (by simpa using HM.out), List.drop_zero]
      clear hm hra
      obtain ⟨hlen, p, cap, rfl, hrow⟩ := hrb
      have HRow : Hid (b ≠ [] → ∃ bb o, p = some ⟨bb, o, none⟩ ∧ bb < w.heap.size ∧ ∀ j (h : j < b.length), MmAt w bb (o + j * 3) b[j]) := hrow
      clear hrow
      obtain ⟨nb, HNb⟩ : ∃ nb, Hid (b.length = nb) := ⟨_, rfl⟩
      rw [HNb.out] at hlen HBr ⊢
      rw [HC.out]
      obtain ⟨R, HR⟩ : ∃ R, Hid (bothM a (b.drop 0) = R) := ⟨_, rfl⟩
      rw [HR.out]
      have h8 : nb ≤ 6 := by rw [← HNb.out]; exact good_len HGb.out
      go_enter Tryd.func32, Tryd.ntmps32
      go_wp2_with fail
      refine (vcheck_ok HA.out HN.out).mono ?_
      rintro e w1 ⟨rfl, hb⟩
      have B1 : Hid (Below w.heap.size w w1) := hb
      clear hb
      go_wp2_with fail
      refine (vcheck_ok (HBr.out.below B1.out) HM.out).mono ?_
      rintro e w2 ⟨rfl, hb⟩
      have B2 : Hid (Below w.heap.size w w2) := B1.out.trans (hb.mono B1.out.size)
      clear hb
      go_wp2_with fail
      refine (clone_c va a _ (HA.out.below B2.out) (by have := good_len HG.out; omega)).mono ?_
      rintro e w3 ⟨v3, rfl, ho, hb⟩
      have B3 : Hid (Below w.heap.size w w3) := B2.out.trans (hb.mono B2.out.size)
      have HO3 : Hid (OwnM w.heap.size w3 v3 a) := ownsRow_base ho B2.out.size
      clear hb ho
      go_wp2_with fail
      go_loopw [8, 25] (fun s8 s25 wr => ∃ (j : Nat) (cur : List Mm) (v8 : Value), s8 = v8 ∧ j ≤ nb ∧ s25 = .int .i64 j ∧ Hid (OwnM w.heap.size wr v8 cur) ∧ Hid (GoodV cur) ∧ Hid (R = bothM cur (b.drop j)) ∧ Hid (Below w.heap.size w wr)) (fun _ i _ => nb - (intOf i).toNat)
      case atStart => exact ⟨0, a, v3, rfl, Nat.zero_le _, rfl, HO3, HG, HR.out.symm, B3⟩
      case round =>
        obtain ⟨j, cur, s8, hs8, hj, rfl, HO, HGc, HE, HB⟩ := hrel
        have hs8' := hs8.symm
        clear hs8
        subst hs8'
        by_cases hlt : j < nb
        · have hjl : j < b.length := by rw [HNb.out]; exact hlt
          obtain ⟨bb, o, rfl, hbw, hat⟩ := HRow.out (fun h => by simp [h] at hjl)
          have HAt : Hid (MmAt wr bb (o + j * 3) b[j]) := (hat j hjl).of_block (HB.out.block bb hbw)
          clear hat
          have HOk : Hid (b[j].ok = true) := HGb.out.2 _ (List.getElem_mem _)
          have HStep : Hid (R = bothM (addM b[j] cur) (b.drop (j + 1))) := HE.out.trans (both_drop hjl cur)
          obtain ⟨x, HX⟩ : ∃ x, Hid (b[j] = x) := ⟨b[j], show b[j] = b[j] from rfl⟩
          rw [HX.out] at HAt HOk HStep
          have HG1 : Hid (GoodV (addM x cur)) := add_good HGc.out HOk.out
          obtain ⟨R1, HP1⟩ : ∃ P, Hid (addM x cur = P) := ⟨_, rfl⟩
          obtain ⟨R2, HP2⟩ : ∃ P, Hid (isM x cur = P) := ⟨_, rfl⟩
          rw [HP1.out] at HStep HG1
          obtain ⟨k, f, s⟩ := x
          obtain ⟨c0, c1, c2⟩ := HAt.out
          dsimp only at c0 c1 c2
          have hlti : (j : Int) < (nb : Int) := by omega
          have hbr : bb < wr.heap.size := by have := HB.out.size; omega
          have B4 : Hid (Below w.heap.size w (wr.alloc (.cells #[.int .i64 k, .int .i64 f, .int .i64 s] 57))) := HB.out.alloc HB.out.size _
          have HO4 : Hid (OwnM w.heap.size (wr.alloc (.cells #[.int .i64 k, .int .i64 f, .int .i64 s] 57)) s8 cur) := HO.out.below ((Below.refl _ wr).alloc (Nat.le_refl _) _)
          go_wp2_with fail
          refine (put_o HP1.out HP2.out w.heap.size s8 _ HO4.out (by have := B4.out.size; omega) HGc.out).mono ?_
          rintro e w5 ⟨v5, rfl, ho5, hg5⟩
          have HO5 : Hid (OwnM w.heap.size w5 v5 R1) := ho5
          have B5 : Hid (Below w.heap.size w w5) := below_grown B4.out (Nat.le_refl _) hg5 (fun c hc => HO.out.from c hc)
          clear ho5 hg5 c0 c1 c2
          go_wp2_with fail
          go_roundw
          case rel => exact ⟨j + 1, R1, v5, rfl, by omega, by go_num, HO5, HG1, HStep, B5⟩
          case measure => simp [intOf]; omega
        · obtain rfl : j = nb := by omega
          have HR0 : Hid (R = cur) := by
            show R = _
            rw [HE.out, List.drop_eq_nil_of_le (by rw [HNb.out]; exact Nat.le_refl _)]
            rfl
          go_wp2_with fail
          go_ret2
          refine ⟨s8, rfl, ?_, HB.out⟩
          rw [HR0.out]
          exact HO.out
    · obtain ⟨n, HM⟩ : ∃ n, Hid (badV b = n) := ⟨_, rfl⟩
      have HC : Hid (bothV a b = ([], n)) := by
        show bothV a b = _
        rw [bothV, if_neg (by simpa using HN.out), if_pos hm, HM.out]
      rw [HM.out] at hm
      rw [HC.out]
      clear hra hrb
      go_enter Tryd.func32, Tryd.ntmps32
      go_wp2_with fail
      refine (vcheck_ok HA.out HN.out).mono ?_
      rintro e w1 ⟨rfl, hb⟩
      have B1 : Hid (Below w.heap.size w w1) := hb
      clear hb
      go_wp2_with fail
      refine (vcheck_err (HBr.out.below B1.out) HM.out hm).mono ?_
      rintro e w2 ⟨rfl, hb⟩
      have B2 : Hid (Below w.heap.size w w2) := B1.out.trans (hb.mono B1.out.size)
      clear hb
      go_wp2_with fail
      go_ret2
      refine ⟨.slice none 0 0, ?_, OwnM.nil _ _, B2.out⟩
      show _ = Ending.returned (.tuple #[.slice none 0 0, eV n])
      rw [eV_err hm]
      rfl
  · obtain ⟨n, HM⟩ : ∃ n, Hid (badV a = n) := ⟨_, rfl⟩
    have HC : Hid (bothV a b = ([], n)) := by
      show bothV a b = _
      rw [bothV, if_pos hn, HM.out]
    rw [HM.out] at hn
    rw [HC.out]
    clear hra hrb
    go_enter Tryd.func32, Tryd.ntmps32
    go_wp2_with fail
    refine (vcheck_err HA.out HM.out hn).mono ?_
    rintro e w2 ⟨rfl, hb⟩
    have B2 : Hid (Below w.heap.size w w2) := hb
    clear hb
    go_wp2_with fail
    go_ret2
    refine ⟨.slice none 0 0, ?_, OwnM.nil _ _, B2.out⟩
    show _ = Ending.returned (.tuple #[.slice none 0 0, eV n])
    rw [eV_err hn]
    rfl
theorem both_o {a b R1 : List Mm} {R2 : Int} (h : bothV a b = (R1, R2)) (va vb : Value) (w : World) (hra : MmsIs w va a) (hrb : MmsIs w vb b) :
    Calls Tryd.prog 32 #[va, vb] w fun e w' => ∃ v', e = .returned (.tuple #[v', eV R2]) ∧ OwnM w.heap.size w' v' R1 ∧ Below w.heap.size w w' := by
  have c := both_c va vb a b w hra hrb
  rw [h] at c
  exact c
end Go.Proofs.YtpelbmhhppcmeaeDoor
