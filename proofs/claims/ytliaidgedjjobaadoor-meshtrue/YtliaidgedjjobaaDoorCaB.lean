/-
  Package cache by its contracts: Both.
-/
import Derived.Test.YtliaidgedjjobaaDoorCaA
namespace Go.Proofs.YtliaidgedjjobaaDoor
set_option linter.unusedVariables false
set_option linter.unusedSimpArgs false
open Go.RowKit

/-- what Both leaves -/
def BothIs (w : World) (r : List En × Int) (e : Ending) (w' : World) : Prop :=
  ∃ v', e = .returned (.tuple #[v', eV r.2]) ∧ w'.ownsRow w.heap.size 26 5 v' r.1.length (rowC r.1) ∧ Below w.heap.size w w'

set_option maxHeartbeats 4000000 in
theorem both_c (va vb : Value) (a b : List En) (w : World) (hra : RowIs w va a) (hrb : RowIs w vb b) :
    Calls Tryd.prog 96 #[va, vb] w (BothIs w (cacheBoth a b)) := by
  have HA : Hid (RowIs w va a) := hra
  have HBr : Hid (RowIs w vb b) := hrb
  by_cases hn : badL a = 0
  · have HN : Hid (badL a = 0) := hn
    have HG : Hid (GoodL a) := badL_good hn
    clear hn
    by_cases hm : badL b = 0
    · have HM : Hid (badL b = 0) := hm
      have HGb : Hid (GoodL b) := badL_good hm
      have HC : Hid (cacheBoth a b = allE a (b.drop 0)) := by
        show cacheBoth a b = _
        rw [cacheBoth, if_neg (by simpa using HN.out), if_neg (by simpa using HM.out), List.drop_zero]
      clear hm hra
      obtain ⟨hlen, p, cap, rfl, hrow⟩ := hrb
      have HRow : Hid (b ≠ [] → ∃ bb o, p = some ⟨bb, o, none⟩ ∧ bb < w.heap.size ∧ ∀ j (h : j < b.length), EnAt w bb (o + j * 5) b[j]) := hrow
      clear hrow
      obtain ⟨nb, HNb⟩ : ∃ nb, Hid (b.length = nb) := ⟨_, rfl⟩
      rw [HNb.out] at hlen HBr ⊢
      obtain ⟨R, HR⟩ : ∃ R, Hid (cacheBoth a b = R) := ⟨_, rfl⟩
      rw [HR.out]
      have h8 : nb ≤ 8 := by rw [← HNb.out]; exact HGb.out.len
      go_enter Tryd.func96, Tryd.ntmps96
      go_wp2_with fail
      refine (cacheCheck_ok HA.out HN.out).mono ?_
      rintro e w1 ⟨rfl, hb⟩
      have B1 : Hid (Below w.heap.size w w1) := hb
      clear hb
      go_wp2_with fail
      refine (cacheCheck_ok (HBr.out.below B1.out) HM.out).mono ?_
      rintro e w2 ⟨rfl, hb⟩
      have B2 : Hid (Below w.heap.size w w2) := B1.out.trans (hb.mono B1.out.size)
      clear hb
      go_wp2_with fail
      refine (clone_c va a _ (HA.out.below B2.out) HG.out.len).mono ?_
      rintro e w3 ⟨v3, rfl, ho, hb⟩
      have B3 : Hid (Below w.heap.size w w3) := B2.out.trans (hb.mono B2.out.size)
      have HO3 : Hid (w3.ownsRow w.heap.size 26 5 v3 a.length (rowC a)) := ownsRow_base ho B2.out.size
      clear hb ho
      go_wp2_with fail
      go_loopw [8, 26] (fun s8 s26 wr => ∃ (j : Nat) (cur : List En) (v8 : Value), s8 = v8 ∧ j ≤ nb ∧ s26 = .int .i64 j ∧ Hid (wr.ownsRow w.heap.size 26 5 v8 cur.length (rowC cur)) ∧ Hid (GoodL cur) ∧ Hid (R = allE cur (b.drop j)) ∧ Hid (Below w.heap.size w wr)) (fun _ i _ => nb - (intOf i).toNat)
      case atStart => exact ⟨0, a, v3, rfl, Nat.zero_le _, rfl, HO3, HG, HR.out.symm.trans HC.out, B3⟩
      case round =>
        obtain ⟨j, cur, s8, hs8, hj, rfl, HO, HGc, HE, HB⟩ := hrel
        have hs8' := hs8.symm
        clear hs8
        subst hs8'
        by_cases hlt : j < nb
        · have hjl : j < b.length := by rw [HNb.out]; exact hlt
          obtain ⟨bb, o, rfl, hbw, hat⟩ := HRow.out (fun h => by simp [h] at hjl)
          have HAt : Hid (EnAt wr bb (o + j * 5) b[j]) := (hat j hjl).of_block (HB.out.block bb hbw)
          clear hat
          have HBad : Hid (b[j].bad = 0) := HGb.out.all _ (List.getElem_mem _)
          have HStep : Hid (R = if (putE cur b[j]).2.2 ≠ 0 then ([], (putE cur b[j]).2.2) else allE (putE cur b[j]).1 (b.drop (j + 1))) := HE.out.trans (allE_step hjl)
          obtain ⟨x, HX⟩ : ∃ x, Hid (b[j] = x) := ⟨b[j], show b[j] = b[j] from rfl⟩
          rw [HX.out] at HAt HBad HStep
          obtain ⟨⟨R1, R2, R3⟩, HPt⟩ : ∃ P, Hid (putE cur x = P) := ⟨_, rfl⟩
          rw [HPt.out] at HStep
          dsimp only at HStep
          obtain ⟨k, vv, aa, g, t⟩ := x
          obtain ⟨c0, c1, c2, c3, c4⟩ := HAt.out
          dsimp only at c0 c1 c2 c3 c4
          have hlti : (j : Int) < (nb : Int) := by omega
          have hbr : bb < wr.heap.size := by have := HB.out.size; omega
          have B4 : Hid (Below w.heap.size w (wr.alloc (.cells #[.int .i64 k, .int .i64 vv, .int .i64 aa, .bool g, .string t] 26))) := HB.out.alloc HB.out.size _
          have HO4 : Hid ((wr.alloc (.cells #[.int .i64 k, .int .i64 vv, .int .i64 aa, .bool g, .string t] 26)).ownsRow w.heap.size 26 5 s8 cur.length (rowC cur)) := ownsRow_below HO.out ((Below.refl _ wr).alloc (Nat.le_refl _) _)
          go_wp2_with fail
          refine (put_o HPt.out w.heap.size s8 _ HO4.out (by have := B4.out.size; omega) HGc.out).mono ?_
          rintro e w5 ⟨v5, rfl, ho5, hg5⟩
          have HO5 : Hid (w5.ownsRow w.heap.size 26 5 v5 R1.length (rowC R1)) := ho5
          have B5 : Hid (Below w.heap.size w w5) := below_grown B4.out (Nat.le_refl _) hg5 (fun c hc => ownsRow_from HO.out c hc)
          clear ho5 hg5 c0 c1 c2 c3 c4
          by_cases h3 : R3 = 0
          · subst h3
            rw [if_neg (by simp)] at HStep
            have HG5 : Hid (GoodL R1) := by
              have := putE_good (e := ⟨k, vv, aa, g, t⟩) HGc.out HBad.out (by rw [HPt.out])
              rw [HPt.out] at this
              exact this
            rw [eV, if_pos rfl]
            go_wp2_with fail
            go_roundw
            case rel => exact ⟨j + 1, R1, v5, rfl, by omega, by go_num, HO5, HG5, HStep, B5⟩
            case measure => simp [intOf]; omega
          · rw [if_pos h3] at HStep
            rw [eV, if_neg h3]
            go_wp2_with fail
            go_ret2
            refine ⟨.slice none 0 0, ?_, ?_, B5.out⟩
            · rw [HStep.out]
              show _ = Ending.returned (.tuple #[.slice none 0 0, eV R3])
              rw [eV, if_neg h3]
              rfl
            · rw [HStep.out]
              exact World.ownsRow_nil _ _ _ _
        · obtain rfl : j = nb := by omega
          have HR0 : Hid (R = (cur, 0)) := by
            show R = _
            rw [HE.out, List.drop_eq_nil_of_le (by rw [HNb.out]; exact Nat.le_refl _)]
            rfl
          go_wp2_with fail
          go_ret2
          refine ⟨s8, ?_, ?_, HB.out⟩
          · rw [HR0.out]
            rfl
          · rw [HR0.out]
            exact HO.out
    · obtain ⟨n, HM⟩ : ∃ n, Hid (badL b = n) := ⟨_, rfl⟩
      have HC : Hid (cacheBoth a b = ([], n)) := by
        show cacheBoth a b = _
        rw [cacheBoth, if_neg (by simpa using HN.out), if_pos hm, HM.out]
      rw [HM.out] at hm
      rw [HC.out]
      clear hra hrb
      go_enter Tryd.func96, Tryd.ntmps96
      go_wp2_with fail
      refine (cacheCheck_ok HA.out HN.out).mono ?_
      rintro e w1 ⟨rfl, hb⟩
      have B1 : Hid (Below w.heap.size w w1) := hb
      clear hb
      go_wp2_with fail
      refine (cacheCheck_err (HBr.out.below B1.out) HM.out hm).mono ?_
      rintro e w2 ⟨rfl, hb⟩
      have B2 : Hid (Below w.heap.size w w2) := B1.out.trans (hb.mono B1.out.size)
      clear hb
      go_wp2_with fail
      go_ret2
      refine ⟨.slice none 0 0, ?_, World.ownsRow_nil _ _ _ _, B2.out⟩
      show _ = Ending.returned (.tuple #[.slice none 0 0, eV n])
      rw [eV, if_neg hm]
      rfl
  · obtain ⟨n, HM⟩ : ∃ n, Hid (badL a = n) := ⟨_, rfl⟩
    have HC : Hid (cacheBoth a b = ([], n)) := by
      show cacheBoth a b = _
      rw [cacheBoth, if_pos hn, HM.out]
    rw [HM.out] at hn
    rw [HC.out]
    clear hra hrb
    go_enter Tryd.func96, Tryd.ntmps96
    go_wp2_with fail
    refine (cacheCheck_err HA.out HM.out hn).mono ?_
    rintro e w2 ⟨rfl, hb⟩
    have B2 : Hid (Below w.heap.size w w2) := hb
    clear hb
    go_wp2_with fail
    go_ret2
    refine ⟨.slice none 0 0, ?_, World.ownsRow_nil _ _ _ _, B2.out⟩
    show _ = Ending.returned (.tuple #[.slice none 0 0, eV n])
    rw [eV, if_neg hn]
    rfl
theorem both_o {a b R1 : List En} {R2 : Int} (h : cacheBoth a b = (R1, R2)) (va vb : Value) (w : World) (hra : RowIs w va a) (hrb : RowIs w vb b) :
    Calls Tryd.prog 96 #[va, vb] w fun e w' => ∃ v', e = .returned (.tuple #[v', eV R2]) ∧ w'.ownsRow w.heap.size 26 5 v' R1.length (rowC R1) ∧ Below w.heap.size w w' := by
  have c := both_c va vb a b w hra hrb
  rw [h] at c
  exact c
end Go.Proofs.YtliaidgedjjobaaDoor
