/-
  The document's Add and All (mereref1) by their contracts: they build what package cache builds.
-/
import Derived.Test.YtgncclahhejcdabDoorRfB
namespace Go.Proofs.YtgncclahhejcdabDoor
set_option linter.unusedVariables false
set_option linter.unusedSimpArgs false
open Go.RowKit

theorem rAdd_c (v : Value) (l : List En) (k vv a : Int) (g : Bool) (t : ByteArray) (w : World) (hr : RowIs w v l) (hg : GoodL l) (he : bad k vv a g t = 0) :
    Calls Tryd.prog 8 #[v, .agg #[.int .i64 k, .int .i64 vv, .int .i64 a, .bool g, .string t]] w (RAddIs w (putE l ⟨k, vv, a, g, t⟩).1 (putE l ⟨k, vv, a, g, t⟩).2.2) := by
  cases hk : getE l k with
  | none =>
    have hp : putE l ⟨k, vv, a, g, t⟩ = (l.take (placeE l k) ++ ⟨k, vv, a, g, t⟩ :: l.drop (placeE l k), true, 0) := by unfold putE; simp only [hk]
    rw [hp]
    exact rAdd_none v l k vv a g t w hr hg hk
  | some x =>
    have hp : putE l ⟨k, vv, a, g, t⟩ = (if (joinE x ⟨k, vv, a, g, t⟩).2 ≠ 0 then ([], false, (joinE x ⟨k, vv, a, g, t⟩).2) else (l.set (placeE l k) (joinE x ⟨k, vv, a, g, t⟩).1, !((joinE x ⟨k, vv, a, g, t⟩).1.same x), 0)) := by unfold putE; simp only [hk]
    rw [hp]
    obtain ⟨hm, hmx, _⟩ := getE_some hg.rise hk
    obtain ⟨⟨⟨J0, J1, J2, J3, J4⟩, n1⟩, hj⟩ : ∃ J, joinE x ⟨k, vv, a, g, t⟩ = J := ⟨_, rfl⟩
    rw [hj]
    obtain ⟨x0, x1, x2, x3, x4⟩ := x
    have c := rAdd_some v l k vv a g t x0 x1 x2 x3 x4 J0 J1 J2 J3 J4 n1 w hr hg he hk hj
    by_cases hn : n1 = 0
    · subst hn
      rw [if_neg (by simp)] at c ⊢
      rw [show l.set (placeE l k) ⟨J0, J1, J2, J3, J4⟩ = l.take (placeE l k) ++ ⟨J0, J1, J2, J3, J4⟩ :: l.drop (placeE l k + 1) from List.set_eq_take_append_cons_drop.trans (if_pos hm)]
      exact c
    · rw [if_pos hn] at c ⊢
      exact c
theorem rAdd_o {l : List En} {k vv a : Int} {g : Bool} {t : ByteArray} {R1 : List En} {R2 : Bool} {R3 : Int} (h : putE l ⟨k, vv, a, g, t⟩ = (R1, R2, R3)) (v : Value) (w : World) (hr : RowIs w v l) (hg : GoodL l) (he : bad k vv a g t = 0) :
    Calls Tryd.prog 8 #[v, .agg #[.int .i64 k, .int .i64 vv, .int .i64 a, .bool g, .string t]] w fun e w' => ∃ v', e = .returned (.tuple #[v', .int .i64 R3]) ∧ RowIs w' v' R1 ∧ Below w.heap.size w w' := by
  have c := rAdd_c v l k vv a g t w hr hg he
  rw [h] at c
  exact c

set_option maxHeartbeats 4000000 in
theorem rAll_c (va vb : Value) (a b : List En) (R1 : List En) (R2 : Int) (w : World) (hra : RowIs w va a) (hrb : RowIs w vb b) (hga : GoodL a) (hgb : GoodL b) (h : allE a b = (R1, R2)) :
    Calls Tryd.prog 14 #[va, vb] w fun e w' => ∃ v', e = .returned (.tuple #[v', .int .i64 R2]) ∧ RowIs w' v' R1 ∧ Below w.heap.size w w' := by
  have HA : Hid (RowIs w va a) := hra
  have HGa : Hid (GoodL a) := hga
  have HGb : Hid (GoodL b) := hgb
  have HR : Hid ((R1, R2) = allE a (b.drop 0)) := by rw [List.drop_zero]; exact h.symm
  clear hra hga hgb h
  obtain ⟨hlen, p, cap, rfl, hrow⟩ := hrb
  have HRow : Hid (b ≠ [] → ∃ bb o, p = some ⟨bb, o, none⟩ ∧ bb < w.heap.size ∧ ∀ j (h : j < b.length), EnAt w bb (o + j * 5) b[j]) := hrow
  clear hrow
  obtain ⟨nb, HNb⟩ : ∃ nb, Hid (b.length = nb) := ⟨_, rfl⟩
  rw [HNb.out] at hlen ⊢
  have hn63 : nb ≤ 9223372036854775807 := hlen
  go_enter Tryd.func14, Tryd.ntmps14
  go_wp2_with fail
  go_loopw [0, 6, 7] (fun s0 s6 s7 wr => ∃ (j : Nat) (cur : List En) (f : Int) (v0 : Value), s0 = v0 ∧ s6 = .int .i64 f ∧ j ≤ nb ∧ s7 = .int .i64 j ∧ Hid (RowIs wr v0 cur) ∧ Hid ((f = 0 ∧ GoodL cur ∧ (R1, R2) = allE cur (b.drop j)) ∨ (f ≠ 0 ∧ (R1, R2) = (cur, f))) ∧ Hid (Below w.heap.size w wr)) (fun _ _ i _ => nb - (intOf i).toNat)
  case atStart => exact ⟨0, a, 0, va, rfl, rfl, Nat.zero_le _, rfl, HA, .inl ⟨rfl, HGa.out, HR.out⟩, Below.refl _ _⟩
  case round =>
    obtain ⟨j, cur, f, v0, hs0, hs6, hj, rfl, HO, HD, HB⟩ := hrel
    have hs0' := hs0.symm
    clear hs0
    subst hs0'
    subst hs6
    by_cases hf : f = 0
    · subst hf
      obtain ⟨HGc, HE⟩ : Hid (GoodL cur) ∧ Hid ((R1, R2) = allE cur (b.drop j)) := by
        rcases HD.out with h | h
        · exact ⟨h.2.1, h.2.2⟩
        · exact absurd rfl h.1
      clear HD
      by_cases hlt : j < nb
      · have hjl : j < b.length := by rw [HNb.out]; exact hlt
        obtain ⟨bb, o, rfl, hbw, hat⟩ := HRow.out (fun h => by simp [h] at hjl)
        have HAt : Hid (EnAt wr bb (o + j * 5) b[j]) := (hat j hjl).of_block (HB.out.block bb hbw)
        clear hat
        have HBad : Hid (b[j].bad = 0) := HGb.out.all _ (List.getElem_mem _)
        have HStep : Hid ((R1, R2) = if (putE cur b[j]).2.2 ≠ 0 then ([], (putE cur b[j]).2.2) else allE (putE cur b[j]).1 (b.drop (j + 1))) := HE.out.trans (allE_step hjl)
        obtain ⟨x, HX⟩ : ∃ x, Hid (b[j] = x) := ⟨b[j], show b[j] = b[j] from rfl⟩
        rw [HX.out] at HAt HBad HStep
        obtain ⟨⟨P1, P2, P3⟩, HPt⟩ : ∃ P, Hid (putE cur x = P) := ⟨_, rfl⟩
        rw [HPt.out] at HStep
        dsimp only at HStep
        obtain ⟨k, vv, aa, g, t⟩ := x
        obtain ⟨c0, c1, c2, c3, c4⟩ := HAt.out
        dsimp only at c0 c1 c2 c3 c4
        have hlti : (j : Int) < (nb : Int) := by omega
        go_wp2_with fail
        refine (rAdd_o HPt.out v0 _ HO.out HGc.out HBad.out).mono ?_
        rintro e w5 ⟨v5, rfl, ho5, hb⟩
        have HO5 : Hid (RowIs w5 v5 P1) := ho5
        have B5 : Hid (Below w.heap.size w w5) := HB.out.trans (hb.mono HB.out.size)
        clear ho5 hb c0 c1 c2 c3 c4
        have HD5 : Hid ((P3 = 0 ∧ GoodL P1 ∧ (R1, R2) = allE P1 (b.drop (j + 1))) ∨ (P3 ≠ 0 ∧ (R1, R2) = (P1, P3))) := by
          by_cases h3 : P3 = 0
          · refine .inl ⟨h3, ?_, ?_⟩
            · have := putE_good (e := ⟨k, vv, aa, g, t⟩) HGc.out HBad.out (by rw [HPt.out]; exact h3)
              rw [HPt.out] at this
              exact this
            · have hs := HStep.out
              rw [if_neg (by simpa using h3)] at hs
              exact hs
          · refine .inr ⟨h3, ?_⟩
            have hs := HStep.out
            rw [if_pos h3] at hs
            have hP1 : P1 = [] := by
              have hp := HPt.out
              unfold putE at hp
              cases hk : getE cur k with
              | none => simp only [hk] at hp; simp at hp; exact absurd hp.2.2.symm h3
              | some y =>
                simp only [hk] at hp
                split at hp
                · simp at hp; exact hp.1
                · simp at hp; exact absurd hp.2.2.symm h3
            rw [hP1]
            exact hs
        go_wp2_with fail
        go_roundw
        case rel => exact ⟨j + 1, P1, P3, v5, rfl, rfl, by omega, by go_num, HO5, HD5, B5⟩
        case measure => simp [intOf]; omega
      · obtain rfl : j = nb := by omega
        have HR0 : Hid ((R1, R2) = (cur, 0)) := by
          refine HE.out.trans ?_
          rw [List.drop_eq_nil_of_le (by rw [HNb.out]; exact Nat.le_refl _)]
          rfl
        have hd : decide ((j : Int) < (j : Int)) = false := by simp
        go_wp2_with fail
        go_ret2
        have h0 := HR0.out
        simp only [Prod.mk.injEq] at h0
        obtain ⟨rfl, rfl⟩ := h0
        exact ⟨v0, rfl, HO.out, HB.out⟩
    · obtain HR0 : Hid ((R1, R2) = (cur, f)) := by
        rcases HD.out with h | h
        · exact absurd h.1 hf
        · exact h.2
      have hfb : (f == 0) = false := by simp [hf]
      by_cases hlt : j < nb
      · have hlti : (j : Int) < (nb : Int) := by omega
        go_wp2_with fail
        go_ret2
        have h0 := HR0.out
        simp only [Prod.mk.injEq] at h0
        obtain ⟨rfl, rfl⟩ := h0
        exact ⟨v0, rfl, HO.out, HB.out⟩
      · have hlti : ¬ (j : Int) < (nb : Int) := by omega
        have hd : decide ((j : Int) < (nb : Int)) = false := decide_eq_false hlti
        go_wp2_with fail
        go_ret2
        have h0 := HR0.out
        simp only [Prod.mk.injEq] at h0
        obtain ⟨rfl, rfl⟩ := h0
        exact ⟨v0, rfl, HO.out, HB.out⟩
end Go.Proofs.YtgncclahhejcdabDoor
