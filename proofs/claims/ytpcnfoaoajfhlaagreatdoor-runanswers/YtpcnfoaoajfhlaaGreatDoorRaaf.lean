/-
  Package cache by its contracts: Add.
  Package cache by its contracts: Both.
  What is known by two entries, as numbers: either way round, and as often as one likes.
  meresame.Cache by its contract: whether two rows are the same.
-/
import Derived.Test.YtpcnfoaoajfhlaaGreatDoorRaae
import Derived.Test.YtpcnfoaoajfhlaaGreatDoorRaab
import Derived.BigQuiet
namespace Go.Proofs.YtpcnfoaoajfhlaaGreatDoor
set_option linter.unusedVariables false
set_option linter.unusedSimpArgs false
set_option linter.unusedVariables false
set_option linter.unusedSimpArgs false
open Go.RowKit Go.Lib

/-- what Add leaves -/
def AddIs (w : World) (r : List En × Bool × Int) (e : Ending) (w' : World) : Prop :=
  ∃ v', e = .returned (.tuple #[v', .bool r.2.1, eV r.2.2]) ∧ w'.ownsRow w.heap.size 46 5 v' r.1.length (rowC r.1) ∧ Below w.heap.size w w'
theorem put_x (B : Nat) (v : Value) (l : List En) (k vv a : Int) (g : Bool) (t : ByteArray) (w : World) (ho : w.ownsRow B 46 5 v l.length (rowC l)) (hB : B ≤ w.heap.size) (hg : GoodL l) :
    Calls Tryz.prog 71 #[v, .agg #[.int .i64 k, .int .i64 vv, .int .i64 a, .bool g, .string t]] w (PutIs B w v (putE l ⟨k, vv, a, g, t⟩)) := put_c B v l ⟨k, vv, a, g, t⟩ w ho hB hg
theorem put_o {l : List En} {k vv a : Int} {g : Bool} {t : ByteArray} {R1 : List En} {R2 : Bool} {R3 : Int} (h : putE l ⟨k, vv, a, g, t⟩ = (R1, R2, R3)) (B : Nat) (v : Value) (w : World) (ho : w.ownsRow B 46 5 v l.length (rowC l)) (hB : B ≤ w.heap.size) (hg : GoodL l) :
    Calls Tryz.prog 71 #[v, .agg #[.int .i64 k, .int .i64 vv, .int .i64 a, .bool g, .string t]] w fun e w' => ∃ v', e = .returned (.tuple #[v', .bool R2, eV R3]) ∧ w'.ownsRow B 46 5 v' R1.length (rowC R1) ∧ w.grownBy w' v.ownBlock := by
  have c := put_x B v l k vv a g t w ho hB hg
  rw [h] at c
  exact c
theorem ownsRow_base {w : World} {B C : Nat} {e : TypeId} {size : Nat} {v : Value} {n : Nat} {xs : List Value} (h : w.ownsRow B e size v n xs) (hC : C ≤ B) : w.ownsRow C e size v n xs := by
  refine ⟨h.1, ?_⟩
  rcases h.2 with hn | ⟨g, cap, cur, rfl, h1, hg, rest⟩
  · exact .inl hn
  · exact .inr ⟨g, cap, cur, rfl, Nat.le_trans hC h1, hg, rest⟩
theorem ownsRow_from {w : World} {B : Nat} {e : TypeId} {size : Nat} {v : Value} {n : Nat} {xs : List Value} (h : w.ownsRow B e size v n xs) (c : Nat) (hc : v.ownBlock = some c) : B ≤ c := by
  rcases h.2 with ⟨rfl, _⟩ | ⟨g', cap, cur, rfl, h1, _⟩
  · cases hc
  · obtain rfl : g' = c := by simpa [Value.ownBlock] using hc
    exact h1
theorem below_grown {B : Nat} {w w1 w' : World} {v : Value} (h : Below B w w1) (hB : B ≤ w.heap.size) (hg : w1.grownBy w' v.ownBlock) (hv : ∀ c, v.ownBlock = some c → B ≤ c) : Below B w w' :=
  h.trans ⟨hg.os, hg.tape, hg.output, hg.size, fun c hc => hg.block c (Nat.lt_of_lt_of_le hc (Nat.le_trans hB h.size)) (fun e => by have := hv c e.symm; omega)⟩
theorem RowIs.drew {w : World} {v : Value} {l : List En} (h : RowIs w v l) : RowIs w.drew v l := h.blocks (Nat.le_refl _) (fun _ _ _ => rfl)

set_option maxHeartbeats 1000000 in
theorem add_c (v : Value) (l : List En) (k vv a : Int) (g : Bool) (t : ByteArray) (w : World) (hr : RowIs w v l) :
    Calls Tryz.prog 28 #[v, .agg #[.int .i64 k, .int .i64 vv, .int .i64 a, .bool g, .string t]] w (AddIs w (cacheAdd l ⟨k, vv, a, g, t⟩)) := by
  have HR : Hid (RowIs w v l) := hr
  have HB0 : Hid (Below w.heap.size w (w.alloc (.cells #[.int .i64 k, .int .i64 vv, .int .i64 a, .bool g, .string t] 46))) := by show Below _ _ _; go_grown
  clear hr
  by_cases hn : badL l = 0
  · have HN : Hid (badL l = 0) := hn
    have HG : Hid (GoodL l) := badL_good hn
    clear hn
    by_cases hm : bad k vv a g t = 0
    · have HM : Hid (bad k vv a g t = 0) := hm
      have HC : Hid (cacheAdd l ⟨k, vv, a, g, t⟩ = putE l ⟨k, vv, a, g, t⟩) := by
        show cacheAdd l _ = _
        rw [cacheAdd, if_neg (by simpa using HN.out), if_neg (by simpa [En.bad] using HM.out)]
      clear hm
      obtain ⟨R, HRs⟩ : ∃ R, Hid (putE l ⟨k, vv, a, g, t⟩ = R) := ⟨_, rfl⟩
      rw [HC.out, HRs.out]
      obtain ⟨R1, R2, R3⟩ := R
      go_enter Tryz.func28, Tryz.ntmps28
      go_wp2_with fail
      refine (cacheCheck_ok (HR.out.below HB0.out) HN.out).mono ?_
      rintro e w1 ⟨rfl, hb⟩
      have B1 : Hid (Below w.heap.size w w1) := HB0.out.trans (hb.mono (by simp))
      have E1 : Hid (BoxAt w1 w.heap.size k vv a g t) := (box_new w k vv a g t w.heap.size rfl).below hb (by simp)
      obtain ⟨a0, a1, a2, a3, a4, af⟩ := E1.out
      clear hb
      go_wp2_with fail
      refine (check_ok HM.out _).mono ?_
      rintro e w2 ⟨rfl, hb⟩
      have B2 : Hid (Below w.heap.size w w2) := B1.out.trans (hb.mono B1.out.size)
      have E2 : Hid (BoxAt w2 w.heap.size k vv a g t) := E1.out.below hb E1.out.lt
      clear hb a0 a1 a2 a3 a4 af
      obtain ⟨a0, a1, a2, a3, a4, af⟩ := E2.out
      go_upto_region 7 with fail
      go_region_with (first
        | (go_at_call 56; refine (clone_c v l _ ?_ HG.out.len).mono ?_; exact (HR.out.below B2.out).drew; rintro e w3 ⟨v3, rfl, ho3, hb3⟩; have HO3 : Hid (w3.ownsRow w2.heap.size 46 5 v3 l.length (rowC l)) := ho3; have HB3 : Hid (Below w2.heap.size w2 w3) := below_undrew hb3; clear ho3 hb3; obtain ⟨d0, d1, d2, d3, d4, df⟩ := E2.out.below HB3.out E2.out.lt)
        | (go_at_call 71; refine (put_o HRs.out w2.heap.size v3 _ HO3.out HB3.out.size HG.out).mono ?_; rintro e w4 ⟨v4, rfl, ho4, hg4⟩; have HO4 : Hid _ := ho4; have HG4 : Hid _ := hg4; clear ho4 hg4))
      all_goals go_wp2_with fail
      all_goals go_ret3
      all_goals exact ⟨v4, by simp [Act.put, Array.setIfInBounds, Array.getD], ownsRow_base HO4.out B2.out.size, below_grown (B2.out.trans (HB3.out.mono B2.out.size)) (Nat.le_refl _) HG4.out (fun c hc => Nat.le_trans B2.out.size (ownsRow_from HO3.out c hc))⟩
    · obtain ⟨m, HM⟩ : ∃ m, Hid (bad k vv a g t = m) := ⟨_, rfl⟩
      have HC : Hid (cacheAdd l ⟨k, vv, a, g, t⟩ = ([], false, m)) := by
        show cacheAdd l _ = _
        rw [cacheAdd, if_neg (by simpa using HN.out), if_pos (by simpa [En.bad] using hm)]
        show ([], false, bad k vv a g t) = _
        rw [HM.out]
      rw [HM.out] at hm
      rw [HC.out]
      go_enter Tryz.func28, Tryz.ntmps28
      go_wp2_with fail
      refine (cacheCheck_ok (HR.out.below HB0.out) HN.out).mono ?_
      rintro e w1 ⟨rfl, hb⟩
      have B1 : Hid (Below w.heap.size w w1) := HB0.out.trans (hb.mono (by simp))
      obtain ⟨a0, a1, a2, a3, a4, af⟩ := (box_new w k vv a g t w.heap.size rfl).below hb (by simp)
      clear hb
      go_wp2_with fail
      refine (check_err HM.out hm _).mono ?_
      rintro e w2 ⟨rfl, hb⟩
      have B2 : Hid (Below w.heap.size w w2) := B1.out.trans (hb.mono B1.out.size)
      clear hb
      go_wp2_with fail
      go_ret3
      refine ⟨.slice none 0 0, ?_, World.ownsRow_nil _ _ _ _, B2.out⟩
      show _ = Ending.returned (.tuple #[.slice none 0 0, .bool false, eV m])
      rw [eV, if_neg hm]
      rfl
  · obtain ⟨n, HN⟩ : ∃ n, Hid (badL l = n) := ⟨_, rfl⟩
    have HC : Hid (cacheAdd l ⟨k, vv, a, g, t⟩ = ([], false, n)) := by
      show cacheAdd l _ = _
      rw [cacheAdd, if_pos hn, HN.out]
    rw [HN.out] at hn
    rw [HC.out]
    go_enter Tryz.func28, Tryz.ntmps28
    go_wp2_with fail
    refine (cacheCheck_err (HR.out.below HB0.out) HN.out hn).mono ?_
    rintro e w1 ⟨rfl, hb⟩
    have B1 : Hid (Below w.heap.size w w1) := HB0.out.trans (hb.mono (by simp))
    clear hb
    go_wp2_with fail
    go_ret3
    refine ⟨.slice none 0 0, ?_, World.ownsRow_nil _ _ _ _, B1.out⟩
    show _ = Ending.returned (.tuple #[.slice none 0 0, .bool false, eV n])
    rw [eV, if_neg hn]
    rfl
end Go.Proofs.YtpcnfoaoajfhlaaGreatDoor

namespace Go.Proofs.YtpcnfoaoajfhlaaGreatDoor
set_option linter.unusedVariables false
set_option linter.unusedSimpArgs false
open Go.RowKit

/-- what Both leaves -/
def BothIs (w : World) (r : List En × Int) (e : Ending) (w' : World) : Prop :=
  ∃ v', e = .returned (.tuple #[v', eV r.2]) ∧ w'.ownsRow w.heap.size 46 5 v' r.1.length (rowC r.1) ∧ Below w.heap.size w w'

set_option maxHeartbeats 4000000 in
theorem both_c (va vb : Value) (a b : List En) (w : World) (hra : RowIs w va a) (hrb : RowIs w vb b) :
    Calls Tryz.prog 143 #[va, vb] w (BothIs w (cacheBoth a b)) := by
  have HA : Hid (RowIs w va a) := hra
  have HBr : Hid (RowIs w vb b) := hrb
  by_cases hn : badL a = 0
  · have HN : Hid (badL a = 0) := hn
    have HG : Hid (GoodL a) := badL_good hn
    clear hn
    by_cases hm : badL b = 0
    · have HM : Hid (badL b = 0) := hm
      have HGb : Hid (GoodL b) := badL_good hm
      have HC : Hid (cacheBoth a b = allE a (b.drop 0)) := by
        show cacheBoth a b = _
        rw [cacheBoth, if_neg (by simpa using HN.out), if_neg (by simpa using HM.out), List.drop_zero]
      clear hm hra
      obtain ⟨hlen, p, cap, rfl, hrow⟩ := hrb
      have HRow : Hid (b ≠ [] → ∃ bb o, p = some ⟨bb, o, none⟩ ∧ bb < w.heap.size ∧ ∀ j (h : j < b.length), EnAt w bb (o + j * 5) b[j]) := hrow
      clear hrow
      obtain ⟨nb, HNb⟩ : ∃ nb, Hid (b.length = nb) := ⟨_, rfl⟩
      rw [HNb.out] at hlen HBr ⊢
      obtain ⟨R, HR⟩ : ∃ R, Hid (cacheBoth a b = R) := ⟨_, rfl⟩
      rw [HR.out]
      have h8 : nb ≤ 8 := by rw [← HNb.out]; exact HGb.out.len
      go_enter Tryz.func143, Tryz.ntmps143
      go_wp2_with fail
      refine (cacheCheck_ok HA.out HN.out).mono ?_
      rintro e w1 ⟨rfl, hb⟩
      have B1 : Hid (Below w.heap.size w w1) := hb
      clear hb
      go_wp2_with fail
      refine (cacheCheck_ok (HBr.out.below B1.out) HM.out).mono ?_
      rintro e w2 ⟨rfl, hb⟩
      have B2 : Hid (Below w.heap.size w w2) := B1.out.trans (hb.mono B1.out.size)
      clear hb
      go_wp2_with fail
      refine (clone_c va a _ (HA.out.below B2.out) HG.out.len).mono ?_
      rintro e w3 ⟨v3, rfl, ho, hb⟩
      have B3 : Hid (Below w.heap.size w w3) := B2.out.trans (hb.mono B2.out.size)
      have HO3 : Hid (w3.ownsRow w.heap.size 46 5 v3 a.length (rowC a)) := ownsRow_base ho B2.out.size
      clear hb ho
      go_wp2_with fail
      go_loopw [8, 26] (fun s8 s26 wr => ∃ (j : Nat) (cur : List En) (v8 : Value), s8 = v8 ∧ j ≤ nb ∧ s26 = .int .i64 j ∧ Hid (wr.ownsRow w.heap.size 46 5 v8 cur.length (rowC cur)) ∧ Hid (GoodL cur) ∧ Hid (R = allE cur (b.drop j)) ∧ Hid (Below w.heap.size w wr)) (fun _ i _ => nb - (intOf i).toNat)
      case atStart => exact ⟨0, a, v3, rfl, Nat.zero_le _, rfl, HO3, HG, HR.out.symm.trans HC.out, B3⟩
      case round =>
        obtain ⟨j, cur, s8, hs8, hj, rfl, HO, HGc, HE, HB⟩ := hrel
        have hs8' := hs8.symm
        clear hs8
        subst hs8'
        by_cases hlt : j < nb
        · have hjl : j < b.length := by rw [HNb.out]; exact hlt
          obtain ⟨bb, o, rfl, hbw, hat⟩ := HRow.out (fun h => by simp [h] at hjl)
          have HAt : Hid (EnAt wr bb (o + j * 5) b[j]) := (hat j hjl).of_block (HB.out.block bb hbw)
          clear hat
          have HBad : Hid (b[j].bad = 0) := HGb.out.all _ (List.getElem_mem _)
          have HStep : Hid (R = if (putE cur b[j]).2.2 ≠ 0 then ([], (putE cur b[j]).2.2) else allE (putE cur b[j]).1 (b.drop (j + 1))) := HE.out.trans (allE_step hjl)
          obtain ⟨x, HX⟩ : ∃ x, Hid (b[j] = x) := ⟨b[j], show b[j] = b[j] from rfl⟩
          rw [HX.out] at HAt HBad HStep
          obtain ⟨⟨R1, R2, R3⟩, HPt⟩ : ∃ P, Hid (putE cur x = P) := ⟨_, rfl⟩
          rw [HPt.out] at HStep
          dsimp only at HStep
          obtain ⟨k, vv, aa, g, t⟩ := x
          obtain ⟨c0, c1, c2, c3, c4⟩ := HAt.out
          dsimp only at c0 c1 c2 c3 c4
          have hlti : (j : Int) < (nb : Int) := by omega
          have hbr : bb < wr.heap.size := by have := HB.out.size; omega
          have B4 : Hid (Below w.heap.size w (wr.alloc (.cells #[.int .i64 k, .int .i64 vv, .int .i64 aa, .bool g, .string t] 46))) := HB.out.alloc HB.out.size _
          have HO4 : Hid ((wr.alloc (.cells #[.int .i64 k, .int .i64 vv, .int .i64 aa, .bool g, .string t] 46)).ownsRow w.heap.size 46 5 s8 cur.length (rowC cur)) := ownsRow_below HO.out ((Below.refl _ wr).alloc (Nat.le_refl _) _)
          go_wp2_with fail
          refine (put_o HPt.out w.heap.size s8 _ HO4.out (by have := B4.out.size; omega) HGc.out).mono ?_
          rintro e w5 ⟨v5, rfl, ho5, hg5⟩
          have HO5 : Hid (w5.ownsRow w.heap.size 46 5 v5 R1.length (rowC R1)) := ho5
          have B5 : Hid (Below w.heap.size w w5) := below_grown B4.out (Nat.le_refl _) hg5 (fun c hc => ownsRow_from HO.out c hc)
          clear ho5 hg5 c0 c1 c2 c3 c4
          by_cases h3 : R3 = 0
          · subst h3
            rw [if_neg (by simp)] at HStep
            have HG5 : Hid (GoodL R1) := by
              have := putE_good (e := ⟨k, vv, aa, g, t⟩) HGc.out HBad.out (by rw [HPt.out])
              rw [HPt.out] at this
              exact this
            rw [eV, if_pos rfl]
            go_wp2_with fail
            go_roundw
            case rel => exact ⟨j + 1, R1, v5, rfl, by omega, by go_num, HO5, HG5, HStep, B5⟩
            case measure => simp [intOf]; omega
          · rw [if_pos h3] at HStep
            rw [eV, if_neg h3]
            go_wp2_with fail
            go_ret2
            refine ⟨.slice none 0 0, ?_, ?_, B5.out⟩
            · rw [HStep.out]
              show _ = Ending.returned (.tuple #[.slice none 0 0, eV R3])
              rw [eV, if_neg h3]
              rfl
            · rw [HStep.out]
              exact World.ownsRow_nil _ _ _ _
        · obtain rfl : j = nb := by omega
          have HR0 : Hid (R = (cur, 0)) := by
            show R = _
            rw [HE.out, List.drop_eq_nil_of_le (by rw [HNb.out]; exact Nat.le_refl _)]
            rfl
          go_wp2_with fail
          go_ret2
          refine ⟨s8, ?_, ?_, HB.out⟩
          · rw [HR0.out]
            rfl
          · rw [HR0.out]
            exact HO.out
    · obtain ⟨n, HM⟩ : ∃ n, Hid (badL b = n) := ⟨_, rfl⟩
      have HC : Hid (cacheBoth a b = ([], n)) := by
        show cacheBoth a b = _
        rw [cacheBoth, if_neg (by simpa using HN.out), if_pos hm, HM.out]
      rw [HM.out] at hm
      rw [HC.out]
      clear hra hrb
      go_enter Tryz.func143, Tryz.ntmps143
      go_wp2_with fail
      refine (cacheCheck_ok HA.out HN.out).mono ?_
      rintro e w1 ⟨rfl, hb⟩
      have B1 : Hid (Below w.heap.size w w1) := hb
      clear hb
      go_wp2_with fail
      refine (cacheCheck_err (HBr.out.below B1.out) HM.out hm).mono ?_
      rintro e w2 ⟨rfl, hb⟩
      have B2 : Hid (Below w.heap.size w w2) := B1.out.trans (hb.mono B1.out.size)
      clear hb
      go_wp2_with fail
      go_ret2
      refine ⟨.slice none 0 0, ?_, World.ownsRow_nil _ _ _ _, B2.out⟩
      show _ = Ending.returned (.tuple #[.slice none 0 0, eV n])
      rw [eV, if_neg hm]
      rfl
  · obtain ⟨n, HM⟩ : ∃ n, Hid (badL a = n) := ⟨_, rfl⟩
    have HC : Hid (cacheBoth a b = ([], n)) := by
      show cacheBoth a b = _
      rw [cacheBoth, if_pos hn, HM.out]
    rw [HM.out] at hn
    rw [HC.out]
    clear hra hrb
    go_enter Tryz.func143, Tryz.ntmps143
    go_wp2_with fail
    refine (cacheCheck_err HA.out HM.out hn).mono ?_
    rintro e w2 ⟨rfl, hb⟩
    have B2 : Hid (Below w.heap.size w w2) := hb
    clear hb
    go_wp2_with fail
    go_ret2
    refine ⟨.slice none 0 0, ?_, World.ownsRow_nil _ _ _ _, B2.out⟩
    show _ = Ending.returned (.tuple #[.slice none 0 0, eV n])
    rw [eV, if_neg hn]
    rfl
theorem both_o {a b R1 : List En} {R2 : Int} (h : cacheBoth a b = (R1, R2)) (va vb : Value) (w : World) (hra : RowIs w va a) (hrb : RowIs w vb b) :
    Calls Tryz.prog 143 #[va, vb] w fun e w' => ∃ v', e = .returned (.tuple #[v', eV R2]) ∧ w'.ownsRow w.heap.size 46 5 v' R1.length (rowC R1) ∧ Below w.heap.size w w' := by
  have c := both_c va vb a b w hra hrb
  rw [h] at c
  exact c
end Go.Proofs.YtpcnfoaoajfhlaaGreatDoor

namespace Go.Proofs.YtpcnfoaoajfhlaaGreatDoor
set_option linter.unusedVariables false
set_option linter.unusedSimpArgs false
open Go.RowKit
theorem bytes_inj {a b : ByteArray} (h : a.toList = b.toList) : a = b := by
  rw [ByteArray.toList_eq, ByteArray.toList_eq] at h
  exact ByteArray.ext (Array.toList_inj.mp h)
/-- x is what is known by a and b -/
def Known (a b x : En) : Prop := a.k = b.k ∧ ((a.v = b.v ∧ a.g = b.g ∧ a.t = b.t ∧ b.a < a.a ∧ x = a) ∨ (a.v = b.v ∧ a.g = b.g ∧ a.t = b.t ∧ a.a ≤ b.a ∧ x = b) ∨ (b.v < a.v ∧ b.a < a.v ∧ x = a) ∨ (a.v < b.v ∧ a.a < b.v ∧ x = b))
theorem bad2_zero {m n : Int} : bad2 m n = 0 ↔ m = 0 ∧ n = 0 := by
  unfold bad2
  by_cases h : m = 0 <;> simp [h]
theorem joinE_iff {a b x : En} : joinE a b = (x, 0) ↔ a.bad = 0 ∧ b.bad = 0 ∧ Known a b x := by
  unfold joinE Known En.bad
  by_cases hb : bad2 (bad a.k a.v a.a a.g a.t) (bad b.k b.v b.a b.g b.t) = 0
  · rw [if_neg (by simpa using hb)]
    have hb2 := bad2_zero.1 hb
    rw [hb2.1, hb2.2]
    by_cases hk : a.k = b.k
    · rw [if_neg (by simpa using hk)]
      simp only [hk, true_and]
      by_cases hv : a.v = b.v
      · have hlt : ¬ a.v < b.v := by omega
        have hgt : ¬ b.v < a.v := by omega
        by_cases hg : a.g = b.g
        · by_cases ht : a.t = b.t
          · by_cases ha : b.a < a.a
            · have hna : ¬ a.a ≤ b.a := by omega
              simp [newerB, clashB, hv, hg, ht, ha, hna, eq_comm]
            · have hna : a.a ≤ b.a := by omega
              simp [newerB, clashB, hv, hg, ht, ha, hna, eq_comm]
          · have htl : ¬ a.t.toList = b.t.toList := fun h => ht (bytes_inj h)
            have htl' : ¬ b.t.toList = a.t.toList := fun h => ht (bytes_inj h.symm)
            simp [newerB, clashB, hv, ht, htl, htl']
        · have hg' : ¬ b.g = a.g := fun h => hg h.symm
          simp [newerB, clashB, hv, hg, hg']
      · have hv' : ¬ b.v = a.v := fun h => hv h.symm
        by_cases hlt : b.v < a.v
        · have hgt : ¬ a.v < b.v := by omega
          by_cases hc : a.v ≤ b.a
          · have hnc : ¬ b.a < a.v := by omega
            simp [newerB, clashB, hv, hv', hlt, hgt, hc, hnc]
          · have hnc : b.a < a.v := by omega
            simp [newerB, clashB, hv, hv', hlt, hgt, hc, hnc, eq_comm]
        · have hgt : a.v < b.v := by omega
          by_cases hc : b.v ≤ a.a
          · have hnc : ¬ a.a < b.v := by omega
            simp [newerB, clashB, hv, hv', hlt, hgt, hc, hnc]
          · have hnc : a.a < b.v := by omega
            simp [newerB, clashB, hv, hv', hlt, hgt, hc, hnc, eq_comm]
    · simp [hk]
  · rw [if_pos hb]
    constructor
    · intro h
      simp only [Prod.mk.injEq] at h
      exact absurd h.2 hb
    · rintro ⟨h1, h2, _⟩
      exact absurd (bad2_zero.2 ⟨h1, h2⟩) hb
theorem En.eqs {a b : En} (h0 : a.k = b.k) (h1 : a.v = b.v) (h2 : a.a = b.a) (h3 : a.g = b.g) (h4 : a.t = b.t) : a = b := by
  cases a; cases b
  simp at *
  exact ⟨h0, h1, h2, h3, h4⟩
theorem Known.comm {a b x : En} (h : Known a b x) : Known b a x := by
  obtain ⟨hk, h⟩ := h
  refine ⟨hk.symm, ?_⟩
  rcases h with ⟨h1, h2, h3, h4, rfl⟩ | ⟨h1, h2, h3, h4, rfl⟩ | ⟨h1, h2, rfl⟩ | ⟨h1, h2, rfl⟩
  · exact Or.inr (Or.inl ⟨h1.symm, h2.symm, h3.symm, by omega, rfl⟩)
  · by_cases he : a.a < x.a
    · exact Or.inl ⟨h1.symm, h2.symm, h3.symm, he, rfl⟩
    · exact Or.inr (Or.inl ⟨h1.symm, h2.symm, h3.symm, by omega, (En.eqs hk h1 (by omega) h2 h3).symm⟩)
  · exact Or.inr (Or.inr (Or.inr ⟨h1, h2, rfl⟩))
  · exact Or.inr (Or.inr (Or.inl ⟨h1, h2, rfl⟩))
theorem Known.self (a : En) : Known a a a := ⟨rfl, Or.inr (Or.inl ⟨rfl, rfl, rfl, Int.le_refl _, rfl⟩)⟩
theorem Known.one {a b x : En} (h : Known a b x) : x = a ∨ x = b := by
  obtain ⟨hk, h⟩ := h
  rcases h with ⟨h1, h2, h3, h4, rfl⟩ | ⟨h1, h2, h3, h4, rfl⟩ | ⟨h1, h2, rfl⟩ | ⟨h1, h2, rfl⟩ <;> simp
theorem Known.left {a b x : En} (h : Known a b x) : Known x a x := by
  rcases h.one with rfl | rfl
  · exact Known.self _
  · exact h.comm
theorem Known.right {a b x : En} (h : Known a b x) : Known x b x := by
  rcases h.one with rfl | rfl
  · exact h
  · exact Known.self _
theorem Known.new {a b x : En} (h : Known a b x) (ha : a.v ≤ a.a) (hb : b.v ≤ b.a) : a.v ≤ x.v ∧ b.v ≤ x.v ∧ a.a ≤ x.a ∧ b.a ≤ x.a := by
  obtain ⟨hk, h⟩ := h
  rcases h with ⟨h1, h2, h3, h4, rfl⟩ | ⟨h1, h2, h3, h4, rfl⟩ | ⟨h1, h2, rfl⟩ | ⟨h1, h2, rfl⟩ <;> refine ⟨?_, ?_, ?_, ?_⟩ <;> omega
/-- the newer of two by version, and then by time -/
def Upto (a b : En) : Prop := a.v < b.v ∨ (a.v = b.v ∧ a.a ≤ b.a)
theorem Known.upto {a b x : En} (h : Known a b x) : Upto a x ∧ Upto b x := by
  obtain ⟨hk, h⟩ := h
  unfold Upto
  rcases h with ⟨h1, h2, h3, h4, rfl⟩ | ⟨h1, h2, h3, h4, rfl⟩ | ⟨h1, h2, rfl⟩ | ⟨h1, h2, rfl⟩ <;> constructor <;> omega
theorem Known.of_upto {a b y : En} (h : Known a b y) (hx : Upto a b) : y = b := by
  obtain ⟨hk, h⟩ := h
  unfold Upto at hx
  rcases h with ⟨h1, h2, h3, h4, rfl⟩ | ⟨h1, h2, h3, h4, rfl⟩ | ⟨h1, h2, rfl⟩ | ⟨h1, h2, rfl⟩
  · omega
  · rfl
  · omega
  · rfl
theorem Upto.trans {a b c : En} (h : Upto a b) (k : Upto b c) : Upto a c := by
  unfold Upto at *
  omega
/-- three in any order alike -/
theorem Known.three {a b c x p y z : En} (h1 : Known a b x) (h2 : Known x c p) (h3 : Known b c y) (h4 : Known a c z) : Known a y p := by
  have u1 := h1.upto; have u2 := h2.upto; have u3 := h3.upto; have u4 := h4.upto
  rcases h3.one with rfl | rfl
  · -- y = b
    have hp : p = x := by
      rcases h2.one with rfl | rfl
      · rfl
      · have : Upto y x := u1.2
        exact (Known.of_upto (h2.comm) (u3.2.trans this)).symm ▸ rfl
    rw [hp]
    exact h1
  · rcases h1.one with rfl | rfl
    · exact h2
    · have e := Known.of_upto h2 (show Upto x y from u3.1)
      rw [e]
      have e4 := Known.of_upto h4 (u1.1.trans u3.1)
      rw [e4] at h4
      exact h4
end Go.Proofs.YtpcnfoaoajfhlaaGreatDoor

namespace Go.Proofs.YtpcnfoaoajfhlaaGreatDoor
set_option linter.unusedVariables false
set_option linter.unusedSimpArgs false
open Go.RowKit

def sameL : List En → List En → Bool
  | [], [] => true
  | x :: a, y :: b => x.same y && sameL a b
  | _, _ => false
theorem En.same_iff {x y : En} : x.same y = true ↔ x = y := by
  constructor
  · intro h
    simp [En.same] at h
    exact En.eqs h.1 h.2.1 h.2.2.1 h.2.2.2.1 (bytes_inj h.2.2.2.2)
  · rintro rfl
    exact En.same_self x
theorem sameL_iff {a b : List En} : sameL a b = true ↔ a = b := by
  induction a generalizing b with
  | nil => cases b <;> simp [sameL]
  | cons x a ih => cases b <;> simp [sameL, ih, En.same_iff]
theorem sameL_len {a b : List En} (h : a.length ≠ b.length) : sameL a b = false := by
  cases hs : sameL a b
  · rfl
  · exact absurd (by rw [sameL_iff.1 hs]) h
theorem sameL_step {a b : List En} {j : Nat} (ha : j < a.length) (hb : j < b.length) : sameL (a.drop j) (b.drop j) = (a[j].same b[j] && sameL (a.drop (j + 1)) (b.drop (j + 1))) := by
  rw [List.drop_eq_getElem_cons ha, List.drop_eq_getElem_cons hb, sameL]

theorem neq_cellsS (x0 x1 x2 : Int) (x3 : Bool) (x4 : ByteArray) (y0 y1 y2 : Int) (y3 : Bool) (y4 : ByteArray) (b : Bool) (h : En.same ⟨x0, x1, x2, x3, x4⟩ ⟨y0, y1, y2, y3, y4⟩ = b) (w : World) : (binOp .neq 46 (.agg #[.int .i64 x0, .int .i64 x1, .int .i64 x2, .bool x3, .string x4]) (.agg #[.int .i64 y0, .int .i64 y1, .int .i64 y2, .bool y3, .string y4])).run Tryz.prog w = .ok (.bool !b) w := by
  have h1 := eql_enIn ⟨x0, x1, x2, x3, x4⟩ ⟨y0, y1, y2, y3, y4⟩ w
  rw [h] at h1
  unfold En.val at h1
  rw [run_neq_struct, h1]
  rfl
theorem below_drewS (B : Nat) (w : World) (n : Nat) : Below B w (w.drewN n) := ⟨rfl, rfl, rfl, Nat.le_refl _, fun _ _ => rfl⟩

set_option maxHeartbeats 4000000 in
theorem same_c (va vb : Value) (a b : List En) (w : World) (hra : RowIs w va a) (hrb : RowIs w vb b) :
    Calls Tryz.prog 18 #[va, vb] w fun e w' => e = .returned (.bool (sameL a b)) ∧ Below w.heap.size w w' := by
  obtain ⟨hla, pa, capa, rfl, hrowa⟩ := hra
  obtain ⟨hlb, pb, capb, rfl, hrowb⟩ := hrb
  by_cases hl : a.length = b.length
  · have HRA : Hid (a ≠ [] → ∃ bb o, pa = some ⟨bb, o, none⟩ ∧ bb < w.heap.size ∧ ∀ j (h : j < a.length), EnAt w bb (o + j * 5) a[j]) := hrowa
    have HRB : Hid (b ≠ [] → ∃ bb o, pb = some ⟨bb, o, none⟩ ∧ bb < w.heap.size ∧ ∀ j (h : j < b.length), EnAt w bb (o + j * 5) b[j]) := hrowb
    clear hrowa hrowb
    have HL : Hid (a.length = b.length) := hl
    obtain ⟨n, HN⟩ : ∃ n, Hid (a.length = n) := ⟨_, rfl⟩
    have HNb : Hid (b.length = n) := HL.out.symm.trans HN.out
    rw [HN.out] at hla ⊢
    rw [HNb.out] at hlb ⊢
    have hn63 : n ≤ 9223372036854775807 := hla
    clear hl
    obtain ⟨R, HR⟩ : ∃ R, Hid (sameL a b = R) := ⟨_, rfl⟩
    rw [HR.out]
    have hgd := eqGuard_en
    go_enter Tryz.func18, Tryz.ntmps18
    go_wp2_with fail
    go_loopw [5] (fun i wr => ∃ j : Nat, j ≤ n ∧ i = .int .i64 j ∧ Hid (R = sameL (a.drop j) (b.drop j)) ∧ Hid (Below w.heap.size w wr)) (fun i _ => n - (intOf i).toNat)
    case atStart => exact ⟨0, Nat.zero_le _, rfl, by rw [List.drop_zero, List.drop_zero]; exact HR.out.symm, Below.refl _ _⟩
    case round =>
      obtain ⟨j, hj, rfl, HE, HB⟩ := hrel
      by_cases hlt : j < n
      · have hja : j < a.length := by rw [HN.out]; exact hlt
        have hjb : j < b.length := by rw [HNb.out]; exact hlt
        obtain ⟨ba, oa, rfl, hbwa, hata⟩ := HRA.out (fun h => by simp [h] at hja)
        obtain ⟨bb, ob, rfl, hbwb, hatb⟩ := HRB.out (fun h => by simp [h] at hjb)
        have HAa : Hid (EnAt wr ba (oa + j * 5) a[j]) := (hata j hja).of_block (HB.out.block ba hbwa)
        have HAb : Hid (EnAt wr bb (ob + j * 5) b[j]) := (hatb j hjb).of_block (HB.out.block bb hbwb)
        clear hata hatb
        have HStep : Hid (R = (a[j].same b[j] && sameL (a.drop (j + 1)) (b.drop (j + 1)))) := HE.out.trans (sameL_step hja hjb)
        obtain ⟨x, HX⟩ : ∃ x, Hid (a[j] = x) := ⟨a[j], show a[j] = a[j] from rfl⟩
        obtain ⟨y, HY⟩ : ∃ y, Hid (b[j] = y) := ⟨b[j], show b[j] = b[j] from rfl⟩
        rw [HX.out] at HAa HStep
        rw [HY.out] at HAb HStep
        obtain ⟨x0, x1, x2, x3, x4⟩ := x
        obtain ⟨y0, y1, y2, y3, y4⟩ := y
        obtain ⟨sm, HS⟩ : ∃ sm, Hid (En.same ⟨x0, x1, x2, x3, x4⟩ ⟨y0, y1, y2, y3, y4⟩ = sm) := ⟨_, rfl⟩
        rw [HS.out] at HStep
        have hq := neq_cellsS x0 x1 x2 x3 x4 y0 y1 y2 y3 y4 sm HS.out
        obtain ⟨c0, c1, c2, c3, c4⟩ := HAa.out
        obtain ⟨d0, d1, d2, d3, d4⟩ := HAb.out
        dsimp only at c0 c1 c2 c3 c4 d0 d1 d2 d3 d4
        have hlti : (j : Int) < (n : Int) := by omega
        cases sm
        · go_upto_region 6 with fail
          go_quiet (fail)
          go_wp2_with fail
          go_ret
          refine ⟨by rw [HStep.out]; rfl, HB.out.trans (below_drewS _ _ _)⟩
        · go_upto_region 6 with fail
          go_quiet (fail)
          go_wp2_with fail
          go_roundw
          case rel => exact ⟨j + 1, by omega, by go_num, HStep.out.trans (by rw [Bool.true_and]), HB.out.trans (below_drewS _ _ _)⟩
          case measure => simp [intOf]; omega
      · obtain rfl : j = n := by omega
        have HR0 : Hid (R = true) := by
          show R = true
          rw [HE.out, List.drop_eq_nil_of_le (by rw [HN.out]; exact Nat.le_refl _), List.drop_eq_nil_of_le (by rw [HNb.out]; exact Nat.le_refl _)]
          rfl
        go_wp2_with fail
        go_ret
        exact ⟨by rw [HR0.out]; rfl, HB.out⟩
  · rw [sameL_len hl]
    clear hrowa hrowb
    have hli : ¬ ((a.length : Int) = (b.length : Int)) := by omega
    generalize a.length = n at *
    generalize b.length = m at *
    go_enter Tryz.func18, Tryz.ntmps18
    go_wp2_with fail
    go_ret
    exact ⟨rfl, Below.refl _ _⟩
end Go.Proofs.YtpcnfoaoajfhlaaGreatDoor
