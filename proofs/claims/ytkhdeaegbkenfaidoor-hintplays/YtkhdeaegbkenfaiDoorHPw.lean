/-
  merelaw2.HintPlays answers true, whatever the steps.
-/
import Derived.Test.YtkhdeaegbkenfaiDoorHPe
import Derived.Test.YtkhdeaegbkenfaiDoorHnS
import Derived.Test.YtkhdeaegbkenfaiDoorPl1
import Derived.Test.YtkhdeaegbkenfaiDoorErrA
import Derived.Deep.DeepCutAuto
import Derived.Deep.CutBlock
import Derived.Deep.LoopGhost
import Derived.Deep.Draws
import Derived.Deep.RegionHeld3
import Derived.BigQuiet
import Derived.BigRegion
import Derived.WalkSmall
namespace Go.Proofs.YtkhdeaegbkenfaiDoor
set_option linter.unusedVariables false
set_option linter.unusedSimpArgs false
open Go.RowKit

def nodeE (i : Int) : Int := if (decide (0 ≤ i) && decide (i ≤ 5)) = true then 0 else 1
/-- what is asked behind a piece of code that ends: R; nothing but an end is let by -/
def endsBy (R : Act → World → Prop) : Exit → Act → World → Prop := fun e a w => match e with | .normal => R a w | _ => False
theorem wp_ends {c : Code} {R : Act → World → Prop} {E : Exit → Act → World → Prop} {a : Act} {w : World} (h : Code.wp Tryd.prog c (endsBy R) a w) : Code.wp Tryd.prog c (Exit.then R E) a w :=
  Code.wp_mono (Q := endsBy R) (fun e x y hx => by cases e <;> first | exact hx | exact hx.elim) h
theorem endsBy_normal {R : Act → World → Prop} {a : Act} {w : World} (h : R a w) : endsBy R .normal a w := h
theorem addN_one (x : Hn) (l : List Hn) : addN x l ≤ 1 := by
  unfold addN
  split <;> omega
set_option maxRecDepth 100000 in
set_option maxHeartbeats 32000000 in
theorem hplays_w (I : HiFace) (vs : Value) (ns : Nat) (w : World) (hg : HasErr w) (hs : IsSteps w vs ns) :
    Calls Tryd.prog 3 #[vs] w fun e w' => e = .returned (.bool true) ∧ Below w.heap.size w w' := by
  have HG : Hid (HasErr w) := hg
  have hlt := hg.lt
  clear hg
  obtain ⟨aS, cS, rfl, hns, hs1⟩ := hs
  have HS1 : Hid (∀ i, i < ns → ∃ b o u m, aS = some ⟨b, o, none⟩ ∧ w.cell? ⟨b, o + i, none⟩ = some u ∧ IsInts w u m) := hs1
  clear hs1
  unfold maxLen at hns
  go_enter Tryd.func3, Tryd.ntmps3
  go_wp2_with fail
  refine (I.new _).mono ?_
  rintro e w1 ⟨b, rfl, hb0, hat, hbel⟩
  have hblt := hat.lt b rfl
  have T0 : Hid (Th (fun _ => False) w.heap.size w (w1.alloc (.cells #[.slice none 0 0, .int .i64 0] 28)) b w1.heap.size [] 0 [] 0) := by
    have hsz := hbel.size
    refine ⟨⟨fun c => c = b, fun c => c = w1.heap.size, hat.grown (by go_grown), rh_new w1 _ rfl, fun c hc => ⟨by omega, by omega, id⟩, fun c hc => ⟨by omega, id⟩⟩, hbel.trans ((show Below w1.heap.size w1 _ by go_grown).mono hbel.size), ?_, fun c hc => hc.elim⟩
    simp
    omega
  clear hb0 hat hbel hblt
  go_upto_region 2 with fail
  go_cut [4] (fun c4 wc => ∃ K, c4 = .pointer (some ⟨K, 0, none⟩) ∧ Hid (Th (fun _ => False) w.heap.size w wc b K [] 0 [] 0))
  case first =>
    go_wp2_with fail
    go_meet
    case rel => exact ⟨_, rfl, T0⟩
  case rest =>
  clear T0
  obtain ⟨K, rfl, T0⟩ := hcut
  obtain ⟨w2, hren⟩ : ∃ x, x = wc := ⟨_, rfl⟩
  subst hren
  go_wp2_with fail
  go_loopw [5] (fun i wr => ∃ (n : Nat) (L : List Hn) (lo : Nat), n ≤ ns ∧ n ≤ 120 ∧ i = .int .i64 n ∧ Hid (GoodH L) ∧ Hid (lo ≤ n) ∧ Hid (Th (fun _ => False) w.heap.size w wr b K L lo L lo)) (fun i _ => ns - (intOf i).toNat)
  case atStart => exact ⟨0, [], 0, by omega, by omega, rfl, GoodH.nil, Nat.le_refl _, T0⟩
  case round =>
    obtain ⟨n, L, lo, hnn, hn120, rfl, HGd, HLo, TR⟩ := hrel
    clear T0
    by_cases hlt1 : n < ns ∧ n < 120
    · obtain ⟨hn1, hn2⟩ := hlt1
      have hd1 : decide ((n : Int) < (ns : Int)) = true := by simp; omega
      have hd2 : decide ((n : Int) < 120) = true := by simp; omega
      have hlti : (n : Int) < (ns : Int) := by omega
      obtain ⟨bS, oS, u, m, rfl, cu, HI⟩ := HS1.out n hn1
      have cu' := old_cell TR.out.bel cu
      have lS := World.block_lt_of_cell? wr _ cu'
      have HI' := HI.below TR.out.bel
      obtain ⟨aI, cI, rfl, hm, hz⟩ := HI'
      have HZ : Hid (∀ j, j < m → ∃ b o z, aI = some ⟨b, o, none⟩ ∧ wr.cell? ⟨b, o + j, none⟩ = some (.int .i64 z)) := hz
      unfold maxLen at hm
      clear HI cu hz
      go_upto_block 2 with fail
      go_cut [7] (fun _ wc => ∃ z0 z1 z2 z3 : Int, wc = wr.alloc (.cells #[.int .i64 z0, .int .i64 z1, .int .i64 z2, .int .i64 z3] 29))
      case first =>
        go_wp2_with fail
        go_loopg [7] 4 (fun gq j wi => ∃ q : Nat, gq + q = 4 ∧ j = .int .i64 q ∧ ∃ z0 z1 z2 z3 : Int, wi = wr.alloc (.cells #[.int .i64 z0, .int .i64 z1, .int .i64 z2, .int .i64 z3] 29))
        case atStart => exact ⟨0, by omega, rfl, 0, 0, 0, 0, rfl⟩
        case round =>
          obtain ⟨q, hq, rfl, z0, z1, z2, z3, rfl⟩ := hrel
          by_cases hqm : q < m ∧ q < 4
          · obtain ⟨hq1, hq2⟩ := hqm
            have hq3 : (q : Int) < (m : Int) := by omega
            have hq4 : decide ((q : Int) < (m : Int)) = true := by simp; omega
            obtain ⟨bI, oI, z, rfl, cz⟩ := HZ.out q hq1
            have lI := World.block_lt_of_cell? wr _ cz
            have h4 : q = 0 ∨ q = 1 ∨ q = 2 ∨ q = 3 := by omega
            rcases h4 with rfl | rfl | rfl | rfl
            · simp only [Nat.add_zero] at cz
              go_wp2
              go_roundg (3 : Nat)
              case measure => omega
              case rel => exact ⟨1, by omega, rfl, _, _, _, _, rfl⟩
            · go_wp2
              go_roundg (2 : Nat)
              case measure => omega
              case rel => exact ⟨2, by omega, rfl, _, _, _, _, rfl⟩
            · go_wp2
              go_roundg (1 : Nat)
              case measure => omega
              case rel => exact ⟨3, by omega, rfl, _, _, _, _, rfl⟩
            · go_wp2
              go_roundg (0 : Nat)
              case measure => omega
              case rel => exact ⟨4, by omega, rfl, _, _, _, _, rfl⟩
          · by_cases h : q < m
            · have hq5 : decide ((q : Int) < (m : Int)) = true := by simp; omega
              have hq6 : decide ((q : Int) < 4) = false := by simp; omega
              go_wp2_with fail
              go_meet
              case rel => exact ⟨z0, z1, z2, z3, rfl⟩
            · have hq5 : decide ((q : Int) < (m : Int)) = false := by simp; omega
              go_wp2_with fail
              go_meet
              case rel => exact ⟨z0, z1, z2, z3, rfl⟩
      case rest =>
      obtain ⟨z0, z1, z2, z3, hwc⟩ := hcut
      obtain ⟨wA, hren⟩ : ∃ x, x = wc := ⟨_, rfl⟩
      subst hren
      obtain ⟨A, HA⟩ : ∃ A, Hid (A = wr.heap.size) := ⟨_, rfl⟩
      have TA : Hid (Th (fun c => c = A) w.heap.size w wA b K L lo L lo) := by
        unfold Hid
        rw [hwc, HA.out]
        exact TR.out.more (by go_grown) (fun c hc => .inr (by omega)) (fun c hc => by simp; omega)
      have ZA : Hid (Z4 wA A z0 z1 z2 z3) := by
        unfold Hid
        rw [hwc, HA.out]
        exact ⟨by simp, by simp, by simp, by simp⟩
      clear hwc HZ cu' lS hm TR
      rw [← HA.out]
      clear HA
      obtain ⟨a0, a1, a2, a3⟩ := ZA.out
      have lA := ZA.out.lt
      go_upto_if 52 with fail
      go_cut [8] (fun c8 wd => c8 = .bool true ∧ ∃ (L' : List Hn) (lo' : Nat), Hid (GoodH L') ∧ Hid (lo' ≤ n + 1) ∧ Hid (Th (fun c => c = A) w.heap.size w wd b K L' lo' L' lo'))
      case first =>
        cases hz : decide (z0 < 3)
        · obtain ⟨me, HMe⟩ : ∃ x, Hid ((if (decide (0 ≤ z1) && decide (z1 ≤ 5)) = true then (0 : Int) else 1) = x) := ⟨_, rfl⟩
          obtain ⟨L', HLs⟩ : ∃ x, Hid ((if me = 0 then leaveH z1 L else L) = x) := ⟨_, rfl⟩
          obtain ⟨t, HT⟩ : ∃ x, Hid ((if me = 0 then takeH z1 L else []) = x) := ⟨_, rfl⟩
          obtain ⟨inb, HIn⟩ : ∃ c, Hid ((decide (0 ≤ z1) && decide (z1 ≤ 5)) = c) := ⟨_, rfl⟩
          go_upto_region 18 with fail
          go_cut [75] (fun c wd => wd = wA ∧ c = .bool inb)
          case first =>
            cases h0 : decide (0 ≤ z1)
            · have HC : Hid (inb = false) := HIn.out.symm.trans (by rw [h0]; rfl)
              go_wp2_with fail
              go_meet
              case rel => exact ⟨rfl, by rw [HC.out]⟩
            · have HC : Hid (inb = decide (z1 ≤ 5)) := HIn.out.symm.trans (by rw [h0]; rfl)
              go_wp2_with fail
              go_meet
              case rel => exact ⟨rfl, by rw [HC.out]⟩
          case rest =>
          obtain ⟨hwd, rfl⟩ := hcut
          have hwd' := hwd.symm
          subst hwd'
          go_upto_if 75 with fail
          go_cut [11, 12] (fun c11 c12 wd => c11 = .int .i64 me ∧ Hid (HnsIs wd c12 t) ∧ Hid (Th (fun c => c = A ∨ c12.ownBlock = some c) w.heap.size w wd b K L lo L' lo) ∧ Hid (Z4 wd A z0 z1 z2 z3))
          case first =>
            cases inb
            · have HE : Hid (me = 1) := HMe.out.symm.trans (by rw [HIn.out]; rfl)
              have HL1 : Hid (L' = L) := HLs.out.symm.trans (by rw [HE.out]; rfl)
              have HT1 : Hid (t = []) := HT.out.symm.trans (by rw [HE.out]; rfl)
              go_wp2_with fail
              go_meet
              case rel => exact ⟨by rw [HE.out], by rw [HT1.out]; exact HnsIs.nil _, by rw [HL1.out]; exact TA.out.less (fun c hc => by rcases hc with hc | hc; exact hc; simp [Value.ownBlock] at hc), ZA⟩
            · have HE : Hid (me = 0) := HMe.out.symm.trans (by rw [HIn.out]; rfl)
              have HL1 : Hid (leaveH z1 L = L') := by have := HLs.out; rw [HE.out, if_pos rfl] at this; exact this
              have HT1 : Hid (takeH z1 L = t) := by have := HT.out; rw [HE.out, if_pos rfl] at this; exact this
              obtain ⟨S, h1, h2⟩ := TA.out.callK
              have HS : Hid _ := h1
              have HC : Hid _ := h2
              clear h1 h2
              go_wp2_with fail
              refine (rhTake_n HS.out HGd.out.ten HT1.out HL1.out).mono ?_
              rintro e w4 ⟨u, rfl, hu, hub, ⟨S', hs1, hs2⟩, ht⟩
              obtain ⟨h1, h2⟩ := HC.out w4 _ _ S' (fun c => u.ownBlock = some c) ht hs1 (fun c hc => ⟨(hs2 c hc).1, (hs2 c hc).2⟩) hub
              have T4 : Hid _ := h1
              have HU : Hid (HnsIs w4 u t) := hu
              have Z4' : Hid (Z4 w4 A z0 z1 z2 z3) := ZA.out.of_block (h2 A rfl)
              clear h1 h2 hu hub hs1 hs2 ht HS HC
              go_wp2_with fail
              go_meet
              case rel => exact ⟨by rw [HE.out], HU, T4, Z4'⟩
          case rest =>
          obtain ⟨rfl, HU, T3, Z3⟩ := hcut
          obtain ⟨w3, hren⟩ : ∃ x, x = wc := ⟨_, rfl⟩
          subst hren
          clear a0 a1 a2 a3 lA TA ZA
          obtain ⟨a0, a1, a2, a3⟩ := Z3.out
          have lA := Z3.out.lt
          obtain ⟨S, h1, h2⟩ := T3.out.callH
          have HS : Hid _ := h1
          have HC : Hid _ := h2
          clear h1 h2
          go_wp2_with fail
          refine (I.take HS.out HGd.out HMe.out HT.out HLs.out).mono ?_
          rintro e w4 ⟨u, rfl, hu, hub, ⟨S', hs1, hs2⟩, ht⟩
          obtain ⟨h1, h2⟩ := HC.out w4 _ _ S' (fun c => u.ownBlock = some c) ht hs1 (fun c hc => ⟨(hs2 c hc).1, (hs2 c hc).2⟩) hub
          have T4 : Hid (Th (fun c => c = A) w.heap.size w w4 b K L' lo L' lo) := h1.less (fun c hc => .inl (.inl hc))
          have HU4 : Hid (HnsIs w4 u t) := hu
          have HV4 : Hid (HnsIs w4 _ t) := HU.out.blocks ht.size (fun c hc _ => h2 c (.inr hc))
          clear h1 h2 hu hub hs1 hs2 ht HS HC HU T3 Z3 a0 a1 a2 a3 lA
          obtain ⟨EV, HEV⟩ : ∃ x, Hid (eV me = x) := ⟨_, rfl⟩
          rw [HEV.out]
          go_wp2_with fail
          rw [← HEV.out]
          refine (err_same me _ (HG.out.below hlt T4.out.bel)).mono ?_
          rintro e w5 ⟨rfl, hb⟩
          have T5 : Hid _ := T4.out.grown hb
          have HU5 : Hid (HnsIs w5 u t) := HU4.out.below hb
          have HV5 : Hid (HnsIs w5 _ t) := HV4.out.below hb
          clear hb T4 HU4 HV4
          rw [HEV.out]
          go_wp2_with fail
          refine (sameHn_c _ _ t _ HU5.out HV5.out).mono ?_
          rintro e w6 ⟨rfl, hb⟩
          have T6 : Hid _ := T5.out.grown hb
          clear hb
          go_wp2_with fail
          go_meet
          case rel => exact ⟨rfl, L', lo, by have := HLs.out; rw [← this]; show GoodH (if me = 0 then leaveH z1 L else L); split; exact HGd.out.leave _; exact HGd.out, by show lo ≤ n + 1; have := HLo.out; omega, T6⟩
        · obtain ⟨me, HMe⟩ : ∃ x, Hid (addE ⟨z1, z2, z3⟩ = x) := ⟨_, rfl⟩
          obtain ⟨L', HLs⟩ : ∃ x, Hid (addH ⟨z1, z2, z3⟩ L = x) := ⟨_, rfl⟩
          obtain ⟨lo', HLs2⟩ : ∃ x, Hid (lo + addN ⟨z1, z2, z3⟩ L = x) := ⟨_, rfl⟩
          go_upto_region 14 with fail
          obtain ⟨w3, HW3⟩ : ∃ x, x = wA.alloc (.cells #[.int .i64 z1, .int .i64 z2, .int .i64 z3] 32) := ⟨_, rfl⟩
          obtain ⟨X, HX⟩ : ∃ x, Hid (x = wA.heap.size) := ⟨_, rfl⟩
          rw [← HW3, ← HX.out]
          have T3 : Hid (Th (fun c => c = A ∨ c = X) w.heap.size w w3 b K L lo L lo) := by
            unfold Hid
            rw [HW3, HX.out]
            exact TA.out.more (by go_grown) (fun c hc => by rcases hc with hc | hc; exact .inl hc; exact .inr (by omega)) (fun c hc => by have := lA; simp; omega)
          have X3 : Hid (BoxH w3 X z1 z2 z3) := by
            unfold Hid
            rw [HW3, HX.out]
            exact boxH_new wA z1 z2 z3 _ rfl
          clear HW3 HX a0 a1 a2 a3 lA TA ZA
          obtain ⟨S, h1, h2⟩ := T3.out.callK
          have HS : Hid _ := h1
          have HC : Hid _ := h2
          clear h1 h2
          obtain ⟨e0, e1, e2, ef⟩ := X3.out
          go_wp2_with fail
          refine (rhAdd_n HS.out HGd.out.ten (by have := HLo.out; omega) HMe.out HLs.out HLs2.out).mono ?_
          rintro e w4 ⟨rfl, ht1, S', ht2, ht3⟩
          obtain ⟨h1, h2⟩ := HC.out w4 _ _ S' (fun _ => False) ht1 ht2 (fun c hc => ⟨ht3 c hc, id⟩) (fun _ h => h.elim)
          have T4 : Hid (Th (fun c => c = A ∨ c = X) w.heap.size w w4 b K L lo L' lo') := h1.less (fun c hc => .inl hc)
          have X4 : Hid (BoxH w4 X z1 z2 z3) := X3.out.of_block (h2 X (.inr rfl))
          clear ht1 ht2 ht3 h1 h2 HS HC e0 e1 e2 ef X3 T3
          obtain ⟨S, h1, h2⟩ := T4.out.callH
          have HS : Hid _ := h1
          have HC : Hid _ := h2
          clear h1 h2
          obtain ⟨e0, e1, e2, ef⟩ := X4.out
          go_wp2_with fail
          refine (I.add HS.out HGd.out (by have := HLo.out; omega) HMe.out HLs.out HLs2.out).mono ?_
          rintro e w5 ⟨rfl, ht1, S', ht2, ht3⟩
          obtain ⟨h1, _⟩ := HC.out w5 _ _ S' (fun _ => False) ht1 ht2 (fun c hc => ⟨ht3 c hc, id⟩) (fun _ h => h.elim)
          have T5 : Hid (Th (fun c => c = A) w.heap.size w w5 b K L' lo' L' lo') := h1.less (fun c hc => .inl (.inl hc))
          clear ht1 ht2 ht3 h1 HS HC e0 e1 e2 ef X4 T4
          go_wp2_with fail
          refine (err_same me _ (HG.out.below hlt T5.out.bel)).mono ?_
          rintro e w6 ⟨rfl, hb⟩
          have T6 : Hid _ := T5.out.grown hb
          clear hb
          go_wp2_with fail
          go_meet
          case rel => exact ⟨rfl, L', lo', by rw [← HLs.out]; exact HGd.out.add _, by show lo' ≤ n + 1; have h1 := HLs2.out; have h2 := addN_one ⟨z1, z2, z3⟩ L; have h3 := HLo.out; omega, T6⟩
      case rest =>
      obtain ⟨rfl, L', lo', HGd', HLo', TC⟩ := hcut
      obtain ⟨wC, hren⟩ : ∃ x, x = wc := ⟨_, rfl⟩
      subst hren
      clear TA ZA a0 a1 a2 a3 lA
      obtain ⟨pk, capk, ck0, ck1, hrk, _⟩ := TC.out.cellK
      obtain ⟨nC, HNC⟩ : ∃ n, Hid (L'.length = n) := ⟨_, rfl⟩
      rw [HNC.out] at ck0 hrk
      have HV : Hid (HnsIs wC (.slice pk nC capk) L') := hrk
      have lK : K < wC.heap.size := World.block_lt_of_cell? wC _ ck0
      obtain ⟨S5, hS5, _⟩ := TC.out.callH
      have HS : Hid (HiAt S5 wC b L' lo') := hS5
      clear hrk hS5
      have hne : ((lo' : Int) != (lo' : Int)) = false := by simp
      have HDr : Hid (Below wC.heap.size wC wC.drew) := ⟨rfl, rfl, rfl, Nat.le_refl _, fun _ _ => rfl⟩
      have HK0 : Hid (∀ W, Below wC.heap.size wC W → W.cell? ⟨K, 0, none⟩ = some (.slice pk nC capk)) := fun W hW => (World.cell?_of_block (a := ⟨K, 0, none⟩) (hW.block K lK)).trans ck0
      have HK1 : Hid (∀ W, Below wC.heap.size wC W → W.cell? ⟨K, 1, none⟩ = some (.int .i64 lo')) := fun W hW => (World.cell?_of_block (a := ⟨K, 1, none⟩) (hW.block K lK)).trans ck1
      go_upto_region 23 with fail
      go_cut [115] (fun c wd => c = .bool false ∧ Hid (Below wC.heap.size wC wd))
      case first =>
        refine wp_ends ?_
        go_region_held3 (fun w' => w'.cell? ⟨K, 0, none⟩ = some (.slice pk nC capk) ∧ w'.cell? ⟨K, 1, none⟩ = some (.int .i64 lo')) (first | (exact ⟨HK0.out _ B9.out, HK1.out _ B9.out⟩) | (exact ⟨HK0.out _ B8.out, HK1.out _ B8.out⟩) | (exact ⟨HK0.out _ B7.out, HK1.out _ B7.out⟩) | (exact ⟨HK0.out _ HDr.out, HK1.out _ HDr.out⟩)) (first | (go_at_call 11; refine (I.all (HS.out.grown HDr.out) HGd'.out).mono ?_; rintro e w7 ⟨u, rfl, hu, _, hb7⟩; have B7 : Hid (Below wC.heap.size wC w7) := below_undrew hb7; have HU7 : Hid (HnsIs w7 u L') := hu; clear hu hb7) | (go_at_call 10; refine (sameHn_c _ _ L' _ HU7.out (HV.out.below B7.out)).mono ?_; rintro e w8 ⟨rfl, hb8⟩; have B8 : Hid (Below wC.heap.size wC w8) := B7.out.trans (hb8.mono B7.out.size); clear hb8) | (go_at_call 12; refine (I.lost (HS.out.grown B8.out)).mono ?_; rintro e w9 ⟨rfl, hb9⟩; have B9 : Hid (Below wC.heap.size wC w9) := B8.out.trans (hb9.mono B8.out.size); clear hb9))
        all_goals refine endsBy_normal ?_
        all_goals go_wp2_with fail
        all_goals go_meet
        all_goals exact ⟨rfl, by assumption⟩
      case rest =>
      obtain ⟨rfl, B9⟩ := hcut
      have TD : Hid _ := (TC.out.grown B9.out).less (P' := fun _ => False) (fun _ h => h.elim)
      go_wp2_with fail
      go_roundw
      case rel => exact ⟨n + 1, L', lo', by omega, by omega, by go_num, HGd', HLo', TD⟩
      case measure => simp [intOf]; omega
    · by_cases hn1 : n < ns
      · have hd1 : decide ((n : Int) < (ns : Int)) = true := by simp; omega
        have hd2 : decide ((n : Int) < 120) = false := by simp; omega
        go_wp2_with fail
        go_ret
        exact ⟨rfl, TR.out.bel⟩
      · have hd1 : decide ((n : Int) < (ns : Int)) = false := by simp; omega
        go_wp2_with fail
        go_ret
        exact ⟨rfl, TR.out.bel⟩
end Go.Proofs.YtkhdeaegbkenfaiDoor
