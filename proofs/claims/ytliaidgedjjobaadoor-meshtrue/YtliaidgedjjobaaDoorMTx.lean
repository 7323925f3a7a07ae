/-
  merelaw2.MeshTrue answers true, whatever is done.
-/
import Derived.Test.YtliaidgedjjobaaDoorGc
import Derived.Test.YtliaidgedjjobaaDoorGd
import Derived.Deep.DeepCutAuto
import Derived.Deep.CutBlock
import Derived.Deep.LoopGhost
import Derived.Deep.Draws
import Derived.Deep.RegionHeld3
import Derived.BigQuiet
import Derived.BigRegion
import Derived.WalkSmall
namespace Go.Proofs.YtliaidgedjjobaaDoor
set_option linter.unusedVariables false
set_option linter.unusedSimpArgs false
set_option linter.unusedVariables false
set_option linter.unusedSimpArgs false
open Go.RowKit

structure Z4 (w : World) (A : Nat) (z0 z1 z2 z3 : Int) : Prop where
  c0 : w.cell? ⟨A, 0, none⟩ = some (.int .i64 z0)
  c1 : w.cell? ⟨A, 1, none⟩ = some (.int .i64 z1)
  c2 : w.cell? ⟨A, 2, none⟩ = some (.int .i64 z2)
  c3 : w.cell? ⟨A, 3, none⟩ = some (.int .i64 z3)
theorem Z4.of_block {w w' : World} {A : Nat} {z0 z1 z2 z3 : Int} (h : Z4 w A z0 z1 z2 z3) (hb : w'.heap[A]? = w.heap[A]?) : Z4 w' A z0 z1 z2 z3 :=
  ⟨(World.cell?_of_block (a := ⟨A, 0, none⟩) hb).trans h.c0, (World.cell?_of_block (a := ⟨A, 1, none⟩) hb).trans h.c1, (World.cell?_of_block (a := ⟨A, 2, none⟩) hb).trans h.c2, (World.cell?_of_block (a := ⟨A, 3, none⟩) hb).trans h.c3⟩
theorem Z4.lt {w : World} {A : Nat} {z0 z1 z2 z3 : Int} (h : Z4 w A z0 z1 z2 z3) : A < w.heap.size := World.block_lt_of_cell? w _ h.c0
theorem Z4.grown {w w' : World} {A : Nat} {z0 z1 z2 z3 : Int} (h : Z4 w A z0 z1 z2 z3) (hb : Below w.heap.size w w') : Z4 w' A z0 z1 z2 z3 := h.of_block (hb.block A h.lt)
theorem two_put : (mPut [] (List.replicate 2 []) 0 3 ⟨#[120]⟩).num = 1 ∧ (mPut [] (List.replicate 2 []) 0 3 ⟨#[120]⟩).err = 0 := ⟨by kernel_rfl, by kernel_rfl⟩
theorem two_get : (mGet (mPut [] (List.replicate 2 []) 0 3 ⟨#[120]⟩).done (mPut [] (List.replicate 2 []) 0 3 ⟨#[120]⟩).cs 1 3 1).2 = (⟨3, 1, 1, false, ⟨#[120]⟩⟩, false, 0) := by kernel_rfl
/-- what the law's rounds carry -/
structure MtIs (N : Nat) (w0 w : World) (m nn : Nat) (l : List Deed) (cs : List (List En)) : Prop where
  h : Mh (fun _ => False) N w0 w m l cs
  good : GoodM l cs
  len : cs.length = nn
set_option maxRecDepth 100000 in
set_option maxHeartbeats 64000000 in
theorem mtrue_w (n : Int) (vs vt : Value) (ns nt : Nat) (w : World) (hs : IsSteps w vs ns) (ht : IsTexts w vt nt) (hT : Lib.TabIs Tryd.prog w powName .u64 Lib.pow10Tab) :
    Calls Tryd.prog 4 #[.int .i64 n, vs, vt] w fun e w' => e = .returned (.bool true) ∧ Below w.heap.size w w' := by
  have HTb : Hid (Lib.TabBelow Tryd.prog w.heap.size w powName .u64 Lib.pow10Tab) := Lib.tabBelow_of_tabIs hT
  obtain ⟨aS, cS, rfl, hns, hs1⟩ := hs
  have HS1 : Hid (∀ i, i < ns → ∃ b o u m, aS = some ⟨b, o, none⟩ ∧ w.cell? ⟨b, o + i, none⟩ = some u ∧ IsInts w u m) := hs1
  obtain ⟨aT, cT, rfl, hnt, ht1⟩ := ht
  have HT1 : Hid (∀ i, i < nt → ∃ b o s, aT = some ⟨b, o, none⟩ ∧ w.cell? ⟨b, o + i, none⟩ = some (.string s) ∧ s.size ≤ maxLen) := ht1
  clear hs1 ht1 hT
  unfold maxLen at hns hnt
  go_enter Tryd.func4, Tryd.ntmps4
  go_wp2_with fail
  refine (mNew_ok 2 w (by omega) (by omega)).mono ?_
  rintro e w1 ⟨m0, rfl, ⟨S, hm, hS⟩, hb⟩
  have H1 : Hid (Mh (fun _ => False) w.heap.size w w1 m0 [] (List.replicate 2 [])) := ⟨⟨S, hm, fun c hc => ⟨hS c hc, id⟩⟩, hb, hb.size, fun c hc => hc.elim⟩
  have HGM : Hid (GoodM [] (List.replicate 2 [])) := goodM_new 2
  clear hm hS hb
  obtain ⟨R, HR⟩ : ∃ R, Hid (mPut [] (List.replicate 2 []) 0 3 ⟨#[120]⟩ = R) := ⟨_, rfl⟩
  have HP1 : Hid (R.num = 1 ∧ R.err = 0) := by have := two_put; rw [HR.out] at this; exact this
  have HP2 : Hid (GoodM R.done R.cs) := by have := mPut_good HGM.out 0 3 ⟨#[120]⟩; rw [HR.out] at this; exact this
  have HP3 : Hid ((mGet R.done R.cs 1 3 1).2 = (⟨3, 1, 1, false, ⟨#[120]⟩⟩, false, 0)) := by have := two_get; rw [HR.out] at this; exact this
  obtain ⟨R1, R2, R3, R4⟩ := R
  dsimp only at HP1 HP2 HP3
  obtain ⟨rfl, rfl⟩ := HP1.out
  obtain ⟨S, h1', h2'⟩ := H1.out.call
  have HS : Hid _ := h1'
  have HC : Hid _ := h2'
  clear h1' h2' HP1
  go_wp2_with fail
  refine (mPut_c HS.out HGM.out 0 3 ⟨#[120]⟩ (by unfold maxLen; decide)).mono ?_
  rw [HR.out]
  rintro e w2 ⟨rfl, hto⟩
  dsimp only at hto ⊢
  have H2 : Hid (Mh (fun _ => False) w.heap.size w w2 m0 R1 R2) := (HC.out _ _ _ hto).1
  clear hto HS HC H1 HGM HR
  rw [eV_zeroN]
  obtain ⟨cs2, HG2⟩ : ∃ cs2, Hid (mGet R1 R2 1 3 1 = (cs2, ⟨3, 1, 1, false, ⟨#[120]⟩⟩, false, 0)) := ⟨_, Prod.ext rfl HP3.out⟩
  obtain ⟨S, h1', h2'⟩ := H2.out.call
  have HS : Hid _ := h1'
  have HC : Hid _ := h2'
  clear h1' h2'
  go_wp2_with fail
  refine (mGet_o HS.out HP2.out HG2.out).mono ?_
  rintro e w3 ⟨rfl, hto⟩
  have B3 : Hid (Below w.heap.size w w3) := (HC.out _ _ _ hto).1.bel
  clear hto HS HC H2 HP2 HP3 HG2
  rw [eV_zeroN]
  have B4 : Hid (Below w.heap.size w (w3.alloc (.cells #[.int .i64 3, .int .i64 1, .int .i64 1, .bool false, .string ⟨#[120]⟩] 26))) := B3.out.alloc B3.out.size _
  go_upto_region 8 with fail
  obtain ⟨w4, HW4⟩ : ∃ z, z = w3.alloc (.cells #[.int .i64 3, .int .i64 1, .int .i64 1, .bool false, .string ⟨#[120]⟩] 26) := ⟨_, rfl⟩
  rw [← HW4] at B4
  rw [← HW4]
  clear HW4 B3
  by_cases hn : n < 1 ∨ 6 < n
  · have HN : Hid (n < 1 ∨ 6 < n) := hn
    clear hn
    go_wp2_with (go_at_call 19; refine (mNew_bad n _ HN.out).mono ?_; rintro e w' ⟨rfl, hw⟩; rw [hw]; clear hw w')
    go_ret
    exact ⟨rfl, B4.out⟩
  obtain ⟨nn, rfl⟩ : ∃ k : Nat, n = k := ⟨n.toNat, by omega⟩
  have h1 : 1 ≤ nn := by omega
  have h6 : nn ≤ 6 := by omega
  have hd1 : decide ((nn : Int) < 1) = false := by simp; omega
  have hd2 : decide ((6 : Int) < (nn : Int)) = false := by simp; omega
  clear hn
  go_wp2_with fail
  refine (mNew_ok nn w4 h1 h6).mono ?_
  rintro e w5 ⟨m, rfl, ⟨S, hm, hS⟩, hb⟩
  have hz4 := B4.out.size
  have M5 : Hid (MtIs w.heap.size w w5 m nn [] (List.replicate nn [])) := ⟨⟨⟨S, hm, fun c hc => ⟨by have := hS c hc; omega, id⟩⟩, B4.out.trans (hb.mono B4.out.size), Nat.le_trans B4.out.size hb.size, fun c hc => hc.elim⟩, goodM_new nn, List.length_replicate ..⟩
  clear hm hS hb hz4 hd1 hd2 B4
  go_upto_block 0 with fail
  go_cut [16, 17, 18, 19] (fun _ _ _ _ wd => ∃ (l : List Deed) (cs : List (List En)), Hid (MtIs w.heap.size w wd m nn l cs))
  case first =>
    try clear_value *
    as_aux_lemma =>
      let _BP : Exit → Act → World → Prop := bodyPost Tryd.prog Tryd.f4 fun _ _ => True
      go_wp2_with fail
      go_loopw [16] (fun c16 wr => ∃ (i : Nat) (l : List Deed) (cs : List (List En)), i ≤ ns ∧ i ≤ 40 ∧ c16 = .int .i64 i ∧ Hid (MtIs w.heap.size w wr m nn l cs)) (fun c16 _ => ns - (intOf c16).toNat)
      case atStart => exact ⟨0, _, _, by omega, by omega, rfl, M5⟩
      case round =>
        obtain ⟨i, l, cs, hi1, hi2, rfl, HR⟩ := hrel
        clear M5
        by_cases hlt1 : i < ns ∧ i < 40
        · obtain ⟨hn1, hn2⟩ := hlt1
          have hd1 : decide ((i : Int) < (ns : Int)) = true := by simp; omega
          have hd2 : decide ((i : Int) < 40) = true := by simp; omega
          have hlti : (i : Int) < (ns : Int) := by omega
          obtain ⟨bS, oS, u, k, rfl, cu, HI⟩ := HS1.out i hn1
          have cu' := old_cell HR.out.h.bel cu
          have lS := World.block_lt_of_cell? wr _ cu'
          have HI' := HI.below HR.out.h.bel
          obtain ⟨aI, cI, rfl, hm, hz⟩ := HI'
          have HZ : Hid (∀ j, j < k → ∃ b o z, aI = some ⟨b, o, none⟩ ∧ wr.cell? ⟨b, o + j, none⟩ = some (.int .i64 z)) := hz
          unfold maxLen at hm
          clear HI cu hz
          go_upto_block 2 with fail
          go_cut [18] (fun _ wd => ∃ z0 z1 z2 z3 : Int, wd = wr.alloc (.cells #[.int .i64 z0, .int .i64 z1, .int .i64 z2, .int .i64 z3] 58))
          case first =>
            go_wp2_with fail
            go_loopg [18] 4 (fun gq j wi => ∃ q : Nat, gq + q = 4 ∧ j = .int .i64 q ∧ ∃ z0 z1 z2 z3 : Int, wi = wr.alloc (.cells #[.int .i64 z0, .int .i64 z1, .int .i64 z2, .int .i64 z3] 58))
            case atStart => exact ⟨0, by omega, rfl, 0, 0, 0, 0, rfl⟩
            case round =>
              obtain ⟨q, hq, rfl, z0, z1, z2, z3, rfl⟩ := hrel
              by_cases hqm : q < k ∧ q < 4
              · obtain ⟨hq1, hq2⟩ := hqm
                have hq3 : (q : Int) < (k : Int) := by omega
                have hq4 : decide ((q : Int) < (k : Int)) = true := by simp; omega
                obtain ⟨bI, oI, z, rfl, cz⟩ := HZ.out q hq1
                have lI := World.block_lt_of_cell? wr _ cz
                have h4 : q = 0 ∨ q = 1 ∨ q = 2 ∨ q = 3 := by omega
                rcases h4 with rfl | rfl | rfl | rfl
                · simp only [Nat.add_zero] at cz
                  go_wp2
                  go_roundg (3 : Nat)
                  case measure => omega
                  case rel => exact ⟨1, by omega, rfl, _, _, _, _, rfl⟩
                · go_wp2
                  go_roundg (2 : Nat)
                  case measure => omega
                  case rel => exact ⟨2, by omega, rfl, _, _, _, _, rfl⟩
                · go_wp2
                  go_roundg (1 : Nat)
                  case measure => omega
                  case rel => exact ⟨3, by omega, rfl, _, _, _, _, rfl⟩
                · go_wp2
                  go_roundg (0 : Nat)
                  case measure => omega
                  case rel => exact ⟨4, by omega, rfl, _, _, _, _, rfl⟩
              · by_cases h : q < k
                · have hq5 : decide ((q : Int) < (k : Int)) = true := by simp; omega
                  have hq6 : decide ((q : Int) < 4) = false := by simp; omega
                  go_wp2_with fail
                  go_meet
                  case rel => exact ⟨z0, z1, z2, z3, rfl⟩
                · have hq5 : decide ((q : Int) < (k : Int)) = false := by simp; omega
                  go_wp2_with fail
                  go_meet
                  case rel => exact ⟨z0, z1, z2, z3, rfl⟩
          case rest =>
          obtain ⟨z0, z1, z2, z3, hwc⟩ := hcut
          obtain ⟨wA, hren⟩ : ∃ x, x = wc := ⟨_, rfl⟩
          subst hren
          obtain ⟨A, HAe⟩ : ∃ A, Hid (A = wr.heap.size) := ⟨_, rfl⟩
          have HA : Hid (Mh (fun c => c = A) w.heap.size w wA m l cs) := by
            unfold Hid
            rw [hwc, HAe.out]
            exact HR.out.h.more (by go_grown) (fun c hc => .inr (by omega)) (fun c hc => by simp; omega)
          have ZA : Hid (Z4 wA A z0 z1 z2 z3) := by
            unfold Hid
            rw [hwc, HAe.out]
            exact ⟨by simp, by simp, by simp, by simp⟩
          have HGd : Hid (GoodM l cs) := HR.out.good
          have HLn : Hid (cs.length = nn) := HR.out.len
          clear hwc HZ cu' lS hm HR
          rw [← HAe.out]
          clear HAe
          go_upto_if 128 with fail
          go_cut [19] (fun tv wd => wd = wA ∧ ∃ tx : ByteArray, tv = .string tx ∧ Hid (tx.size ≤ maxLen))
          case first =>
            by_cases hn3 : i < nt
            · obtain ⟨bT, oT, s, rfl, ct, hts⟩ := HT1.out i hn3
              have ct' := old_cell HA.out.bel ct
              have hn4 : (i : Int) < (nt : Int) := by omega
              go_wp2_with fail
              go_meet
              case rel => exact ⟨rfl, s, rfl, hts⟩
            · have hn4 : ¬ (i : Int) < (nt : Int) := by omega
              go_wp2_with fail
              go_meet
              case rel => exact ⟨rfl, _, rfl, by unfold Hid maxLen; decide⟩
          case rest =>
          obtain ⟨hwd, tx, hslot, HTx⟩ := hcut
          rw [hwd]
          clear hwd wc
          subst hslot
          obtain ⟨a0, a1, a2, a3⟩ := ZA.out
          have lA := ZA.out.lt
          by_cases e0 : z0 = 0
          · have e0b : (z0 == 0) = true := by simp [e0]
            clear e0
            obtain ⟨R, HRp⟩ : ∃ R, Hid (mPut l cs z1 z2 tx = R) := ⟨_, rfl⟩
            obtain ⟨l', cs', kk, er⟩ := R
            have HG7 : Hid (GoodM l' cs' ∧ cs'.length = nn) := by
              have h1 := mPut_good HGd.out z1 z2 tx
              have h2 := mDone_len (putO l z2 tx) l cs z1 z2
              have h3 : mDone (putO l z2 tx) l cs z1 z2 = ⟨l', cs', kk, er⟩ := HRp.out
              rw [HRp.out] at h1
              rw [h3, HLn.out] at h2
              exact ⟨h1, h2⟩
            obtain ⟨S, h1', h2'⟩ := HA.out.call
            have HS : Hid _ := h1'
            have HC : Hid _ := h2'
            clear h1' h2'
            go_wp2_with fail
            refine (mPut_c HS.out HGd.out z1 z2 tx HTx.out).mono ?_
            rw [HRp.out]
            rintro e w7 ⟨rfl, hto⟩
            dsimp only at hto ⊢
            obtain ⟨h1', h2', _⟩ := HC.out _ _ _ hto
            have H7 : Hid (Mh (fun c => c = A) w.heap.size w w7 m l' cs') := h1'
            have Z7 : Hid (Z4 w7 A z0 z1 z2 z3) := ZA.out.of_block (h2' A rfl)
            clear hto h1' h2' HS HC a0 a1 a2 a3 lA
            by_cases her : er = 0
            · subst her
              rw [eV_zeroN]
              have HPG : Hid (mGet l' cs' z1 z2 kk = (cs', ⟨z2, kk, kk, false, tx⟩, true, 0)) := put_get HGd.out HRp.out
              obtain ⟨S, h1', h2'⟩ := H7.out.call
              have HS : Hid _ := h1'
              have HC : Hid _ := h2'
              clear h1' h2'
              obtain ⟨a0, a1, a2, a3⟩ := Z7.out
              have lA := Z7.out.lt
              go_wp2_with fail
              refine (mGet_o HS.out HG7.out.1 HPG.out).mono ?_
              rintro e w8 ⟨rfl, hto⟩
              obtain ⟨h1', _, _⟩ := HC.out _ _ _ hto
              have H8 : Hid (Mh (fun c => c = A) w.heap.size w w8 m l' cs') := h1'
              clear hto h1' HS HC a0 a1 a2 a3 lA
              rw [eV_zeroN]
              have HEnd : Hid (MtIs w.heap.size w (w8.alloc (.cells #[.int .i64 z2, .int .i64 kk, .int .i64 kk, .bool false, .string tx] 26)) m nn l' cs') := ⟨(H8.out.grown ((Below.refl _ _).alloc (Nat.le_refl _) _)).less (fun c hc => hc.elim), HG7.out.1, HG7.out.2⟩
              go_wp2_with fail
              go_roundw
              case rel => exact ⟨i + 1, _, _, by omega, by omega, by go_num, HEnd⟩
              case measure => simp [intOf]; omega
            · rw [eV_errN her]
              go_wp2_with fail
              go_roundw
              case rel => exact ⟨i + 1, _, _, by omega, by omega, by go_num, H7.out.less (fun c hc => hc.elim), HG7.out.1, HG7.out.2⟩
              case measure => simp [intOf]; omega
          have e0b : (z0 == 0) = false := by simp [e0]
          clear e0
          by_cases e1 : z0 = 1
          · have e1b : (z0 == 1) = true := by simp [e1]
            clear e1
            obtain ⟨R, HRp⟩ : ∃ R, Hid (mPut l cs z1 z2 tx = R) := ⟨_, rfl⟩
            obtain ⟨l', cs', kk, er⟩ := R
            have HG7 : Hid (GoodM l' cs' ∧ cs'.length = nn) := by
              have h1 := mPut_good HGd.out z1 z2 tx
              have h2 := mDone_len (putO l z2 tx) l cs z1 z2
              have h3 : mDone (putO l z2 tx) l cs z1 z2 = ⟨l', cs', kk, er⟩ := HRp.out
              rw [HRp.out] at h1
              rw [h3, HLn.out] at h2
              exact ⟨h1, h2⟩
            obtain ⟨S, h1', h2'⟩ := HA.out.call
            have HS : Hid _ := h1'
            have HC : Hid _ := h2'
            clear h1' h2'
            go_wp2_with fail
            refine (mPut_c HS.out HGd.out z1 z2 tx HTx.out).mono ?_
            rw [HRp.out]
            rintro e w7 ⟨rfl, hto⟩
            dsimp only at hto ⊢
            obtain ⟨h1', h2', _⟩ := HC.out _ _ _ hto
            have H7 : Hid (Mh (fun c => c = A) w.heap.size w w7 m l' cs') := h1'
            have Z7 : Hid (Z4 w7 A z0 z1 z2 z3) := ZA.out.of_block (h2' A rfl)
            clear hto h1' h2' HS HC a0 a1 a2 a3 lA
            by_cases her : er = 0
            · subst her
              rw [eV_zeroN]
              have HPG : Hid (mGet l' cs' z1 z2 kk = (cs', ⟨z2, kk, kk, false, tx⟩, true, 0)) := put_get HGd.out HRp.out
              obtain ⟨S, h1', h2'⟩ := H7.out.call
              have HS : Hid _ := h1'
              have HC : Hid _ := h2'
              clear h1' h2'
              obtain ⟨a0, a1, a2, a3⟩ := Z7.out
              have lA := Z7.out.lt
              go_wp2_with fail
              refine (mGet_o HS.out HG7.out.1 HPG.out).mono ?_
              rintro e w8 ⟨rfl, hto⟩
              obtain ⟨h1', _, _⟩ := HC.out _ _ _ hto
              have H8 : Hid (Mh (fun c => c = A) w.heap.size w w8 m l' cs') := h1'
              clear hto h1' HS HC a0 a1 a2 a3 lA
              rw [eV_zeroN]
              have HEnd : Hid (MtIs w.heap.size w (w8.alloc (.cells #[.int .i64 z2, .int .i64 kk, .int .i64 kk, .bool false, .string tx] 26)) m nn l' cs') := ⟨(H8.out.grown ((Below.refl _ _).alloc (Nat.le_refl _) _)).less (fun c hc => hc.elim), HG7.out.1, HG7.out.2⟩
              go_wp2_with fail
              go_roundw
              case rel => exact ⟨i + 1, _, _, by omega, by omega, by go_num, HEnd⟩
              case measure => simp [intOf]; omega
            · rw [eV_errN her]
              go_wp2_with fail
              go_roundw
              case rel => exact ⟨i + 1, _, _, by omega, by omega, by go_num, H7.out.less (fun c hc => hc.elim), HG7.out.1, HG7.out.2⟩
              case measure => simp [intOf]; omega
          have e1b : (z0 == 1) = false := by simp [e1]
          clear e1
          by_cases e2 : z0 = 2
          · have e2b : (z0 == 2) = true := by simp [e2]
            clear e2
            obtain ⟨R, HRp⟩ : ∃ R, Hid (mDel l cs z1 z2 = R) := ⟨_, rfl⟩
            obtain ⟨l', cs', kk, er⟩ := R
            have HG7 : Hid (GoodM l' cs' ∧ cs'.length = nn) := by
              have h1 := mDel_good HGd.out z1 z2
              have h2 := mDone_len (delO l z2) l cs z1 z2
              have h3 : mDone (delO l z2) l cs z1 z2 = ⟨l', cs', kk, er⟩ := HRp.out
              rw [HRp.out] at h1
              rw [h3, HLn.out] at h2
              exact ⟨h1, h2⟩
            obtain ⟨S, h1', h2'⟩ := HA.out.call
            have HS : Hid _ := h1'
            have HC : Hid _ := h2'
            clear h1' h2'
            obtain ⟨ev, HEv⟩ : ∃ ev, Hid (eV er = ev) := ⟨_, rfl⟩
            go_wp2_with fail
            refine (mDel_c HS.out HGd.out z1 z2).mono ?_
            rw [HRp.out]
            rintro e w7 ⟨rfl, hto⟩
            dsimp only at hto ⊢
            rw [HEv.out]
            obtain ⟨h1', _, _⟩ := HC.out _ _ _ hto
            have H7 : Hid (Mh (fun c => c = A) w.heap.size w w7 m l' cs') := h1'
            clear hto h1' HS HC a0 a1 a2 a3 lA
            go_wp2_with fail
            go_roundw
            case rel => exact ⟨i + 1, _, _, by omega, by omega, by go_num, H7.out.less (fun c hc => hc.elim), HG7.out.1, HG7.out.2⟩
            case measure => simp [intOf]; omega
          have e2b : (z0 == 2) = false := by simp [e2]
          clear e2
          by_cases e3 : z0 = 3
          · have e3b : (z0 == 3) = true := by simp [e3]
            clear e3
            obtain ⟨cs', ⟨x0, x1, x2, x3, x4⟩, had, er, HRg⟩ : ∃ cs' x had er, Hid (mGet l cs z1 z2 z3 = (cs', x, had, er)) := ⟨_, _, _, _, rfl⟩
            have HG7 : Hid (GoodM l cs' ∧ cs'.length = nn) := by
              have h1 := mGet_good HGd.out z1 z2 z3
              have h2 := mGet_len l cs z1 z2 z3
              rw [HRg.out] at h1 h2
              exact ⟨h1, h2.trans HLn.out⟩
            obtain ⟨S, h1', h2'⟩ := HA.out.call
            have HS : Hid _ := h1'
            have HC : Hid _ := h2'
            clear h1' h2'
            go_wp2_with fail
            refine (mGet_o HS.out HGd.out HRg.out).mono ?_
            rintro e w7 ⟨rfl, hto⟩
            obtain ⟨h1', h2', _⟩ := HC.out _ _ _ hto
            have H7 : Hid (Mh (fun c => c = A) w.heap.size w w7 m l cs') := h1'
            have Z7 : Hid (Z4 w7 A z0 z1 z2 z3) := ZA.out.of_block (h2' A rfl)
            clear hto h1' h2' HS HC a0 a1 a2 a3 lA
            have HEnd : Hid (MtIs w.heap.size w (w7.alloc (.cells #[.int .i64 x0, .int .i64 x1, .int .i64 x2, .bool x3, .string x4] 26)) m nn l cs') := ⟨(H7.out.grown ((Below.refl _ _).alloc (Nat.le_refl _) _)).less (fun c hc => hc.elim), HG7.out.1, HG7.out.2⟩
            obtain ⟨a0, a1, a2, a3⟩ := Z7.out
            have lA := Z7.out.lt
            have nA : ¬ A = w7.heap.size := by omega
            by_cases her : er = 0
            · subst her
              rw [eV_zeroN]
              have HTo := get_told HGd.out HRg.out
              have hq1 : decide (x2 < z3) = false := by have := HTo.1; simp; exact this
              have hq2 : (x0 != z2) = false := by have := HTo.2.1; simp; exact this
              clear HTo
              go_wp2_with fail
              go_roundw
              case rel => exact ⟨i + 1, _, _, by omega, by omega, by go_num, HEnd⟩
              case measure => simp [intOf]; omega
            · rw [eV_errN her]
              go_wp2_with fail
              go_roundw
              case rel => exact ⟨i + 1, _, _, by omega, by omega, by go_num, HEnd⟩
              case measure => simp [intOf]; omega
          have e3b : (z0 == 3) = false := by simp [e3]
          clear e3
          by_cases e4 : z0 = 4
          · have e4b : (z0 == 4) = true := by simp [e4]
            clear e4
            obtain ⟨cs', ⟨x0, x1, x2, x3, x4⟩, had, er, HRg⟩ : ∃ cs' x had er, Hid (mGet l cs z1 z2 z3 = (cs', x, had, er)) := ⟨_, _, _, _, rfl⟩
            have HG7 : Hid (GoodM l cs' ∧ cs'.length = nn) := by
              have h1 := mGet_good HGd.out z1 z2 z3
              have h2 := mGet_len l cs z1 z2 z3
              rw [HRg.out] at h1 h2
              exact ⟨h1, h2.trans HLn.out⟩
            obtain ⟨S, h1', h2'⟩ := HA.out.call
            have HS : Hid _ := h1'
            have HC : Hid _ := h2'
            clear h1' h2'
            go_wp2_with fail
            refine (mGet_o HS.out HGd.out HRg.out).mono ?_
            rintro e w7 ⟨rfl, hto⟩
            obtain ⟨h1', h2', _⟩ := HC.out _ _ _ hto
            have H7 : Hid (Mh (fun c => c = A) w.heap.size w w7 m l cs') := h1'
            have Z7 : Hid (Z4 w7 A z0 z1 z2 z3) := ZA.out.of_block (h2' A rfl)
            clear hto h1' h2' HS HC a0 a1 a2 a3 lA
            have HEnd : Hid (MtIs w.heap.size w (w7.alloc (.cells #[.int .i64 x0, .int .i64 x1, .int .i64 x2, .bool x3, .string x4] 26)) m nn l cs') := ⟨(H7.out.grown ((Below.refl _ _).alloc (Nat.le_refl _) _)).less (fun c hc => hc.elim), HG7.out.1, HG7.out.2⟩
            obtain ⟨a0, a1, a2, a3⟩ := Z7.out
            have lA := Z7.out.lt
            have nA : ¬ A = w7.heap.size := by omega
            by_cases her : er = 0
            · subst her
              rw [eV_zeroN]
              have HTo := get_told HGd.out HRg.out
              have hq1 : decide (x2 < z3) = false := by have := HTo.1; simp; exact this
              have hq2 : (x0 != z2) = false := by have := HTo.2.1; simp; exact this
              clear HTo
              go_wp2_with fail
              go_roundw
              case rel => exact ⟨i + 1, _, _, by omega, by omega, by go_num, HEnd⟩
              case measure => simp [intOf]; omega
            · rw [eV_errN her]
              go_wp2_with fail
              go_roundw
              case rel => exact ⟨i + 1, _, _, by omega, by omega, by go_num, HEnd⟩
              case measure => simp [intOf]; omega
          have e4b : (z0 == 4) = false := by simp [e4]
          clear e4
          obtain ⟨cs', er, HRs⟩ : ∃ cs' er, Hid (mSwap cs z1 z2 = (cs', er)) := ⟨_, _, rfl⟩
          have HG7 : Hid (GoodM l cs' ∧ cs'.length = nn) := by
            have h1 := mSwap_good HGd.out z1 z2
            have h2 := mSwap_len cs z1 z2
            rw [HRs.out] at h1 h2
            exact ⟨h1, h2.trans HLn.out⟩
          obtain ⟨S, h1', h2'⟩ := HA.out.call
          have HS : Hid _ := h1'
          have HC : Hid _ := h2'
          clear h1' h2'
          have HTw : Hid _ := HTb.out _ HA.out.bel
          obtain ⟨ev, HEv⟩ : ∃ ev, Hid (eV er = ev) := ⟨_, rfl⟩
          go_wp2_with fail
          refine (mSwap_o HS.out HGd.out HRs.out HTw.out).mono ?_
          rintro e w7 ⟨rfl, hto⟩
          rw [HEv.out]
          obtain ⟨h1', _, _⟩ := HC.out _ _ _ hto
          have H7 : Hid (Mh (fun c => c = A) w.heap.size w w7 m l cs') := h1'
          clear hto h1' HS HC a0 a1 a2 a3 lA
          go_wp2_with fail
          go_roundw
          case rel => exact ⟨i + 1, _, _, by omega, by omega, by go_num, H7.out.less (fun c hc => hc.elim), HG7.out.1, HG7.out.2⟩
          case measure => simp [intOf]; omega
        · by_cases hn1 : i < ns
          · have hd1 : decide ((i : Int) < (ns : Int)) = true := by simp; omega
            have hd2 : decide ((i : Int) < 40) = false := by simp; omega
            go_wp2_with fail
            go_meet
            case rel => exact ⟨l, cs, HR⟩
          · have hd1 : decide ((i : Int) < (ns : Int)) = false := by simp; omega
            go_wp2_with fail
            go_meet
            case rel => exact ⟨l, cs, HR⟩
  case rest =>
  as_aux_lemma =>
  obtain ⟨l, cs, HM⟩ := hcut
  obtain ⟨w6, hren⟩ : ∃ x, x = wc := ⟨_, rfl⟩
  subst hren
  clear M5
  have HLen : Hid (l.length ≤ 1000) := HM.out.good.len
  go_wp2_with fail
  go_loopw [28] (fun c28 wr => ∃ c : Nat, c ≤ nn ∧ c28 = .int .i64 c ∧ Hid (MtIs w.heap.size w wr m nn l cs)) (fun c28 _ => nn - (intOf c28).toNat)
  case atStart => exact ⟨0, Nat.zero_le _, rfl, HM⟩
  case round =>
    obtain ⟨c, hc, rfl, HR⟩ := hrel
    clear HM
    by_cases hlt : c < nn
    · have hlti : (c : Int) < (nn : Int) := by omega
      have hcl : c < cs.length := by rw [HR.out.len]; exact hlt
      have HO : Hid (mCacheO cs (c : Int) = (cs[c], 0)) := by
        show mCacheO cs (c : Int) = _
        rw [mCacheO, if_pos (nodeB_iff.2 ⟨by omega, by omega⟩), cacheN_at hcl]
      have HGC : Hid (GoodC l cs[c]) := HR.out.good.all _ (List.getElem_mem hcl)
      obtain ⟨x, HX⟩ : ∃ x, Hid (cs[c] = x) := ⟨cs[c], show cs[c] = cs[c] from rfl⟩
      rw [HX.out] at HO HGC
      clear HX
      obtain ⟨S, h1', _⟩ := HR.out.h.call
      have HS : Hid _ := h1'
      clear h1'
      go_wp2_with fail
      refine (mCache_o HS.out HR.out.good HO.out).mono ?_
      rintro e w7 ⟨v, rfl, hr, hf, hb⟩
      rw [eV_zeroN]
      have H7 : Hid (MtIs w.heap.size w w7 m nn l cs) := ⟨HR.out.h.grown hb, HR.out.good, HR.out.len⟩
      have R7 : Hid (RowIs w7 v x) := hr
      clear hf hb HS HR hr
      obtain ⟨hxl, pv, cv, rfl, _⟩ := R7.out
      go_wp2_with fail
      refine (cacheCheck_ok R7.out HGC.out.good.bad).mono ?_
      rintro e w8 ⟨rfl, hb⟩
      have H8 : Hid (MtIs w.heap.size w w8 m nn l cs) := ⟨H7.out.h.grown hb, H7.out.good, H7.out.len⟩
      have R8 : Hid (RowIs w8 (.slice pv x.length cv) x) := R7.out.below hb
      clear hb H7 R7
      obtain ⟨nx, HNx⟩ : ∃ nx, Hid (x.length = nx) := ⟨_, rfl⟩
      rw [HNx.out] at hxl R8 ⊢
      have hx63 : nx ≤ 9223372036854775807 := hxl
      go_wp2_with fail
      go_loopw [31] (fun c31 wq => ∃ j : Nat, j ≤ nx ∧ c31 = .int .i64 j ∧ Hid (MtIs w.heap.size w wq m nn l cs) ∧ Hid (RowIs wq (.slice pv nx cv) x)) (fun c31 _ => nx - (intOf c31).toNat)
      case atStart => exact ⟨0, Nat.zero_le _, rfl, H8, R8⟩
      case round =>
        obtain ⟨j, hj, rfl, HQ, HRq⟩ := hrel
        clear H8 R8
        by_cases hlj : j < nx
        · have hlji : (j : Int) < (nx : Int) := by omega
          have hjl : j < x.length := by rw [HNx.out]; exact hlj
          obtain ⟨_, p', c', he, hrow⟩ := HRq.out
          obtain ⟨rfl, hnx, rfl⟩ : pv = p' ∧ nx = x.length ∧ cv = c' := by simpa using he
          clear hnx he
          obtain ⟨bx, ox, rfl, hbx, hat⟩ := hrow (fun h => by simp [h] at hjl)
          have HAt : Hid (EnAt wr bx (ox + j * 5) x[j]) := hat j hjl
          have HW : Hid (Was l x[j]) := HGC.out.was _ (List.getElem_mem hjl)
          obtain ⟨y, HY⟩ : ∃ y, Hid (x[j] = y) := ⟨x[j], show x[j] = x[j] from rfl⟩
          rw [HY.out] at HAt HW
          clear HY hrow hat
          obtain ⟨x0, x1, x2, x3, x4⟩ := y
          have hsp := HW.out.span
          dsimp only at hsp
          have HBad : Hid (bad x0 x1 x2 x3 x4 = 0) := HW.out.bad HQ.out.good.good HQ.out.good.len
          have hl1 := HLen.out
          have hseq : decide ((l.length : Int) < x2) = false := by simp; omega
          have HSp : Hid (0 ≤ x1 ∧ x1 ≤ x2 ∧ x2 ≤ 1000) := by show _ ∧ _; omega
          obtain ⟨c0, c1, c2, c3, c4⟩ := HAt.out
          dsimp only at c0 c1 c2 c3 c4
          clear hsp
          go_upto_region 48 with fail
          have HQ9 : Hid (MtIs w.heap.size w (wr.alloc (.cells #[.int .i64 x0, .int .i64 x1, .int .i64 x2, .bool x3, .string x4] 26)) m nn l cs) := ⟨HQ.out.h.grown ((Below.refl _ _).alloc (Nat.le_refl _) _), HQ.out.good, HQ.out.len⟩
          have R9 : Hid (RowIs (wr.alloc (.cells #[.int .i64 x0, .int .i64 x1, .int .i64 x2, .bool x3, .string x4] 26)) (.slice (some ⟨bx, ox, none⟩) nx cv) x) := HRq.out.below ((Below.refl _ _).alloc (Nat.le_refl _) _)
          have X9 : Hid (BoxAt (wr.alloc (.cells #[.int .i64 x0, .int .i64 x1, .int .i64 x2, .bool x3, .string x4] 26)) wr.heap.size x0 x1 x2 x3 x4) := box_new wr _ _ _ _ _ _ rfl
          obtain ⟨w9, HW9⟩ : ∃ z, z = wr.alloc (.cells #[.int .i64 x0, .int .i64 x1, .int .i64 x2, .bool x3, .string x4] 26) := ⟨_, rfl⟩
          obtain ⟨X, HXx⟩ : ∃ z, z = wr.heap.size := ⟨_, rfl⟩
          rw [← HW9] at HQ9 R9 X9 ⊢
          rw [← HXx] at X9 ⊢
          clear HW9 HXx c0 c1 c2 c3 c4 HAt HQ HRq hbx
          obtain ⟨S, h1', _⟩ := HQ9.out.h.call
          have HS : Hid _ := h1'
          clear h1'
          obtain ⟨d0, d1, d2, d3, d4, df⟩ := X9.out
          go_cut [261] (fun c wd => c = .bool false ∧ Hid (Below w9.heap.size w9 wd))
          case first =>
            go_region_with (first
              | (go_at_call 26; refine Calls.mono (mSeq_c (S := S) (l := l) (cs := cs) ?_) ?_; exact MeshAt.blocks HS.out (Nat.le_refl _) (fun _ _ => rfl); rintro e w' ⟨rfl, rfl⟩)
              | (go_at_call 27; refine (check_ok HBad.out _).mono ?_; rintro e w10 ⟨rfl, hb10⟩; have HB10 : Hid (Below w9.heap.size w9 w10) := ⟨hb10.os, hb10.tape, hb10.output, hb10.size, hb10.block⟩; clear hb10))
            all_goals go_wp2_with fail
            all_goals go_meet
            all_goals exact ⟨rfl, HB10⟩
          case rest =>
          obtain ⟨rfl, HB10⟩ := hcut
          obtain ⟨w10, hren⟩ : ∃ x, x = wc := ⟨_, rfl⟩
          subst hren
          obtain ⟨v1, rfl⟩ : ∃ k : Nat, x1 = k := ⟨x1.toNat, by have := HSp.out; omega⟩
          obtain ⟨a1, rfl⟩ : ∃ k : Nat, x2 = k := ⟨x2.toNat, by have := HSp.out; omega⟩
          have ha1 : a1 ≤ 1000 := by have := HSp.out; omega
          have hva : v1 ≤ a1 := by have := HSp.out; omega
          have HQ10 : Hid (MtIs w.heap.size w w10 m nn l cs) := ⟨HQ9.out.h.grown HB10.out, HQ9.out.good, HQ9.out.len⟩
          have R10 : Hid (RowIs w10 (.slice (some ⟨bx, ox, none⟩) nx cv) x) := R9.out.below HB10.out
          have X10 : Hid (BoxAt w10 X x0 v1 a1 x3 x4) := X9.out.below HB10.out X9.out.lt
          clear d0 d1 d2 d3 d4 df HQ9 R9 X9 HS HB10 hseq
          obtain ⟨d0, d1, d2, d3, d4, df⟩ := X10.out
          go_wp2_with fail
          clear d0 d1 d2 d3 d4 df
          go_loopw [33] (fun c33 wq => ∃ q : Nat, v1 ≤ q ∧ q ≤ a1 + 1 ∧ c33 = .int .i64 q ∧ Hid (MtIs w.heap.size w wq m nn l cs) ∧ Hid (RowIs wq (.slice (some ⟨bx, ox, none⟩) nx cv) x) ∧ Hid (BoxAt wq X x0 v1 a1 x3 x4)) (fun c33 _ => a1 + 1 - (intOf c33).toNat)
          case atStart => exact ⟨v1, Nat.le_refl _, by omega, rfl, HQ10, R10, X10⟩
          case round =>
            obtain ⟨q, hq1, hq2, rfl, HQ, HRq, HXq⟩ := hrel
            clear HQ10 R10 X10
            have hlx := HXq.out.lt
            obtain ⟨d0, d1, d2, d3, d4, df⟩ := HXq.out
            by_cases hqa : q ≤ a1
            · have hqd : decide ((q : Int) ≤ (a1 : Int)) = true := by simp; omega
              by_cases hq50 : q < v1 + 50
              · have hqd2 : decide ((q : Int) < (v1 : Int) + 50) = true := by simp; omega
                have hbt := was_between HW.out (q := q) (by show (v1 : Int) ≤ q; omega) (by show (q : Int) ≤ (a1 : Int); omega)
                have HAO : Hid ((atO l x0 (q : Int)).1 = ⟨x0, v1, q, x3, x4⟩ ∧ (atO l x0 (q : Int)).2 = 0) := by
                  obtain ⟨hb1, hb2⟩ := hbt
                  injection hb2 with _ g1 _ g3 g4
                  have hk : stK x0 = true := HW.out.1
                  have e0 : atO l x0 (q : Int) = (entAt l x0 q, 0) := by
                    simp only [atO, hk, true_and, Int.toNat_natCast]
                    rw [if_pos (by constructor <;> omega)]
                  rw [e0]
                  refine ⟨?_, rfl⟩
                  show entAt l x0 q = _
                  rw [entAt]
                  dsimp only at g1 g3 g4
                  rw [g1, g3, g4]
                clear hbt
                obtain ⟨S, h1', _⟩ := HQ.out.h.call
                have HS : Hid _ := h1'
                clear h1'
                go_wp2_with fail
                refine (mAt_o HS.out HAO.out.1 HAO.out.2).mono ?_
                rintro e w12 ⟨rfl, hb⟩
                rw [eV_zeroN]
                have hb13 : Below wr.heap.size wr (w12.alloc (.cells #[.int .i64 x0, .int .i64 v1, .int .i64 q, .bool x3, .string x4] 26)) := hb.alloc hb.size _
                have HQ13 : Hid (MtIs w.heap.size w (w12.alloc (.cells #[.int .i64 x0, .int .i64 v1, .int .i64 q, .bool x3, .string x4] 26)) m nn l cs) := ⟨HQ.out.h.grown hb13, HQ.out.good, HQ.out.len⟩
                have R13 : Hid (RowIs (w12.alloc (.cells #[.int .i64 x0, .int .i64 v1, .int .i64 q, .bool x3, .string x4] 26)) (.slice (some ⟨bx, ox, none⟩) nx cv) x) := HRq.out.below hb13
                have X13 : Hid (BoxAt (w12.alloc (.cells #[.int .i64 x0, .int .i64 v1, .int .i64 q, .bool x3, .string x4] 26)) X x0 v1 a1 x3 x4) := HXq.out.below hb13 HXq.out.lt
                have Y13 : Hid (BoxAt (w12.alloc (.cells #[.int .i64 x0, .int .i64 v1, .int .i64 q, .bool x3, .string x4] 26)) w12.heap.size x0 v1 q x3 x4) := box_new w12 _ _ _ _ _ _ rfl
                clear hb hb13 HS HAO d0 d1 d2 d3 d4 df
                go_upto_region 54 with fail
                obtain ⟨w13, HW13⟩ : ∃ z, z = w12.alloc (.cells #[.int .i64 x0, .int .i64 v1, .int .i64 q, .bool x3, .string x4] 26) := ⟨_, rfl⟩
                obtain ⟨Y, HYy⟩ : ∃ z, z = w12.heap.size := ⟨_, rfl⟩
                rw [← HW13] at HQ13 R13 X13 Y13 ⊢
                rw [← HYy] at Y13 ⊢
                clear HW13 HYy HQ HRq HXq hlx
                obtain ⟨d0, d1, d2, d3, d4, df⟩ := X13.out
                obtain ⟨f0, f1, f2, f3, f4, ff⟩ := Y13.out
                go_wp2_with fail
                clear d0 d1 d2 d3 d4 df f0 f1 f2 f3 f4 ff
                go_roundw
                case rel => exact ⟨q + 1, by omega, by omega, by go_num, HQ13, R13, X13⟩
                case measure => simp [intOf]; omega
              · have hqd2 : decide ((q : Int) < (v1 : Int) + 50) = false := by simp; omega
                go_wp2_with fail
                go_roundw
                case rel => exact ⟨j + 1, by omega, by go_num, HQ, HRq⟩
                case measure => simp [intOf]; omega
            · have hqd : decide ((q : Int) ≤ (a1 : Int)) = false := by simp; omega
              go_wp2_with fail
              go_roundw
              case rel => exact ⟨j + 1, by omega, by go_num, HQ, HRq⟩
              case measure => simp [intOf]; omega
        · obtain rfl : j = nx := by omega
          go_wp2_with fail
          go_roundw
          case rel => exact ⟨c + 1, by omega, by go_num, HQ⟩
          case measure => simp [intOf]; omega
    · obtain rfl : c = nn := by omega
      go_wp2_with fail
      go_ret
      exact ⟨rfl, HR.out.h.bel⟩
end Go.Proofs.YtliaidgedjjobaaDoor
