/-
  The walk of merelaw2.SwapAlike.
-/
import Derived.Test.YtippdgmgmenboagDoorSwA
import Derived.Deep.CutBlock
namespace Go.Proofs.YtippdgmgmenboagDoor
set_option linter.unusedVariables false
set_option linter.unusedSimpArgs false
open Go.RowKit

theorem neq_sameS (x0 x1 x2 : Int) (x3 : Bool) (x4 : ByteArray) (w : World) : (binOp .neq 46 (.agg #[.int .i64 x0, .int .i64 x1, .int .i64 x2, .bool x3, .string x4]) (.agg #[.int .i64 x0, .int .i64 x1, .int .i64 x2, .bool x3, .string x4])).run Tryd.prog w = .ok (.bool false) w :=
  neq_cellsS x0 x1 x2 x3 x4 x0 x1 x2 x3 x4 true (En.same_self _) w
set_option maxHeartbeats 16000000 in
set_option maxRecDepth 100000 in
theorem swapAlike_w (va vb : Value) (a b : List En) (w : World) (hra : RowIs w va a) (hrb : RowIs w vb b) (hT : Lib.TabIs Tryd.prog w powName .u64 Lib.pow10Tab) :
    Calls Tryd.prog 4 #[va, vb] w fun e w' => e = .returned (.bool true) ∧ Below w.heap.size w w' := by
  have HT : Hid (Lib.TabBelow Tryd.prog w.heap.size w powName .u64 Lib.pow10Tab) := Lib.tabBelow_of_tabIs hT
  have HRa : Hid (RowIs w va a) := hra
  have HRb : Hid (RowIs w vb b) := hrb
  clear hT hra hrb
  go_enter Tryd.func4, Tryd.ntmps4
  go_upto_region 2 with fail
  obtain ⟨w1, HW1⟩ : ∃ x, x = w.alloc (.cells #[.int .i64 6, .int .i64 1, .int .i64 1, .bool false, .string ⟨#[120]⟩] 46) := ⟨_, rfl⟩
  rw [← HW1]
  have X1 : Hid (BoxAt w1 w.heap.size 6 1 1 false ⟨#[120]⟩) := by
    rw [HW1]
    exact box_new w 6 1 1 false ⟨#[120]⟩ _ rfl
  have B1 : Hid (Below w.heap.size w w1) := by
    rw [HW1]
    exact (Below.refl _ w).alloc (Nat.le_refl _) _
  clear HW1
  go_wp2_with fail
  refine (pairS_one X1.out (HT.out _ B1.out)).mono ?_
  rintro e w2 ⟨p1, cp1, b', o', cp2, rfl, c4, hb⟩
  have B2 : Hid (Below w.heap.size w w2) := B1.out.trans (hb.mono B1.out.size)
  have hb' := World.block_lt_of_cell? w2 _ c4
  clear hb B1 X1
  go_upto_region 5 with fail
  clear c4 hb'
  obtain ⟨⟨x, y, n⟩, HP⟩ : ∃ R, Hid (pairW a b = R) := ⟨_, rfl⟩
  by_cases hn : n = 0
  · subst hn
    have HS : Hid (Swapped a b x y) := swapped_of HP.out
    obtain ⟨K, HK⟩ : ∃ K, Hid (lackK a b = K) := ⟨_, rfl⟩
    obtain ⟨m, HM⟩ : ∃ m, Hid (K.length = m) := ⟨_, rfl⟩
    have hm8 : m ≤ 8 := by
      rw [← HM.out, ← HK.out]
      exact partK_len _ _ _
    have hm63 : m ≤ 9223372036854775807 := by omega
    obtain ⟨⟨z, n3⟩, HZ⟩ : ∃ R, Hid (cacheBoth a b = R) := ⟨_, rfl⟩
    have HL : Hid (∀ w', Below w.heap.size w w' → Calls Tryd.prog 8 #[va, vb] w' fun e w'' => ∃ v', e = .returned (.tuple #[v', .nilIface]) ∧ OwnI w'.heap.size w'' v' K ∧ Below w'.heap.size w' w'') := fun w' hb => by
      have c := lacks_ok va vb a b w' (HRa.out.below hb) (HRb.out.below hb) HS.out.ga HS.out.gb (HT.out w' hb)
      rw [HK.out] at c
      exact c
    obtain ⟨EZ, HEZ⟩ : ∃ E, Hid (eV n3 = E) := ⟨_, rfl⟩
    have HZc : Hid (∀ w', Below w.heap.size w w' → Calls Tryd.prog 20 #[va, vb] w' fun e w'' => ∃ v', e = .returned (.tuple #[v', EZ]) ∧ RowIs w'' v' z ∧ Below w'.heap.size w' w'') := fun w' hb => by
      have c := both_o HZ.out va vb w' (HRa.out.below hb) (HRb.out.below hb)
      rw [HEZ.out] at c
      refine c.mono ?_
      rintro e w'' ⟨v', he, ho, hb'⟩
      exact ⟨v', he, RowIs.own ho, hb'⟩
    have HEd : Hid ((EZ = .nilIface ∧ n3 = 0) ∨ (EZ = .iface 55 (.int .i64 n3))) := by
      by_cases h3 : n3 = 0
      · subst h3
        exact .inl ⟨HEZ.out.symm.trans eV_zero, rfl⟩
      · exact .inr (HEZ.out.symm.trans (eV_err h3))
    clear HEZ
    go_wp2_with fail
    refine (pair_ok HP.out va vb _ (HRa.out.below B2.out) (HRb.out.below B2.out) (HT.out _ B2.out)).mono ?_
    rintro e w3 ⟨vx, vy, rfl, hx, hy, hb⟩
    have B3 : Hid (Below w.heap.size w w3) := B2.out.trans (hb.mono B2.out.size)
    have X3 : Hid (RowIs w3 vx x) := hx
    have Y3 : Hid (RowIs w3 vy y) := hy
    clear hb hx hy B2 HP
    go_wp2_with fail
    refine (diffS_ok vx vy x y _ X3.out Y3.out HS.out.gx HS.out.gy HS.out.part (HT.out _ B3.out)).mono ?_
    rintro e w4 ⟨pk, ck, rfl, hb⟩
    have B4 : Hid (Below w.heap.size w w4) := B3.out.trans (hb.mono B3.out.size)
    have X4 : Hid (RowIs w4 vx x) := X3.out.below hb
    have Y4 : Hid (RowIs w4 vy y) := Y3.out.below hb
    clear hb B3 X3 Y3
    go_wp2_with fail
    refine (HL.out _ B4.out).mono ?_
    rintro e w5 ⟨vl, rfl, ho, hb⟩
    have B5 : Hid (Below w.heap.size w w5) := B4.out.trans (hb.mono B4.out.size)
    have X5 : Hid (RowIs w5 vx x) := X4.out.below hb
    have Y5 : Hid (RowIs w5 vy y) := Y4.out.below hb
    have K5 : Hid (OwnI w.heap.size w5 vl K) := ho.base B4.out.size
    clear hb ho B4 X4 Y4 HL
    obtain ⟨pl, cl, hvl⟩ := K5.out.row
    rw [HM.out] at hvl
    subst hvl
    go_wp2_with fail
    refine (HZc.out _ B5.out).mono ?_
    rintro e w6 ⟨vz, rfl, hz, hb⟩
    have B6 : Hid (Below w.heap.size w w6) := B5.out.trans (hb.mono B5.out.size)
    have R6 : Hid (Rows3 w6 vx vy vz x y z) := ⟨X5.out.below hb, Y5.out.below hb, hz⟩
    have K6 : Hid (OwnI w.heap.size w6 (.slice pl m cl) K) := K5.out.below hb
    clear hb hz B5 X5 Y5 K5 HZc
    have HU : Hid (∀ (j : Nat) (hj : j < K.length), ∃ q : Nat, K[j] = (q : Int) ∧ q < 8 ∧ (q : Int) ∈ lackK a b) := fun j hj => by
      have hm : K[j] ∈ lackK a b := by rw [HK.out]; exact List.getElem_mem _
      obtain ⟨q, e, h8, _⟩ := lackK_mem hm
      rw [e] at hm
      exact ⟨q, e, h8, hm⟩
    clear HK
    go_upto_region 13 with fail
    go_wp2_with fail
    go_loopw [19] (fun i wr => ∃ j : Nat, j ≤ m ∧ i = .int .i64 j ∧ Hid (OwnI w.heap.size wr (.slice pl m cl) K) ∧ Hid (Rows3 wr vx vy vz x y z) ∧ Hid (Below w.heap.size w wr)) (fun i _ => m - (intOf i).toNat)
    case atStart => exact ⟨0, Nat.zero_le _, rfl, K6, R6, B6⟩
    case round =>
      clear K6 R6 B6
      obtain ⟨j, hj, rfl, KR, RR, BR⟩ := hrel
      by_cases hlt : j < m
      · have hjl : j < K.length := by rw [HM.out]; exact hlt
        obtain ⟨q, hq, hq8, hqm⟩ := HU.out j hjl
        have HQ : Hid (K[j] = (q : Int)) := hq
        obtain ⟨u, hu1, hu2, hu3⟩ := HS.out.on q hqm
        obtain ⟨u0, u1, u2, u3, u4⟩ := u
        have HU1 : Hid (getE x (q : Int) = some ⟨u0, u1, u2, u3, u4⟩) := hu1
        have HU2 : Hid (getE y (q : Int) = some ⟨u0, u1, u2, u3, u4⟩) := hu2
        have HU3 : Hid (∀ z, cacheBoth a b = (z, 0) → badL z = 0 ∧ getE z (q : Int) = some ⟨u0, u1, u2, u3, u4⟩) := hu3
        clear hq hqm hu1 hu2 hu3
        obtain ⟨bk, rfl, hbk, ck0⟩ := KR.out.at j hjl
        rw [HQ.out] at ck0
        have hlti : (j : Int) < (m : Int) := by omega
        have hj0 : (0 : Int) ≤ (j : Int) := by omega
        go_wp2_with fail
        refine (getS_some HS.out.gx hq8 HU1.out vx _ RR.out.x).mono ?_
        rintro e w7 ⟨rfl, hb⟩
        have B7 : Hid (Below w.heap.size w w7) := BR.out.trans (hb.mono BR.out.size)
        have K7 : Hid (OwnI w.heap.size w7 (.slice (some ⟨bk, 0, none⟩) m cl) K) := KR.out.below hb
        have R7 : Hid (Rows3 w7 vx vy vz x y z) := RR.out.below hb
        clear hb ck0 hbk KR RR BR
        go_upto_region 17 with fail
        obtain ⟨w8, HW8⟩ : ∃ x, x = w7.alloc (.cells #[.int .i64 u0, .int .i64 u1, .int .i64 u2, .bool u3, .string u4] 46) := ⟨_, rfl⟩
        rw [← HW8]
        obtain ⟨bx, HBx⟩ : ∃ b, Hid (w7.heap.size = b) := ⟨_, rfl⟩
        have B8 : Hid (Below w.heap.size w w8) := by
          rw [HW8]
          exact B7.out.alloc B7.out.size _
        have K8 : Hid (OwnI w.heap.size w8 (.slice (some ⟨bk, 0, none⟩) m cl) K) := by
          rw [HW8]
          exact K7.out.below ((Below.refl _ _).alloc (Nat.le_refl _) _)
        have R8 : Hid (Rows3 w8 vx vy vz x y z) := by
          rw [HW8]
          exact R7.out.below ((Below.refl _ _).alloc (Nat.le_refl _) _)
        have U8 : Hid (BoxAt w8 bx u0 u1 u2 u3 u4) := by
          rw [HW8]
          exact box_new w7 u0 u1 u2 u3 u4 _ HBx.out.symm
        rw [HBx.out]
        clear HW8 HBx B7 K7 R7
        obtain ⟨bk', hbk', hbk, ck0⟩ := K8.out.at j hjl
        obtain rfl : bk = bk' := by simpa using hbk'
        rw [HQ.out] at ck0
        clear hbk'
        go_wp2_with fail
        refine (getS_some HS.out.gy hq8 HU2.out vy _ R8.out.y).mono ?_
        rintro e w9 ⟨rfl, hb⟩
        have B9 : Hid (Below w.heap.size w w9) := B8.out.trans (hb.mono B8.out.size)
        have K9 : Hid (OwnI w.heap.size w9 (.slice (some ⟨bk, 0, none⟩) m cl) K) := K8.out.below hb
        have R9 : Hid (Rows3 w9 vx vy vz x y z) := R8.out.below hb
        have U9 : Hid (BoxAt w9 bx u0 u1 u2 u3 u4) := U8.out.below hb U8.out.lt
        clear hb ck0 hbk K8 R8 B8 U8
        go_upto_region 18 with fail
        obtain ⟨wa, HWa⟩ : ∃ x, x = w9.alloc (.cells #[.int .i64 u0, .int .i64 u1, .int .i64 u2, .bool u3, .string u4] 46) := ⟨_, rfl⟩
        rw [← HWa]
        obtain ⟨by', HBy⟩ : ∃ b, Hid (w9.heap.size = b) := ⟨_, rfl⟩
        have BA : Hid (Below w.heap.size w wa) := by
          rw [HWa]
          exact B9.out.alloc B9.out.size _
        have KA : Hid (OwnI w.heap.size wa (.slice (some ⟨bk, 0, none⟩) m cl) K) := by
          rw [HWa]
          exact K9.out.below ((Below.refl _ _).alloc (Nat.le_refl _) _)
        have RA : Hid (Rows3 wa vx vy vz x y z) := by
          rw [HWa]
          exact R9.out.below ((Below.refl _ _).alloc (Nat.le_refl _) _)
        have UA : Hid (BoxAt wa bx u0 u1 u2 u3 u4) := by
          rw [HWa]
          exact U9.out.alloc _
        have VA : Hid (BoxAt wa by' u0 u1 u2 u3 u4) := by
          rw [HWa]
          exact box_new w9 u0 u1 u2 u3 u4 _ HBy.out.symm
        rw [HBy.out]
        clear HWa HBy B9 K9 R9 U9
        obtain ⟨a0, a1, a2, a3, a4, af⟩ := UA.out
        obtain ⟨e0, e1, e2, e3, e4, ef⟩ := VA.out
        have hbx := UA.out.lt
        have hby := VA.out.lt
        have hq := neq_sameS u0 u1 u2 u3 u4
        have hgd := eqGuard_en
        go_upto_region 20 with fail
        clear a0 a1 a2 a3 a4 af e0 e1 e2 e3 e4 ef hby VA
        rcases HEd.out with ⟨hE, h3⟩ | hE
        · subst hE
          subst h3
          obtain ⟨hzb, hzg⟩ := HU3.out z HZ.out
          have HZb : Hid (badL z = 0) := hzb
          have HZg : Hid (getE z (q : Int) = some ⟨u0, u1, u2, u3, u4⟩) := hzg
          clear hzb hzg
          obtain ⟨bk', hbk', hbk, ck0⟩ := KA.out.at j hjl
          obtain rfl : bk = bk' := by simpa using hbk'
          rw [HQ.out] at ck0
          clear hbk'
          go_wp2_with fail
          refine (getS_some HZb.out hq8 HZg.out vz _ RA.out.z).mono ?_
          rintro e wb ⟨rfl, hb⟩
          have BB : Hid (Below w.heap.size w wb) := BA.out.trans (hb.mono BA.out.size)
          have KB : Hid (OwnI w.heap.size wb (.slice (some ⟨bk, 0, none⟩) m cl) K) := KA.out.below hb
          have RB : Hid (Rows3 wb vx vy vz x y z) := RA.out.below hb
          have UB : Hid (BoxAt wb bx u0 u1 u2 u3 u4) := UA.out.below hb UA.out.lt
          clear hb ck0 hbk hbx BA KA RA UA
          go_upto_region 22 with fail
          obtain ⟨wd, HWd⟩ : ∃ x, x = wb.alloc (.cells #[.int .i64 u0, .int .i64 u1, .int .i64 u2, .bool u3, .string u4] 46) := ⟨_, rfl⟩
          rw [← HWd]
          obtain ⟨bz, HBz⟩ : ∃ b, Hid (wb.heap.size = b) := ⟨_, rfl⟩
          have BD : Hid (Below w.heap.size w wd) := by
            rw [HWd]
            exact BB.out.alloc BB.out.size _
          have KD : Hid (OwnI w.heap.size wd (.slice (some ⟨bk, 0, none⟩) m cl) K) := by
            rw [HWd]
            exact KB.out.below ((Below.refl _ _).alloc (Nat.le_refl _) _)
          have RD : Hid (Rows3 wd vx vy vz x y z) := by
            rw [HWd]
            exact RB.out.below ((Below.refl _ _).alloc (Nat.le_refl _) _)
          have UD : Hid (BoxAt wd bx u0 u1 u2 u3 u4) := by
            rw [HWd]
            exact UB.out.alloc _
          have VD : Hid (BoxAt wd bz u0 u1 u2 u3 u4) := by
            rw [HWd]
            exact box_new wb u0 u1 u2 u3 u4 _ HBz.out.symm
          rw [HBz.out]
          clear HWd HBz BB KB RB UB
          obtain ⟨a0, a1, a2, a3, a4, af⟩ := UD.out
          obtain ⟨e0, e1, e2, e3, e4, ef⟩ := VD.out
          have hbx := UD.out.lt
          have hbz := VD.out.lt
          go_wp2_with fail
          go_roundw
          case rel => exact ⟨j + 1, by omega, by go_num, KD, RD, BD⟩
          case measure => simp [intOf]; omega
        · subst hE
          go_wp2_with fail
          go_roundw
          case rel => exact ⟨j + 1, by omega, by go_num, KA, RA, BA⟩
          case measure => simp [intOf]; omega
      · obtain rfl : j = m := by omega
        clear HU HZ HEd HM
        go_wp2_with fail
        go_loopw [26] (fun i wr => ∃ k : Nat, k ≤ 8 ∧ i = .int .i64 k ∧ Hid (Rows3 wr vx vy vz x y z) ∧ Hid (Below w.heap.size w wr)) (fun i _ => 8 - (intOf i).toNat)
        case atStart => exact ⟨0, by omega, rfl, RR, BR⟩
        case round =>
          clear RR BR KR
          obtain ⟨k, hk, rfl, RR, BR⟩ := hrel
          by_cases hlt2 : k < 8
          · have hlti : (k : Int) < 8 := by omega
            obtain ⟨x0, x1, x2, x3, x4, EA, cA, hA⟩ := getS_e va a k HS.out.ga hlt2
            obtain ⟨y0, y1, y2, y3, y4, EB, cB, hB⟩ := getS_e vx x k HS.out.gx hlt2
            have HCa : Hid (∀ w', RowIs w' va a → Calls Tryd.prog 21 #[va, .int .i64 (k : Nat)] w' fun e w'' => e = .returned (.tuple #[.agg #[.int .i64 x0, .int .i64 x1, .int .i64 x2, .bool x3, .string x4], EA]) ∧ Below w'.heap.size w' w'') := cA
            have HCb : Hid (∀ w', RowIs w' vx x → Calls Tryd.prog 21 #[vx, .int .i64 (k : Nat)] w' fun e w'' => e = .returned (.tuple #[.agg #[.int .i64 y0, .int .i64 y1, .int .i64 y2, .bool y3, .string y4], EB]) ∧ Below w'.heap.size w' w'') := cB
            have HH : Hid (EA = .iface 55 (.int .i64 5) ∨ (EA = .nilIface ∧ EB = .nilIface ∧ x1 ≤ y1 ∧ x2 ≤ y2)) := by
              rcases hA with ⟨e1, g1⟩ | ⟨e1, _⟩
              · obtain ⟨v, hv, h1, h2⟩ := HS.out.new _ _ g1
                rcases hB with ⟨e2, g2⟩ | ⟨_, g2⟩
                · rw [g2] at hv
                  obtain rfl := Option.some.inj hv
                  exact .inr ⟨e1, e2, h1, h2⟩
                · rw [g2] at hv
                  cases hv
              · exact .inl e1
            clear cA cB hA hB
            go_wp2_with fail
            refine (HCa.out _ (HRa.out.below BR.out)).mono ?_
            rintro e w7 ⟨rfl, hb⟩
            have B7 : Hid (Below w.heap.size w w7) := BR.out.trans (hb.mono BR.out.size)
            have R7 : Hid (Rows3 w7 vx vy vz x y z) := RR.out.below hb
            clear hb RR BR HCa
            go_upto_region 28 with fail
            obtain ⟨w8, HW8⟩ : ∃ x, x = w7.alloc (.cells #[.int .i64 x0, .int .i64 x1, .int .i64 x2, .bool x3, .string x4] 46) := ⟨_, rfl⟩
            rw [← HW8]
            obtain ⟨bx, HBx⟩ : ∃ b, Hid (w7.heap.size = b) := ⟨_, rfl⟩
            have B8 : Hid (Below w.heap.size w w8) := by
              rw [HW8]
              exact B7.out.alloc B7.out.size _
            have R8 : Hid (Rows3 w8 vx vy vz x y z) := by
              rw [HW8]
              exact R7.out.below ((Below.refl _ _).alloc (Nat.le_refl _) _)
            have U8 : Hid (BoxAt w8 bx x0 x1 x2 x3 x4) := by
              rw [HW8]
              exact box_new w7 x0 x1 x2 x3 x4 _ HBx.out.symm
            rw [HBx.out]
            clear HW8 HBx B7 R7
            go_wp2_with fail
            refine (HCb.out _ R8.out.x).mono ?_
            rintro e w9 ⟨rfl, hb⟩
            have B9 : Hid (Below w.heap.size w w9) := B8.out.trans (hb.mono B8.out.size)
            have R9 : Hid (Rows3 w9 vx vy vz x y z) := R8.out.below hb
            have U9 : Hid (BoxAt w9 bx x0 x1 x2 x3 x4) := U8.out.below hb U8.out.lt
            clear hb R8 B8 U8 HCb
            go_upto_region 29 with fail
            obtain ⟨wa, HWa⟩ : ∃ x, x = w9.alloc (.cells #[.int .i64 y0, .int .i64 y1, .int .i64 y2, .bool y3, .string y4] 46) := ⟨_, rfl⟩
            rw [← HWa]
            obtain ⟨by', HBy⟩ : ∃ b, Hid (w9.heap.size = b) := ⟨_, rfl⟩
            have BA : Hid (Below w.heap.size w wa) := by
              rw [HWa]
              exact B9.out.alloc B9.out.size _
            have RA : Hid (Rows3 wa vx vy vz x y z) := by
              rw [HWa]
              exact R9.out.below ((Below.refl _ _).alloc (Nat.le_refl _) _)
            have UA : Hid (BoxAt wa bx x0 x1 x2 x3 x4) := by
              rw [HWa]
              exact U9.out.alloc _
            have VA : Hid (BoxAt wa by' y0 y1 y2 y3 y4) := by
              rw [HWa]
              exact box_new w9 y0 y1 y2 y3 y4 _ HBy.out.symm
            rw [HBy.out]
            clear HWa HBy B9 R9 U9
            obtain ⟨a0, a1, a2, a3, a4, af⟩ := UA.out
            obtain ⟨e0, e1, e2, e3, e4, ef⟩ := VA.out
            have hbx := UA.out.lt
            have hby := VA.out.lt
            rcases HH.out with rfl | ⟨rfl, rfl, h1, h2⟩
            · clear HH
              go_wp2_with fail
              go_roundw
              case rel => exact ⟨k + 1, by omega, by go_num, RA, BA⟩
              case measure => simp [intOf]; omega
            · have d1 : decide (y1 < x1) = false := by simp; omega
              have d2 : decide (y2 < x2) = false := by simp; omega
              have i1 : ¬ y1 < x1 := by omega
              have i2 : ¬ y2 < x2 := by omega
              clear HH h1 h2
              go_wp2_with fail
              go_roundw
              case rel => exact ⟨k + 1, by omega, by go_num, RA, BA⟩
              case measure => simp [intOf]; omega
          · obtain rfl : k = 8 := by omega
            go_wp2_with fail
            refine (pair_ok HS.out.more vx vy _ RR.out.x RR.out.y (HT.out _ BR.out)).mono ?_
            rintro e w7 ⟨vc, vd, rfl, hc, hd, hb⟩
            have B7 : Hid (Below w.heap.size w w7) := BR.out.trans (hb.mono BR.out.size)
            have R7 : Hid (Rows3 w7 vx vy vz x y z) := RR.out.below hb
            have C7 : Hid (RowIs w7 vc x) := hc
            have D7 : Hid (RowIs w7 vd y) := hd
            clear hb hc hd RR BR
            go_wp2_with fail
            refine (sameS_true vc vx _ C7.out R7.out.x).mono ?_
            rintro e w8 ⟨rfl, hb⟩
            have B8 : Hid (Below w.heap.size w w8) := B7.out.trans (hb.mono B7.out.size)
            have R8 : Hid (Rows3 w8 vx vy vz x y z) := R7.out.below hb
            have D8 : Hid (RowIs w8 vd y) := D7.out.below hb
            clear hb B7 R7 C7 D7
            go_wp2_with fail
            refine (sameS_true vd vy _ D8.out R8.out.y).mono ?_
            rintro e w9 ⟨rfl, hb⟩
            have B9 : Hid (Below w.heap.size w w9) := B8.out.trans (hb.mono B8.out.size)
            clear hb B8 R8 D8
            go_wp2_with fail
            go_ret
            exact ⟨rfl, B9.out⟩
  · have HC : Hid _ := pair_err HP.out hn va vb _ (HRa.out.below B2.out) (HRb.out.below B2.out) (HT.out _ B2.out)
    clear hn HP
    go_wp2_with fail
    refine Calls.mono HC.out ?_
    rintro e w3 ⟨vx, vy, rfl, hb⟩
    have B3 : Hid (Below w.heap.size w w3) := B2.out.trans (hb.mono B2.out.size)
    clear hb B2 HC
    go_wp2_with fail
    go_ret
    exact ⟨rfl, B3.out⟩
end Go.Proofs.YtippdgmgmenboagDoor
