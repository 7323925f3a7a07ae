/-
  The walk of merelaw1.FreshTrue.
-/
import Derived.Test.YtnclieehdodfiabDoorFRl
namespace Go.Proofs.YtnclieehdodfiabDoor
set_option linter.unusedVariables false
set_option linter.unusedSimpArgs false
open Go.RowKit

theorem eV_zero : eV 0 = .nilIface := rfl
theorem eV_err {n : Int} (h : n ≠ 0) : eV n = .iface 54 (.int .i64 n) := by rw [eV, if_neg h]
theorem getR {l : List En} {key k vv a : Int} {g : Bool} {t : ByteArray} {n : Int} (h : cacheGet l key = (⟨k, vv, a, g, t⟩, n)) (v : Value) (w : World) (hr : RowIs w v l) :
    Calls Tryd.prog 15 #[v, .int .i64 key] w fun e w' => e = .returned (.tuple #[.agg #[.int .i64 k, .int .i64 vv, .int .i64 a, .bool g, .string t], eV n]) ∧ Below w.heap.size w w' := by
  have c := get_c v l key w hr
  rw [h] at c
  exact c
theorem err_o {n m : Int} {b : Bool} (h : (n == m) = b) (w : World) (hg : HasErr w) : Calls Tryd.prog 7 #[eV n, .int .i64 m] w fun e w' => e = .returned (.bool b) ∧ Below w.heap.size w w' := by
  subst h
  exact err_any n m w hg
theorem in_o {a : List Int} {x : Int} {b : Bool} (h : a.contains x = b) (va : Value) (w : World) (hra : IntsIs w va a) :
    Calls Tryd.prog 22 #[va, .int .i64 x] w fun e w' => e = .returned (.bool b) ∧ Below w.heap.size w w' := by
  subst h
  exact in_c va a x w hra
theorem neq_selfR (x0 x1 x2 : Int) (x3 : Bool) (x4 : ByteArray) (w : World) : (binOp .neq 24 (.agg #[.int .i64 x0, .int .i64 x1, .int .i64 x2, .bool x3, .string x4]) (.agg #[.int .i64 x0, .int .i64 x1, .int .i64 x2, .bool x3, .string x4])).run Tryd.prog w = .ok (.bool false) w :=
  neq_cellsS x0 x1 x2 x3 x4 x0 x1 x2 x3 x4 true (En.same_self _) w

set_option maxRecDepth 100000 in
set_option maxHeartbeats 8000000 in
theorem ftrue_walk (vl : Value) (l : List En) (key least seq : Int) (w : World) (hrl : RowIs w vl l) (hg : HasErr w) :
    Calls Tryd.prog 5 #[vl, .int .i64 key, .int .i64 least, .int .i64 seq] w fun e w' => e = .returned (.bool true) ∧ Below w.heap.size w w' := by
  have HG : Hid (HasErr w) := hg
  have hlt := hg.lt
  have HL : Hid (RowIs w vl l) := hrl
  clear hg
  obtain ⟨hlen, p, cap, rfl, hrow⟩ := hrl
  clear hrow
  obtain ⟨n, HN⟩ : ∃ n, Hid (l.length = n) := ⟨_, rfl⟩
  rw [HN.out] at hlen HL ⊢
  have hn63 : n ≤ 9223372036854775807 := hlen
  obtain ⟨XS, f1, HSt⟩ : ∃ XS f1, Hid (freshStale l least = (XS, f1)) := ⟨_, _, rfl⟩
  obtain ⟨G0, G1, G2, G3, G4, G5, HFg⟩ : ∃ G0 G1 G2 G3 G4 G5, Hid (freshGet l key least = (⟨G0, G1, G2, G3, G4⟩, G5)) := ⟨_, _, _, _, _, _, rfl⟩
  obtain ⟨C0, C1, C2, C3, C4, C5, HCg⟩ : ∃ C0 C1 C2 C3 C4 C5, Hid (cacheGet l key = (⟨C0, C1, C2, C3, C4⟩, C5)) := ⟨_, _, _, _, _, _, rfl⟩
  obtain ⟨T1, T2, HTo⟩ : ∃ T1 T2, Hid (freshTouch l key C1 seq = (T1, T2)) := ⟨_, _, rfl⟩
  obtain ⟨U1, U2, HUo⟩ : ∃ U1 U2, Hid (freshTouch l key (C2 + 1) seq = (U1, U2)) := ⟨_, _, rfl⟩
  go_enter Tryd.func5, Tryd.ntmps5
  go_upto_region 2 with fail
  obtain ⟨w1, HW1⟩ : ∃ W, W = w.alloc (.cells #[.int .i64 1, .int .i64 2, .int .i64 4, .bool false, .string ⟨#[120]⟩] 24) := ⟨_, rfl⟩
  rw [← HW1]
  have B1 : Hid (Below w.heap.size w w1) := by rw [HW1]; exact (Below.refl _ w).alloc (Nat.le_refl _) _
  have R1 : Hid (RowIs w1 (.slice (some ⟨w.heap.size, 0, none⟩) 1 1) [oneE]) := by
    have hbx : BoxAt w1 w.heap.size 1 2 4 false ⟨#[120]⟩ := by rw [HW1]; exact box_new w 1 2 4 false ⟨#[120]⟩ _ rfl
    refine ⟨by simp [maxLen], _, 1, rfl, fun _ => ⟨w.heap.size, 0, rfl, hbx.lt, fun j hj => ?_⟩⟩
    obtain rfl : j = 0 := by simpa using hj
    exact ⟨hbx.c0, hbx.c1, hbx.c2, hbx.c3, hbx.c4⟩
  clear HW1
  go_wp2_with fail
  refine (touch_p one_touch _ _ R1.out).mono ?_
  rintro e w2 ⟨v2, rfl, hr2, hb⟩
  have B2 : Hid (Below w.heap.size w w2) := B1.out.trans (hb.mono B1.out.size)
  have R2 : Hid (RowIs w2 (.slice (some ⟨w.heap.size, 0, none⟩) 1 1) [oneE]) := R1.out.below hb
  have Y2 : Hid (RowIs w2 v2 [⟨1, 2, 9, false, ⟨#[120]⟩⟩]) := hr2
  clear hb hr2 B1 R1
  rw [eV_zero]
  go_wp2_with fail
  refine (freshGet_p one_old _ _ R2.out).mono ?_
  rintro e w3 ⟨rfl, hb⟩
  have B3 : Hid (Below w.heap.size w w3) := B2.out.trans (hb.mono B2.out.size)
  have Y3 : Hid (RowIs w3 v2 [⟨1, 2, 9, false, ⟨#[120]⟩⟩]) := Y2.out.below hb
  clear hb R2 Y2 B2
  go_upto_region 4 with fail
  obtain ⟨w4, HW4⟩ : ∃ W, W = w3.alloc (.cells #[.int .i64 0, .int .i64 0, .int .i64 0, .bool false, .string ⟨#[]⟩] 24) := ⟨_, rfl⟩
  rw [← HW4]
  have B4 : Hid (Below w.heap.size w w4) := by rw [HW4]; exact B3.out.alloc B3.out.size _
  have Y4 : Hid (RowIs w4 v2 [⟨1, 2, 9, false, ⟨#[120]⟩⟩]) := by rw [HW4]; exact Y3.out.below ((Below.refl _ w3).alloc (Nat.le_refl _) _)
  clear HW4 B3 Y3
  obtain ⟨p4, cap4, hv4, b4, o4, hp4, hc4⟩ : ∃ p c, v2 = .slice p 1 c ∧ ∃ b o, p = some ⟨b, o, none⟩ ∧ w4.cell? ⟨b, o + 2, none⟩ = some (.int .i64 9) := by
    obtain ⟨_, p, c, hv, hc⟩ := Y4.out
    obtain ⟨b, o, hp, _, hat⟩ := hc (by simp)
    have := (hat 0 (by simp)).c2
    exact ⟨p, c, hv, b, o, hp, by simpa using this⟩
  subst hp4
  subst hv4
  clear Y4
  go_wp2_with fail
  refine (err_same 8 _ (HG.out.below hlt B4.out)).mono ?_
  rintro e w5 ⟨rfl, hb⟩
  have B5 : Hid (Below w.heap.size w w5) := B4.out.trans (hb.mono B4.out.size)
  clear hb B4 hc4
  go_wp2_with fail
  refine (stale_p HSt.out _ _ (HL.out.below B5.out)).mono ?_
  rintro e w6 ⟨v6, rfl, hi, hb⟩
  have B6 : Hid (Below w.heap.size w w6) := B5.out.trans (hb.mono B5.out.size)
  have I6 : Hid (IntsIs w6 v6 XS) := hi
  clear hb hi B5
  by_cases hf1 : f1 = 0
  · subst hf1
    rw [eV_zero]
    go_wp2_with fail
    refine (freshGet_p HFg.out _ _ (HL.out.below B6.out)).mono ?_
    rintro e w7 ⟨rfl, hb⟩
    have B7 : Hid (Below w.heap.size w w7) := B6.out.trans (hb.mono B6.out.size)
    have I7 : Hid (IntsIs w7 v6 XS) := I6.out.below hb
    clear hb B6 I6
    go_upto_region 10 with fail
    obtain ⟨w8, HW8⟩ : ∃ W, W = w7.alloc (.cells #[.int .i64 G0, .int .i64 G1, .int .i64 G2, .bool G3, .string G4] 24) := ⟨_, rfl⟩
    rw [← HW8]
    obtain ⟨Zx, HZx⟩ : ∃ Z, w7.heap.size = Z := ⟨_, rfl⟩
    rw [HZx]
    have B8 : Hid (Below w.heap.size w w8) := by rw [HW8]; exact B7.out.alloc B7.out.size _
    have I8 : Hid (IntsIs w8 v6 XS) := by rw [HW8]; exact I7.out.below ((Below.refl _ w7).alloc (Nat.le_refl _) _)
    have X8 : Hid (BoxAt w8 Zx G0 G1 G2 G3 G4) := by rw [HW8]; exact box_new w7 G0 G1 G2 G3 G4 _ HZx.symm
    clear HW8 HZx B7 I7
    go_wp2_with fail
    refine (getR HCg.out _ _ (HL.out.below B8.out)).mono ?_
    rintro e w9 ⟨rfl, hb⟩
    have B9 : Hid (Below w.heap.size w w9) := B8.out.trans (hb.mono B8.out.size)
    have I9 : Hid (IntsIs w9 v6 XS) := I8.out.below hb
    have X9 : Hid (BoxAt w9 Zx G0 G1 G2 G3 G4) := X8.out.below hb X8.out.lt
    clear hb B8 I8 X8
    go_upto_region 11 with fail
    obtain ⟨w10, HW10⟩ : ∃ W, W = w9.alloc (.cells #[.int .i64 C0, .int .i64 C1, .int .i64 C2, .bool C3, .string C4] 24) := ⟨_, rfl⟩
    rw [← HW10]
    obtain ⟨Zh, HZh⟩ : ∃ Z, w9.heap.size = Z := ⟨_, rfl⟩
    rw [HZh]
    have B10 : Hid (Below w.heap.size w w10) := by rw [HW10]; exact B9.out.alloc B9.out.size _
    have I10 : Hid (IntsIs w10 v6 XS) := by rw [HW10]; exact I9.out.below ((Below.refl _ w9).alloc (Nat.le_refl _) _)
    have X10 : Hid (BoxAt w10 Zx G0 G1 G2 G3 G4) := by rw [HW10]; exact X9.out.alloc _
    have H10 : Hid (BoxAt w10 Zh C0 C1 C2 C3 C4) := by rw [HW10]; exact box_new w9 C0 C1 C2 C3 C4 _ HZh.symm
    clear HW10 HZh B9 I9 X9
    have HSq : Hid (isSeqB least = true) := (stale_fine HSt.out).1
    by_cases hc5 : C5 = 0
    · subst hc5
      rw [eV_zero]
      obtain ⟨hgood, hkey, hget⟩ := cacheGet_ok HCg.out
      have HIn : Hid (XS.contains key = decide (C2 < least)) := by
        show _ = _
        rw [(stale_fine HSt.out).2.2]
        exact stale_has hgood.rise hget
      have hba := bad_all (hgood.all _ ((getE_iff hgood.rise).1 hget).1)
      dsimp only at hba
      obtain ⟨hC1, hC2, hC3⟩ := hba
      clear hgood hkey hget
      obtain ⟨bn, HBn⟩ : ∃ b, Hid (XS.contains key = b) := ⟨_, rfl⟩
      go_wp2_with fail
      refine (in_o HBn.out _ _ I10.out).mono ?_
      rintro e w11 ⟨rfl, hb⟩
      have B11 : Hid (Below w.heap.size w w11) := B10.out.trans (hb.mono B10.out.size)
      have X11 : Hid (BoxAt w11 Zx G0 G1 G2 G3 G4) := X10.out.below hb X10.out.lt
      have H11 : Hid (BoxAt w11 Zh C0 C1 C2 C3 C4) := H10.out.below hb H10.out.lt
      clear hb B10 I10 X10 H10
      go_upto_region 14 with fail
      go_cut [105] (fun c wc => c = .bool false ∧ Hid (Below w.heap.size w wc) ∧ Hid (BoxAt wc Zh C0 C1 C2 C3 C4))
      case first =>
        by_cases ho : C2 < least
        · obtain rfl : bn = true := HBn.out.symm.trans (HIn.out.trans (by simpa using ho))
          have HG5 : Hid (G5 = 8) := (pair_eq ((fg_old HSq.out HCg.out ho).symm.trans HFg.out)).2.symm
          go_wp2_with fail
          refine (err_o (b := true) (by rw [HG5.out]; rfl) _ (HG.out.below hlt B11.out)).mono ?_
          rintro e w12 ⟨rfl, hb⟩
          have B12 : Hid (Below w.heap.size w w12) := B11.out.trans (hb.mono B11.out.size)
          have H12 : Hid (BoxAt w12 Zh C0 C1 C2 C3 C4) := H11.out.below hb H11.out.lt
          clear hb
          go_wp2_with fail
          go_meet
          case rel => exact ⟨rfl, B12, H12⟩
        · obtain rfl : bn = false := HBn.out.symm.trans (HIn.out.trans (by simpa using ho))
          have HGG : Hid (G0 = C0 ∧ G1 = C1 ∧ G2 = C2 ∧ G3 = C3 ∧ G4 = C4 ∧ G5 = 0) := by
            have h := (fg_new HSq.out HCg.out ho).symm.trans HFg.out
            simp only [Prod.mk.injEq, En.mk.injEq] at h
            exact ⟨h.1.1.symm, h.1.2.1.symm, h.1.2.2.1.symm, h.1.2.2.2.1.symm, h.1.2.2.2.2.symm, h.2.symm⟩
          obtain ⟨rfl, rfl, rfl, rfl, rfl, rfl⟩ := HGG.out
          have hgd := eqGuard_en
          have hq := neq_selfR G0 G1 G2 G3 G4
          go_wp2_with fail
          refine (err_o (n := 0) (b := false) (by rfl) _ (HG.out.below hlt B11.out)).mono ?_
          rintro e w12 ⟨rfl, hb⟩
          have B12 : Hid (Below w.heap.size w w12) := B11.out.trans (hb.mono B11.out.size)
          have X12 : Hid (BoxAt w12 Zx G0 G1 G2 G3 G4) := X11.out.below hb X11.out.lt
          have H12 : Hid (BoxAt w12 Zh G0 G1 G2 G3 G4) := H11.out.below hb H11.out.lt
          clear hb
          rw [eV_zero]
          obtain ⟨x0, x1, x2, x3, x4, xf⟩ := X12.out
          obtain ⟨h0, h1, h2, h3, h4, hf⟩ := H12.out
          go_wp2_with fail
          go_meet
          case rel => exact ⟨by simp; omega, B12, H12⟩
      case rest =>
        obtain ⟨w12, h⟩ : ∃ x, x = wc := ⟨_, rfl⟩
        subst h
        obtain ⟨rfl, B12, H12⟩ := hcut
        clear B11 X11 H11 HIn HBn
        obtain ⟨h0, h1, h2, h3, h4, hf⟩ := H12.out
        go_wp2_with fail
        refine (touch_p HTo.out _ _ (HL.out.below B12.out)).mono ?_
        rintro e w13 ⟨v13, rfl, hr13, hb⟩
        have B13 : Hid (Below w.heap.size w w13) := B12.out.trans (hb.mono B12.out.size)
        have H13 : Hid (BoxAt w13 Zh C0 C1 C2 C3 C4) := H12.out.below hb H12.out.lt
        have R13 : Hid (RowIs w13 v13 T1) := hr13
        clear hb hr13 B12 H12 h0 h1 h2 h3 h4 hf
        go_upto_region 17 with fail
        go_cut [15, 116] (fun v15 c wc => ∃ cb : Bool, c = .bool cb ∧ Hid (cb = decide (T2 = 0)) ∧ Hid (Below w.heap.size w wc) ∧ Hid (BoxAt wc Zh C0 C1 C2 C3 C4) ∧ Hid (RowIs wc v13 T1))
        case first =>
          by_cases ht : T2 = 0
          · subst ht
            rw [eV_zero]
            go_wp2_with fail
            go_meet
            case rel => exact ⟨_, rfl, (by show _ = _; simp), B13, H13, R13⟩
          · rw [eV_err ht]
            go_wp2_with fail
            go_meet
            case rel => exact ⟨_, rfl, (by show _ = _; simp [ht]), B13, H13, R13⟩
        case rest =>
          obtain ⟨w14, h⟩ : ∃ x, x = wc := ⟨_, rfl⟩
          subst h
          obtain ⟨cb, rfl, HCb, B14, H14, R14⟩ := hcut
          clear B13 H13 R13
          go_upto_if 116 with fail
          go_cut [22, 23] (fun v22 v23 wc => Hid (Below w.heap.size w wc) ∧ Hid (BoxAt wc Zh C0 C1 C2 C3 C4))
          case first =>
            by_cases ht : T2 = 0
            · obtain rfl : cb = true := HCb.out.trans (by simpa using ht)
              have HTc : Hid (cacheGet T1 key = (⟨C0, C1, max C2 seq, C3, C4⟩, 0)) := touch_same HCg.out (by rw [← ht]; exact HTo.out)
              have hm1 : ¬ max C2 seq < C2 := by omega
              have hm2 : ¬ max C2 seq < seq := by omega
              have HM : Hid (¬ max C2 seq < C2 ∧ ¬ max C2 seq < seq) := ⟨hm1, hm2⟩
              clear ht hm1 hm2
              obtain ⟨M, HMx⟩ : ∃ M, Hid (max C2 seq = M) := ⟨_, rfl⟩
              rw [HMx.out] at HTc HM
              obtain ⟨hm1, hm2⟩ := HM.out
              go_wp2_with fail
              refine (getR HTc.out _ _ R14.out).mono ?_
              rintro e w15 ⟨rfl, hb⟩
              have B15 : Hid (Below w.heap.size w w15) := B14.out.trans (hb.mono B14.out.size)
              have H15 : Hid (BoxAt w15 Zh C0 C1 C2 C3 C4) := H14.out.below hb H14.out.lt
              clear hb
              rw [eV_zero]
              go_upto_region 19 with fail
              obtain ⟨w16, HW16⟩ : ∃ W, W = w15.alloc (.cells #[.int .i64 C0, .int .i64 C1, .int .i64 M, .bool C3, .string C4] 24) := ⟨_, rfl⟩
              rw [← HW16]
              have B16 : Hid (Below w.heap.size w w16) := by rw [HW16]; exact B15.out.alloc B15.out.size _
              have H16 : Hid (BoxAt w16 Zh C0 C1 C2 C3 C4) := by rw [HW16]; exact H15.out.alloc _
              have Z16 : Hid (BoxAt w16 w15.heap.size C0 C1 M C3 C4) := by rw [HW16]; exact box_new w15 C0 C1 M C3 C4 _ rfl
              clear HW16
              obtain ⟨h0, h1, h2, h3, h4, hf⟩ := H16.out
              obtain ⟨z0, z1, z2, z3, z4, zf⟩ := Z16.out
              go_wp2_with fail
              go_meet
              case rel => exact ⟨B16, H16⟩
            · obtain rfl : cb = false := HCb.out.trans (by simpa using ht)
              clear ht
              go_wp2_with fail
              go_meet
              case rel => exact ⟨B14, H14⟩
          case rest =>
            obtain ⟨w17, h⟩ : ∃ x, x = wc := ⟨_, rfl⟩
            subst h
            obtain ⟨B17, H17⟩ := hcut
            clear B14 H14 R14 HCb
            obtain ⟨h0, h1, h2, h3, h4, hf⟩ := H17.out
            go_wp2_with fail
            refine (touch_p HUo.out _ _ (HL.out.below B17.out)).mono ?_
            rintro e w18 ⟨v18, rfl, hr18, hb⟩
            have B18 : Hid (Below w.heap.size w w18) := B17.out.trans (hb.mono B17.out.size)
            have R18 : Hid (RowIs w18 v18 U1) := hr18
            clear hb hr18 B17 H17 h0 h1 h2 h3 h4 hf
            by_cases hu : U2 = 0
            · subst hu
              obtain ⟨hu1, hu2⟩ := touch_more HCg.out HUo.out
              have HUg : Hid (cacheGet U1 key = (⟨0, 0, 0, false, ⟨#[]⟩⟩, 5)) := hu1
              have HNp : Hid (1 ≤ n) := by
                show _ ≤ _
                obtain ⟨hgood, _, hget⟩ := cacheGet_ok HCg.out
                obtain ⟨hj, _, _⟩ := getE_some hgood.rise hget
                rw [← HN.out]
                omega
              have HU2 : Hid (U1.length = n - 1) := by show _ = _; rw [hu2, HN.out]
              clear hu1 hu2
              obtain ⟨p18, c18, hv18⟩ : ∃ p c, v18 = .slice p (n - 1) c := by
                obtain ⟨_, p, c, hv, _⟩ := R18.out
                rw [HU2.out] at hv
                exact ⟨p, c, hv⟩
              subst hv18
              rw [eV_zero]
              go_wp2_with fail
              refine (getR HUg.out _ _ R18.out).mono ?_
              rintro e w19 ⟨rfl, hb⟩
              have B19 : Hid (Below w.heap.size w w19) := B18.out.trans (hb.mono B18.out.size)
              clear hb
              go_wp2_with fail
              refine (err_same 5 _ (HG.out.below hlt B19.out)).mono ?_
              rintro e w20 ⟨rfl, hb⟩
              have B20 : Hid (Below w.heap.size w w20) := B19.out.trans (hb.mono B19.out.size)
              clear hb
              have hn1 := HNp.out
              have hn2 : ((n - 1 : Nat) : Int) = (n : Int) - 1 := by omega
              go_wp2_with fail
              go_ret
              exact ⟨rfl, B20.out⟩
            · rw [eV_err hu]
              go_wp2_with fail
              go_ret
              exact ⟨rfl, B18.out⟩
    · have HG5 : Hid (G5 = C5) := (pair_eq ((fg_of HSq.out HCg.out hc5).symm.trans HFg.out)).2.symm
      have hg5 : ¬ G5 = 0 := by rw [HG5.out]; exact hc5
      rw [eV_err hg5, eV_err hc5]
      go_wp2_with fail
      go_ret
      exact ⟨rfl, B10.out⟩
  · rw [eV_err hf1]
    go_wp2_with fail
    go_ret
    exact ⟨rfl, B6.out⟩
end Go.Proofs.YtnclieehdodfiabDoor
