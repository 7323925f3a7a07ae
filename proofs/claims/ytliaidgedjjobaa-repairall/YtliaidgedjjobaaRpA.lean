/-
  merelaw2.RepairAll answers true, whatever the caches, the key, and the choices.
-/
import Derived.Test.YtliaidgedjjobaaRpQ
import Derived.Test.YtliaidgedjjobaaRpF
import Derived.Test.YtliaidgedjjobaaEn4
import Derived.BigRegion
import Derived.BigQuiet
import Derived.WalkSmall
import Derived.Deep.DeepCutAuto
namespace Go.Proofs.Ytliaidgedjjobaa
set_option linter.unusedVariables false
set_option linter.unusedSimpArgs false
open Go.RowKit

theorem row_lone (w : World) (b : Nat) (k v a : Int) (g : Bool) (t : ByteArray) (hb : b = w.heap.size) : RowIs (w.alloc (.cells #[.int .i64 k, .int .i64 v, .int .i64 a, .bool g, .string t] 25)) (.slice (some ⟨b, 0, none⟩) 1 1) [⟨k, v, a, g, t⟩] := by
  have hx := box_new w k v a g t b hb
  refine ⟨by simp [maxLen], _, _, rfl, fun _ => ⟨b, 0, rfl, hx.lt, fun j hj => ?_⟩⟩
  obtain rfl : j = 0 := by simpa using hj
  exact ⟨hx.c0, hx.c1, hx.c2, hx.c3, hx.c4⟩
theorem rows_fact (w : World) : RowsIs ((w.alloc (.cells #[.int .i64 2, .int .i64 5, .int .i64 6, .bool false, .string ⟨#[120]⟩] 25)).alloc (.cells #[.slice none 0 0, .slice (some ⟨w.heap.size, 0, none⟩) 1 1] 26)) (.slice (some ⟨w.heap.size + 1, 0, none⟩) 2 2) [[], [⟨2, 5, 6, false, ⟨#[120]⟩⟩]] := by
  have h1 := row_lone w w.heap.size 2 5 6 false ⟨#[120]⟩ rfl
  refine ⟨by simp [maxLen], _, _, rfl, fun _ => ⟨w.heap.size + 1, 0, rfl, by simp, fun j hj => ?_⟩⟩
  have hj2 : j < 2 := hj
  rcases (show j = 0 ∨ j = 1 by omega) with rfl | rfl
  · exact ⟨.slice none 0 0, by simp, RowIs.nil _⟩
  · exact ⟨.slice (some ⟨w.heap.size, 0, none⟩) 1 1, by simp, h1.below ((Below.refl _ _).alloc (Nat.le_refl _) _)⟩
theorem ints_one {w : World} {u : Value} {x : Int} (h : IntsIs w u [x]) : ∃ b o c, u = .slice (some ⟨b, o, none⟩) 1 c ∧ w.cell? ⟨b, o, none⟩ = some (.int .i64 x) := by
  obtain ⟨_, p, c, rfl, h1⟩ := h
  obtain ⟨b, o, rfl, _, hc⟩ := h1 (by simp)
  exact ⟨b, o, c, rfl, hc 0 (by simp)⟩
set_option maxRecDepth 100000 in
set_option maxHeartbeats 16000000 in
theorem rall_w (I : RpFace) (vl vr vq : Value) (ls : List (List En)) (key n : Int) (r q : List Int) (w : World) (hl : RowsIs w vl ls) (hr : IntsIs w vr r) (hq : IntsIs w vq q) :
    Calls Try.prog 3 #[vl, .int .i64 key, .int .i64 n, vr, vq] w fun e w' => e = .returned (.bool true) ∧ Below w.heap.size w w' := by
  obtain ⟨x0, x1, x2, x3, x4, m, HR⟩ : ∃ x0 x1 x2 x3 x4 m, Hid (readR ls key = (⟨x0, x1, x2, x3, x4⟩, m)) := ⟨_, _, _, _, _, _, rfl⟩
  have HL : Hid (RowsIs w vl ls) := hl
  have HRr : Hid (IntsIs w vr r) := hr
  have HRq : Hid (IntsIs w vq q) := hq
  obtain ⟨pl, cl, rfl, hl63⟩ := hl.slice
  obtain ⟨pr, cr, rfl, hr63⟩ := hr.slice
  obtain ⟨pq, cq, rfl, hq63⟩ := hq.slice
  clear hl hr hq
  obtain ⟨nr, HNr⟩ : ∃ nr, Hid (r.length = nr) := ⟨_, rfl⟩
  obtain ⟨nq, HNq⟩ : ∃ nq, Hid (q.length = nq) := ⟨_, rfl⟩
  rw [HNr.out] at hr63 HRr ⊢
  rw [HNq.out] at hq63 HRq ⊢
  have hr64 : nr ≤ 9223372036854775807 := hr63
  have hq64 : nq ≤ 9223372036854775807 := hq63
  clear hr63 hq63
  have HF : Hid _ := rows_fact w
  have B0 : Hid (Below w.heap.size w ((w.alloc (.cells #[.int .i64 2, .int .i64 5, .int .i64 6, .bool false, .string ⟨#[120]⟩] 25)).alloc (.cells #[.slice none 0 0, .slice (some ⟨w.heap.size, 0, none⟩) 1 1] 26))) := ((Below.refl _ w).alloc (Nat.le_refl _) _).alloc (by simp) _
  go_enter Try.func3, Try.ntmps3
  go_wp2_with fail
  refine (I.lacks HF.out fact_lacks).mono ?_
  rintro e w1 ⟨u, rfl, hu, hb⟩
  obtain ⟨fb, fo, fc, rfl, fcell⟩ := ints_one hu
  have B1 : Hid (Below w.heap.size w w1) := B0.out.trans (hb.mono B0.out.size)
  clear hb hu B0 HF
  rw [eV_zeroP]
  go_wp2_with fail
  clear fcell
  refine (I.read (HL.out.below B1.out) HR.out).mono ?_
  rintro e w2 ⟨rfl, hb⟩
  have B2 : Hid (Below w.heap.size w w2) := B1.out.trans (hb.mono B1.out.size)
  clear hb B1
  have hs2 := B2.out.size
  have B3 : Hid (Below w.heap.size w (w2.alloc (.cells #[.int .i64 x0, .int .i64 x1, .int .i64 x2, .bool x3, .string x4] 25))) := B2.out.alloc hs2 _
  have X3 : Hid (BoxAt (w2.alloc (.cells #[.int .i64 x0, .int .i64 x1, .int .i64 x2, .bool x3, .string x4] 25)) w2.heap.size x0 x1 x2 x3 x4) := box_new w2 x0 x1 x2 x3 x4 _ rfl
  obtain ⟨em, HEm⟩ : ∃ em, Hid (eV m = em) := ⟨_, rfl⟩
  rw [HEm.out]
  go_upto_region 6 with fail
  obtain ⟨w3, HW3⟩ : ∃ w3, w3 = w2.alloc (.cells #[.int .i64 x0, .int .i64 x1, .int .i64 x2, .bool x3, .string x4] 25) := ⟨_, rfl⟩
  obtain ⟨X, HXX⟩ : ∃ X, X = w2.heap.size := ⟨_, rfl⟩
  rw [← HW3, ← HXX] at X3
  rw [← HW3] at B3
  rw [← HW3, ← HXX]
  clear HW3 HXX B2 hs2
  obtain ⟨mb, HMb⟩ : ∃ mb, Hid ((m == 0) = mb) := ⟨_, rfl⟩
  go_cut [15, 63] (fun _ c wd => c = .bool mb ∧ wd = w3)
  case first =>
    by_cases hm : m = 0
    · have hmb : mb = true := by rw [← HMb.out]; simp [hm]
      have hem : em = .nilIface := by rw [← HEm.out, hm]; exact eV_zeroP
      subst hmb
      subst hem
      go_wp2_with fail
      go_meet
      exact ⟨rfl, rfl⟩
    · have hmb : mb = false := by rw [← HMb.out]; simp [hm]
      have hem : em = .iface 48 (.int .i64 m) := by rw [← HEm.out]; exact eV_errP hm
      subst hmb
      subst hem
      go_wp2_with fail
      go_meet
      exact ⟨rfl, rfl⟩
  case rest =>
  obtain ⟨rfl, hwc⟩ := hcut
  subst hwc
  obtain ⟨nl, HNl⟩ : ∃ nl, Hid (ls.length = nl) := ⟨_, rfl⟩
  rw [HNl.out] at hl63 HL ⊢
  have hn63 : nl ≤ 9223372036854775807 := hl63
  go_upto_if 63 with fail
  go_cut [16, 17, 18, 19, 20, 21, 22, 23, 24] (fun _ _ _ _ _ _ _ _ _ wd => Hid (Below w.heap.size w wd))
  case first =>
    cases mb with
    | false =>
      go_wp2_with fail
      go_meet
      exact B3
    | true =>
      have hm0 : m = 0 := by have := HMb.out; simpa using this
      have HR0 : Hid (readR ls key = (⟨x0, x1, x2, x3, x4⟩, 0)) := by show _ = _; rw [HR.out, hm0]
      obtain ⟨zs, HZ⟩ : ∃ zs, Hid (ls.map (withE ⟨x0, x1, x2, x3, x4⟩) = zs) := ⟨_, rfl⟩
      have HZl : Hid (zs.length = nl) := by show _ = _; rw [← HZ.out, List.length_map, HNl.out]
      have HWr : Hid (writeR ls key = (zs, 0)) := by show _ = _; rw [write_ok HR0.out, HZ.out]
      have HRd : Hid (readR zs key = (⟨x0, x1, x2, x3, x4⟩, 0)) := by show _ = _; rw [← HZ.out]; exact write_read HR0.out
      have HLk : Hid (lacksR zs key = ([], 0)) := by show _ = _; rw [← HZ.out]; exact write_lacks HR0.out
      have HGt : Hid (∀ z ∈ zs, cacheGet z key = (⟨x0, x1, x2, x3, x4⟩, 0)) := fun z hz => write_get HR0.out (by rw [HZ.out]; exact hz)
      clear hm0 HR0 HZ
      have hq := neq_cells x0 x1 x2 x3 x4 x0 x1 x2 x3 x4 true (by simp [En.same])
      have hgd := eqGuard_en
      go_wp2_with fail
      refine (I.write (HL.out.below B3.out) HWr.out).mono ?_
      rintro e w4 ⟨u, rfl, hu, hb⟩
      obtain ⟨pz, cz, rfl, _⟩ := hu.slice
      rw [HZl.out] at hu ⊢
      have HU4 : Hid (RowsIs w4 (.slice pz nl cz) zs) := hu
      have B4 : Hid (Below w.heap.size w w4) := B3.out.trans (hb.mono B3.out.size)
      have X4 : Hid (BoxAt w4 X x0 x1 x2 x3 x4) := X3.out.below hb X3.out.lt
      clear hb hu
      rw [eV_zeroP]
      go_wp2_with fail
      refine (I.read HU4.out HRd.out).mono ?_
      rintro e w5 ⟨rfl, hb⟩
      rw [eV_zeroP]
      have B5 : Hid (Below w.heap.size w (w5.alloc (.cells #[.int .i64 x0, .int .i64 x1, .int .i64 x2, .bool x3, .string x4] 25))) := (B4.out.trans (hb.mono B4.out.size)).alloc (Nat.le_trans B4.out.size hb.size) _
      have hb5 : Below w4.heap.size w4 (w5.alloc (.cells #[.int .i64 x0, .int .i64 x1, .int .i64 x2, .bool x3, .string x4] 25)) := hb.alloc hb.size _
      have HU5 : Hid (RowsIs (w5.alloc (.cells #[.int .i64 x0, .int .i64 x1, .int .i64 x2, .bool x3, .string x4] 25)) (.slice pz nl cz) zs) := HU4.out.below hb5
      have X5 : Hid (BoxAt (w5.alloc (.cells #[.int .i64 x0, .int .i64 x1, .int .i64 x2, .bool x3, .string x4] 25)) X x0 x1 x2 x3 x4) := X4.out.below hb5 X4.out.lt
      have Y5 : Hid (BoxAt (w5.alloc (.cells #[.int .i64 x0, .int .i64 x1, .int .i64 x2, .bool x3, .string x4] 25)) w5.heap.size x0 x1 x2 x3 x4) := box_new w5 x0 x1 x2 x3 x4 _ rfl
      clear hb hb5
      go_wp2_with fail
      refine (I.lacks HU5.out HLk.out).mono ?_
      rintro e w6 ⟨u, rfl, hu, hb⟩
      obtain ⟨pk, ck, rfl, _⟩ := hu.slice
      rw [eV_zeroP]
      have B6 : Hid (Below w.heap.size w w6) := B5.out.trans (hb.mono B5.out.size)
      have HU6 : Hid (RowsIs w6 (.slice pz nl cz) zs) := HU5.out.below hb
      have X6 : Hid (BoxAt w6 X x0 x1 x2 x3 x4) := X5.out.below hb X5.out.lt
      have Y6 : Hid (BoxAt w6 w5.heap.size x0 x1 x2 x3 x4) := Y5.out.below hb Y5.out.lt
      clear hb hu B5 HU5 X5 Y5 B4 HU4 X4
      obtain ⟨c0, c1, c2, c3, c4, cf⟩ := X6.out
      obtain ⟨d0, d1, d2, d3, d4, df⟩ := Y6.out
      go_wp2_with fail
      clear c0 c1 c2 c3 c4 cf d0 d1 d2 d3 d4 df
      go_loopw [22] (fun s22 wr => ∃ (j : Nat), j ≤ nl ∧ s22 = .int .i64 j ∧ Hid (Below w6.heap.size w6 wr)) (fun i _ => nl - (intOf i).toNat)
      case atStart => exact ⟨0, Nat.zero_le _, rfl, Below.refl _ _⟩
      case round =>
        obtain ⟨j, hj, rfl, HB⟩ := hrel
        by_cases hlt : j < nl
        · have hjl : j < zs.length := by rw [HZl.out]; exact hlt
          have hlti : (j : Int) < (nl : Int) := by omega
          obtain ⟨_, _, _, he, hrow⟩ := HU6.out.below HB.out
          cases he
          obtain ⟨b, o, rfl, hbw, hat⟩ := hrow (fun h => by simp [h] at hjl)
          obtain ⟨u, hu, hru⟩ := hat j hjl
          have HUj : Hid (RowIs wr u zs[j]) := hru
          have HGj : Hid (cacheGet zs[j] key = (⟨x0, x1, x2, x3, x4⟩, 0)) := HGt.out _ (List.getElem_mem hjl)
          have Xr : Hid (BoxAt wr X x0 x1 x2 x3 x4) := X6.out.below HB.out X6.out.lt
          clear hrow hat hru
          go_wp2_with fail
          refine (getP_o HGj.out _ _ HUj.out).mono ?_
          rintro e w7 ⟨rfl, hb⟩
          rw [eV_zeroP]
          obtain ⟨w8, HW8⟩ : ∃ w8, w8 = w7.alloc (.cells #[.int .i64 x0, .int .i64 x1, .int .i64 x2, .bool x3, .string x4] 25) := ⟨_, rfl⟩
          have hb7 : Below wr.heap.size wr w8 := by rw [HW8]; exact hb.alloc hb.size _
          have B7 : Hid (Below w6.heap.size w6 w8) := HB.out.trans (hb7.mono HB.out.size)
          have X8 : Hid (BoxAt w8 X x0 x1 x2 x3 x4) := Xr.out.below hb7 Xr.out.lt
          have Y8 : Hid (BoxAt w8 w7.heap.size x0 x1 x2 x3 x4) := by rw [HW8]; exact box_new w7 x0 x1 x2 x3 x4 _ rfl
          clear hb hb7 hu
          go_upto_region 18 with fail
          rw [← HW8]
          clear HW8
          obtain ⟨c0, c1, c2, c3, c4, cf⟩ := X8.out
          obtain ⟨d0, d1, d2, d3, d4, df⟩ := Y8.out
          go_wp2_with fail
          clear c0 c1 c2 c3 c4 cf d0 d1 d2 d3 d4 df
          go_roundw
          case rel => exact ⟨j + 1, by omega, by go_num, B7⟩
          case measure => simp [intOf]; omega
        · obtain rfl : j = nl := by omega
          go_wp2_with fail
          go_meet
          exact B6.out.trans (HB.out.mono B6.out.size)
  case rest =>
  have B4 : Hid (Below w.heap.size w wc) := hcut
  clear hcut B3 X3 HR HEm HMb HL HNl
  obtain ⟨w4, hren⟩ : ∃ x, x = wc := ⟨_, rfl⟩
  subst hren
  have hs4 := B4.out.size
  by_cases hn1 : n < 1
  · have hd1 : decide (n < 1) = true := by simpa using hn1
    go_wp2_with fail
    go_ret
    exact ⟨rfl, B4.out⟩
  by_cases hn6 : 6 < n
  · have hd1 : decide (n < 1) = false := by simpa using hn1
    have hd2 : decide (6 < n) = true := by simpa using hn6
    go_wp2_with fail
    go_ret
    exact ⟨rfl, B4.out⟩
  have hd1 : decide (n < 1) = false := by simpa using hn1
  have hd2 : decide (6 < n) = false := by simpa using hn6
  obtain ⟨m6, rfl⟩ : ∃ k : Nat, n = k := ⟨n.toNat, by omega⟩
  have hm1 : 1 ≤ m6 := by omega
  have hm6 : m6 ≤ 6 := by omega
  have hA5 : Hid (F6 ((w4.alloc (.cells #[.bool false, .bool false, .bool false, .bool false, .bool false, .bool false] 36)).alloc (.cells #[.bool false, .bool false, .bool false, .bool false, .bool false, .bool false] 36)) w4.heap.size (fun _ => false)) := (f6_new w4 _ rfl).grown ((Below.refl _ _).alloc (Nat.le_refl _) _)
  have hB5 : Hid (F6 ((w4.alloc (.cells #[.bool false, .bool false, .bool false, .bool false, .bool false, .bool false] 36)).alloc (.cells #[.bool false, .bool false, .bool false, .bool false, .bool false, .bool false] 36)) (w4.heap.size + 1) (fun _ => false)) := f6_new _ _ (by simp)
  have B5 : Hid (Below w.heap.size w ((w4.alloc (.cells #[.bool false, .bool false, .bool false, .bool false, .bool false, .bool false] 36)).alloc (.cells #[.bool false, .bool false, .bool false, .bool false, .bool false, .bool false] 36))) := (B4.out.alloc hs4 _).alloc (by simp; omega) _
  go_upto_region 23 with fail
  obtain ⟨w5, HW5⟩ : ∃ x, x = (w4.alloc (.cells #[.bool false, .bool false, .bool false, .bool false, .bool false, .bool false] 36)).alloc (.cells #[.bool false, .bool false, .bool false, .bool false, .bool false, .bool false] 36) := ⟨_, rfl⟩
  obtain ⟨A, HA⟩ : ∃ x, x = w4.heap.size := ⟨_, rfl⟩
  rw [← HW5, ← HA] at hA5 hB5
  rw [← HW5] at B5
  rw [← HA] at hs4
  rw [← HW5, ← HA]
  clear HW5 HA B4 hn1 hn6 hd1 hd2
  go_upto_block 2 with fail
  go_cut [27, 29] (fun c27 _ wd => ∃ (o : Nat → Bool), c27 = .int .i64 ((cntB o m6 : Nat) : Int) ∧ Hid (F6 wd A o) ∧ Hid (F6 wd (A + 1) (fun _ => false)) ∧ Hid (Below w.heap.size w wd))
  case first =>
    go_wp2_with fail
    go_loopw [27, 29] (fun c27 c29 wr => ∃ (j : Nat) (o : Nat → Bool), j ≤ nr ∧ c29 = .int .i64 j ∧ c27 = .int .i64 ((cntB o m6 : Nat) : Int) ∧ Hid (F6 wr A o) ∧ Hid (F6 wr (A + 1) (fun _ => false)) ∧ Hid (Below w.heap.size w wr)) (fun _ c29 _ => nr - (intOf c29).toNat)
    case atStart => exact ⟨0, _, Nat.zero_le _, rfl, by rw [cntB_none]; rfl, hA5, hB5, B5⟩
    case round =>
      obtain ⟨j, o, hj, rfl, rfl, HA, HA2, HB⟩ := hrel
      clear hA5 hB5 B5
      by_cases hlt : j < nr
      · have hjl : j < r.length := by rw [HNr.out]; exact hlt
        have hlti : (j : Int) < (nr : Int) := by omega
        obtain ⟨_, _, _, he, hrow⟩ := HRr.out.below HB.out
        cases he
        obtain ⟨b, ob, rfl, hbw, hat⟩ := hrow (fun h => by simp [h] at hjl)
        have hc := hat j hjl
        obtain ⟨x, HX⟩ : ∃ x, Hid (r[j] = x) := ⟨r[j], show r[j] = r[j] from rfl⟩
        rw [HX.out] at hc
        clear hrow hat
        obtain ⟨cn, HC⟩ : ∃ cn, Hid (cntB o m6 = cn) := ⟨_, rfl⟩
        have hcn : cn ≤ 6 := by rw [← HC.out]; exact Nat.le_trans (cntB_le _ _) hm6
        rw [HC.out]
        by_cases hx0 : 0 ≤ x
        · have hd1 : decide (0 ≤ x) = true := by simpa using hx0
          by_cases hxn : x < (m6 : Int)
          · have hd2 : decide (x < (m6 : Int)) = true := by simpa using hxn
            obtain ⟨k, rfl⟩ : ∃ k : Nat, x = k := ⟨x.toNat, by omega⟩
            have hk : k < m6 := by omega
            have hk6 : k < 6 := by omega
            have hk6i : (k : Int) < 6 := by omega
            have df := HA.out.cell k hk6
            have dz := HA.out.fz k
            cases hok : o k
            · rw [hok] at df
              have HS : Hid (F6 (wr.setCell ⟨A, k, none⟩ (.bool true)) A (upB o k)) := HA.out.set k hk6
              have HS2 : Hid (F6 (wr.setCell ⟨A, k, none⟩ (.bool true)) (A + 1) (fun _ => false)) := HA2.out.other (by omega) _
              have HSB : Hid (Below w.heap.size w (wr.setCell ⟨A, k, none⟩ (.bool true))) := HB.out.setCell (p := ⟨A, k, none⟩) (by show w.heap.size ≤ A; omega) _
              have HSC : Hid (cntB (upB o k) m6 = cn + 1) := by show _ = _; rw [cntB_up o k m6 hk hok, HC.out]
              go_wp2_with fail
              go_roundw
              case rel => exact ⟨j + 1, _, by omega, by go_num, by rw [HSC.out]; go_num, HS, HS2, HSB⟩
              case measure => simp [intOf]; omega
            · rw [hok] at df
              go_wp2_with fail
              go_roundw
              case rel => exact ⟨j + 1, o, by omega, by go_num, by rw [HC.out], HA, HA2, HB⟩
              case measure => simp [intOf]; omega
          · have hd2 : decide (x < (m6 : Int)) = false := by simpa using hxn
            go_wp2_with fail
            go_roundw
            case rel => exact ⟨j + 1, o, by omega, by go_num, by rw [HC.out], HA, HA2, HB⟩
            case measure => simp [intOf]; omega
        · have hd1 : decide (0 ≤ x) = false := by simpa using hx0
          go_wp2_with fail
          go_roundw
          case rel => exact ⟨j + 1, o, by omega, by go_num, by rw [HC.out], HA, HA2, HB⟩
          case measure => simp [intOf]; omega
      · obtain rfl : j = nr := by omega
        go_wp2_with fail
        go_meet
        exact ⟨o, rfl, HA, HA2, HB⟩
  case rest =>
  obtain ⟨oa, rfl, HA, HA2, HB⟩ := hcut
  obtain ⟨w6, hren⟩ : ∃ x, x = wc := ⟨_, rfl⟩
  subst hren
  clear hA5 hB5 B5
  obtain ⟨ca, HCa⟩ : ∃ ca, Hid (cntB oa m6 = ca) := ⟨_, rfl⟩
  have hca : ca ≤ m6 := by rw [← HCa.out]; exact cntB_le _ _
  rw [HCa.out]
  go_upto_block 4 with fail
  go_cut [28, 30] (fun c28 _ wd => ∃ (o : Nat → Bool), c28 = .int .i64 ((cntB o m6 : Nat) : Int) ∧ Hid (F6 wd A oa) ∧ Hid (F6 wd (A + 1) o) ∧ Hid (Below w.heap.size w wd))
  case first =>
    go_wp2_with fail
    go_loopw [28, 30] (fun c28 c30 wr => ∃ (j : Nat) (o : Nat → Bool), j ≤ nq ∧ c30 = .int .i64 j ∧ c28 = .int .i64 ((cntB o m6 : Nat) : Int) ∧ Hid (F6 wr A oa) ∧ Hid (F6 wr (A + 1) o) ∧ Hid (Below w.heap.size w wr)) (fun _ c30 _ => nq - (intOf c30).toNat)
    case atStart => exact ⟨0, _, Nat.zero_le _, rfl, by rw [cntB_none]; rfl, HA, HA2, HB⟩
    case round =>
      obtain ⟨j, o, hj, rfl, rfl, HA', HA2', HB'⟩ := hrel
      clear HA HA2 HB
      by_cases hlt : j < nq
      · have hjl : j < q.length := by rw [HNq.out]; exact hlt
        have hlti : (j : Int) < (nq : Int) := by omega
        obtain ⟨_, _, _, he, hrow⟩ := HRq.out.below HB'.out
        cases he
        obtain ⟨b, ob, rfl, hbw, hat⟩ := hrow (fun h => by simp [h] at hjl)
        have hc := hat j hjl
        obtain ⟨x, HX⟩ : ∃ x, Hid (q[j] = x) := ⟨q[j], show q[j] = q[j] from rfl⟩
        rw [HX.out] at hc
        clear hrow hat
        obtain ⟨cn, HC⟩ : ∃ cn, Hid (cntB o m6 = cn) := ⟨_, rfl⟩
        have hcn : cn ≤ 6 := by rw [← HC.out]; exact Nat.le_trans (cntB_le _ _) hm6
        rw [HC.out]
        by_cases hx0 : 0 ≤ x
        · have hd1 : decide (0 ≤ x) = true := by simpa using hx0
          by_cases hxn : x < (m6 : Int)
          · have hd2 : decide (x < (m6 : Int)) = true := by simpa using hxn
            obtain ⟨k, rfl⟩ : ∃ k : Nat, x = k := ⟨x.toNat, by omega⟩
            have hk : k < m6 := by omega
            have hk6 : k < 6 := by omega
            have hk6i : (k : Int) < 6 := by omega
            have df := HA2'.out.cell k hk6
            have dz := HA2'.out.fz k
            cases hok : o k
            · rw [hok] at df
              have HS : Hid (F6 (wr.setCell ⟨A + 1, k, none⟩ (.bool true)) (A + 1) (upB o k)) := HA2'.out.set k hk6
              have HS2 : Hid (F6 (wr.setCell ⟨A + 1, k, none⟩ (.bool true)) A oa) := HA'.out.other (by omega) _
              have HSB : Hid (Below w.heap.size w (wr.setCell ⟨A + 1, k, none⟩ (.bool true))) := HB'.out.setCell (p := ⟨A + 1, k, none⟩) (by show w.heap.size ≤ A + 1; omega) _
              have HSC : Hid (cntB (upB o k) m6 = cn + 1) := by show _ = _; rw [cntB_up o k m6 hk hok, HC.out]
              go_wp2_with fail
              go_roundw
              case rel => exact ⟨j + 1, _, by omega, by go_num, by rw [HSC.out]; go_num, HS2, HS, HSB⟩
              case measure => simp [intOf]; omega
            · rw [hok] at df
              go_wp2_with fail
              go_roundw
              case rel => exact ⟨j + 1, o, by omega, by go_num, by rw [HC.out], HA', HA2', HB'⟩
              case measure => simp [intOf]; omega
          · have hd2 : decide (x < (m6 : Int)) = false := by simpa using hxn
            go_wp2_with fail
            go_roundw
            case rel => exact ⟨j + 1, o, by omega, by go_num, by rw [HC.out], HA', HA2', HB'⟩
            case measure => simp [intOf]; omega
        · have hd1 : decide (0 ≤ x) = false := by simpa using hx0
          go_wp2_with fail
          go_roundw
          case rel => exact ⟨j + 1, o, by omega, by go_num, by rw [HC.out], HA', HA2', HB'⟩
          case measure => simp [intOf]; omega
      · obtain rfl : j = nq := by omega
        go_wp2_with fail
        go_meet
        exact ⟨o, rfl, HA', HA2', HB'⟩
  case rest =>
  obtain ⟨ob, rfl, HA', HA2', HB'⟩ := hcut
  obtain ⟨w7, hren⟩ : ∃ x, x = wc := ⟨_, rfl⟩
  subst hren
  clear HA HA2 HB
  obtain ⟨cb, HCb⟩ : ∃ cb, Hid (cntB ob m6 = cb) := ⟨_, rfl⟩
  have hcb : cb ≤ m6 := by rw [← HCb.out]; exact cntB_le _ _
  rw [HCb.out]
  have HE : Hid (meetE m6 ca cb = 0) := by show _ = _; rw [meetE, if_pos (by omega)]
  obtain ⟨mt, HM⟩ : ∃ mt, Hid (meetB m6 ca cb = mt) := ⟨_, rfl⟩
  go_wp2_with fail
  refine (I.meet HE.out HM.out).mono ?_
  rintro e w8 ⟨rfl, hb⟩
  rw [eV_zeroP]
  have B8 : Hid (Below w.heap.size w w8) := HB'.out.trans (hb.mono HB'.out.size)
  have A8 : Hid (F6 w8 A oa) := HA'.out.grown hb
  have A9 : Hid (F6 w8 (A + 1) ob) := HA2'.out.grown hb
  clear hb HA' HA2' HB'
  go_upto_block 6 with fail
  go_cut [33, 34] (fun c33 _ wd => c33 = .bool (bothB oa ob m6) ∧ wd = w8)
  case first =>
    go_wp2_with fail
    go_loopw [33, 34] (fun c33 c34 wr => wr = w8 ∧ ∃ j : Nat, j ≤ m6 ∧ c34 = .int .i64 j ∧ c33 = .bool (bothB oa ob j)) (fun _ c34 _ => m6 - (intOf c34).toNat)
    case atStart => exact ⟨rfl, 0, Nat.zero_le _, rfl, rfl⟩
    case round =>
      obtain ⟨hwr, j, hj, rfl, rfl⟩ := hrel
      subst hwr
      by_cases hlt : j < m6
      · have hlti : (j : Int) < (m6 : Int) := by omega
        have ha := A8.out.cell j (by omega)
        have hb := A9.out.cell j (by omega)
        have HS : Hid (bothB oa ob (j + 1) = (bothB oa ob j || (oa j && ob j))) := rfl
        have hj6 : (j : Int) < 6 := by omega
        generalize bothB oa ob j = sb at HS ⊢
        generalize oa j = xa at HS ha
        generalize ob j = xb at HS hb
        cases sb
        · cases xa
          · go_wp2_with fail
            go_roundw
            case rel => exact ⟨by trivial, j + 1, by omega, by go_num, by rw [HS.out]; rfl⟩
            case measure => simp [intOf]; omega
          · go_wp2_with fail
            go_roundw
            case rel => exact ⟨by trivial, j + 1, by omega, by go_num, by rw [HS.out]; rfl⟩
            case measure => simp [intOf]; omega
        · go_wp2_with fail
          go_roundw
          case rel => exact ⟨by trivial, j + 1, by omega, by go_num, by rw [HS.out]; rfl⟩
          case measure => simp [intOf]; omega
      · obtain rfl : j = m6 := by omega
        go_wp2_with fail
        go_meet
        exact ⟨rfl, rfl⟩
  case rest =>
  obtain ⟨rfl, hwc⟩ := hcut
  subst hwc
  obtain ⟨sb, HSb⟩ : ∃ sb, Hid (bothB oa ob m6 = sb) := ⟨_, rfl⟩
  rw [HSb.out]
  have hfin : mt = true → sb = true := by
    intro hmt
    cases hsb : sb
    · have h1 := cntB_meet oa ob m6 (by rw [HSb.out]; exact hsb)
      rw [HCa.out, HCb.out] at h1
      have h2 := HM.out
      rw [hmt, meetB, Bool.and_eq_true] at h2
      have h3 := of_decide_eq_true h2.2
      omega
    · rfl
  cases mt
  · go_wp2_with fail
    go_ret
    exact ⟨rfl, B8.out⟩
  · obtain rfl := hfin rfl
    go_wp2_with fail
    go_ret
    exact ⟨rfl, B8.out⟩
end Go.Proofs.Ytliaidgedjjobaa
