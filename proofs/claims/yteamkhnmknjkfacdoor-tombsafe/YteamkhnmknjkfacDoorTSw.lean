/-
  The walk of merelaw1.TombSafe.
-/
import Derived.Test.YteamkhnmknjkfacDoorTS
namespace Go.Proofs.YteamkhnmknjkfacDoor
set_option linter.unusedVariables false
set_option linter.unusedSimpArgs false
open Go.RowKit

theorem err_five (w : World) (hg : HasErr w) : Calls Tryd.prog 8 #[.iface 64 (.int .i64 5), .int .i64 5] w fun e w' => e = .returned (.bool true) ∧ Below w.heap.size w w' := err_same 5 w hg
theorem err_seven (w : World) (hg : HasErr w) : Calls Tryd.prog 8 #[.iface 64 (.int .i64 7), .int .i64 7] w fun e w' => e = .returned (.bool true) ∧ Below w.heap.size w w' := err_same 7 w hg
theorem getS_five {l : List En} {key : Int} (h : cacheGet l key = (⟨0, 0, 0, false, ⟨#[]⟩⟩, 5)) (v : Value) (w : World) (hr : RowIs w v l) :
    Calls Tryd.prog 23 #[v, .int .i64 key] w fun e w' => e = .returned (.tuple #[.agg #[.int .i64 0, .int .i64 0, .int .i64 0, .bool false, .string ⟨#[]⟩], .iface 64 (.int .i64 5)]) ∧ Below w.heap.size w w' := getS h v w hr
theorem both_fineS {a b R1 : List En} (h : cacheBoth a b = (R1, 0)) (va vb : Value) (w : World) (hra : RowIs w va a) (hrb : RowIs w vb b) :
    Calls Tryd.prog 24 #[va, vb] w fun e w' => ∃ v', e = .returned (.tuple #[v', .nilIface]) ∧ RowIs w' v' R1 ∧ Below w.heap.size w w' :=
  (both_o h va vb w hra hrb).mono fun _ _ ⟨v', he, ho, hb⟩ => ⟨v', he, RowIs.own ho, hb⟩
theorem both_sevenS {a b R1 : List En} (h : cacheBoth a b = (R1, 7)) (va vb : Value) (w : World) (hra : RowIs w va a) (hrb : RowIs w vb b) :
    Calls Tryd.prog 24 #[va, vb] w fun e w' => ∃ v', e = .returned (.tuple #[v', .iface 64 (.int .i64 7)]) ∧ RowIs w' v' R1 ∧ Below w.heap.size w w' :=
  (both_o h va vb w hra hrb).mono fun _ _ ⟨v', he, ho, hb⟩ => ⟨v', he, RowIs.own ho, hb⟩
theorem row_gone {w : World} {b : Nat} (hbx : BoxAt w b 4 3 9 true ⟨#[]⟩) : RowIs w (.slice (some ⟨b, 0, none⟩) 1 1) [goneE] := by
  refine ⟨by simp [maxLen], _, 1, rfl, fun _ => ⟨b, 0, rfl, hbx.lt, fun j hj => ?_⟩⟩
  obtain rfl : j = 0 := by simpa using hj
  exact ⟨hbx.c0, hbx.c1, hbx.c2, hbx.c3, hbx.c4⟩
theorem rows_two {w : World} {b : Nat} {v : Value} {l : List En} (h0 : w.cell? ⟨b, 0, none⟩ = some v) (h1 : w.cell? ⟨b, 1, none⟩ = some v) (hr : RowIs w v l) : RowsIs w (.slice (some ⟨b, 0, none⟩) 2 2) [l, l] := by
  refine ⟨by simp [maxLen], _, 2, rfl, fun _ => ⟨b, 0, rfl, World.block_lt_of_cell? w _ h0, fun j hj => ?_⟩⟩
  match j, hj with
  | 0, _ => exact ⟨v, h0, hr⟩
  | 1, _ => exact ⟨v, h1, hr⟩

set_option maxRecDepth 100000 in
set_option maxHeartbeats 8000000 in
theorem tsafe_walk (vl : Value) (ls : List (List En)) (key : Int) (w : World) (hrl : RowsIs w vl ls) (hg : HasErr w) :
    Calls Tryd.prog 5 #[vl, .int .i64 key] w fun e w' => e = .returned (.bool true) ∧ Below w.heap.size w w' := by
  have HG : Hid (HasErr w) := hg
  have hlt := hg.lt
  have HL : Hid (RowsIs w vl ls) := hrl
  clear hg
  obtain ⟨hlen, p, cap, rfl, hrow⟩ := hrl
  have HRow : Hid (ls ≠ [] → ∃ b o, p = some ⟨b, o, none⟩ ∧ b < w.heap.size ∧ ∀ j (h : j < ls.length), ∃ u, w.cell? ⟨b, o + j, none⟩ = some u ∧ RowIs w u ls[j]) := hrow
  clear hrow
  obtain ⟨n, HN⟩ : ∃ n, Hid (ls.length = n) := ⟨_, rfl⟩
  rw [HN.out] at hlen HL ⊢
  have hn63 : n ≤ 9223372036854775807 := hlen
  obtain ⟨XS, E1, HSf⟩ : ∃ XS E1, Hid (tombSafe ls = (XS, E1)) := ⟨_, _, rfl⟩
  obtain ⟨M1, F1, HMk⟩ : ∃ M1 F1, Hid (tombMark ls key = (M1, F1)) := ⟨_, _, rfl⟩
  obtain ⟨inb, HIn⟩ : ∃ b, Hid (XS.contains key = b) := ⟨_, rfl⟩
  go_enter Tryd.func5, Tryd.ntmps5
  -- the fact
  go_upto_region 2 with fail
  obtain ⟨w1, HW1⟩ : ∃ W, W = w.alloc (.cells #[.int .i64 4, .int .i64 3, .int .i64 9, .bool true, .string ⟨#[]⟩] 40) := ⟨_, rfl⟩
  rw [← HW1]
  obtain ⟨bg, HBg⟩ : ∃ b, b = w.heap.size := ⟨_, rfl⟩
  have hE : w.heap.size = bg := HBg.symm
  have B1 : Hid (Below w.heap.size w w1) := by rw [HW1]; exact (Below.refl _ w).alloc (Nat.le_refl _) _
  have R1 : Hid (RowIs w1 (.slice (some ⟨w.heap.size, 0, none⟩) 1 1) [goneE]) := by
    have hbx : BoxAt w1 w.heap.size 4 3 9 true ⟨#[]⟩ := by rw [HW1]; exact box_new w 4 3 9 true ⟨#[]⟩ _ rfl
    exact row_gone hbx
  clear HW1 hE HBg
  have HB2 : Hid (Below w1.heap.size w1 (w1.alloc (.cells #[.slice (some ⟨w.heap.size, 0, none⟩) 1 1, .slice (some ⟨w.heap.size, 0, none⟩) 1 1] 23))) := (Below.refl _ w1).alloc (Nat.le_refl _) _
  have HRs : Hid (RowsIs (w1.alloc (.cells #[.slice (some ⟨w.heap.size, 0, none⟩) 1 1, .slice (some ⟨w.heap.size, 0, none⟩) 1 1] 23)) (.slice (some ⟨w1.heap.size, 0, none⟩) 2 2) [[goneE], [goneE]]) := rows_two (by simp) (by simp) (R1.out.below HB2.out)
  go_wp2_with fail
  refine (tmark_ok fact_mark _ _ HRs.out).mono ?_
  rintro e w2 ⟨rfl, hb⟩
  have hb2 := HB2.out.trans (hb.mono HB2.out.size)
  have B2 : Hid (Below w.heap.size w w2) := B1.out.trans (hb2.mono B1.out.size)
  have R2 : Hid (RowIs w2 (.slice (some ⟨w.heap.size, 0, none⟩) 1 1) [goneE]) := R1.out.below hb2
  clear hb hb2 HB2 HRs R1 B1
  go_wp2_with fail
  refine (tsweep_ok fact_sweep _ _ R2.out).mono ?_
  rintro e w3 ⟨v8, v9, rfl, hr8, hi9, hb⟩
  have B3 : Hid (Below w.heap.size w w3) := B2.out.trans (hb.mono B2.out.size)
  obtain ⟨_, p8, cap8, rfl, _⟩ := hr8
  obtain ⟨_, p9, cap9, rfl, hrow9⟩ := hi9
  obtain ⟨b9, o9, rfl, _, hc9⟩ := hrow9 (by simp)
  have c9 : w3.cell? ⟨b9, o9, none⟩ = some (.int .i64 4) := hc9 0 (by simp)
  clear hb hrow9 hc9 R2 B2
  simp only [List.length_nil, List.length_cons, List.length_singleton, Nat.zero_add]
  go_upto_region 6 with fail
  clear c9
  by_cases hE1 : E1 = 0
  · subst hE1
    go_wp2_with fail
    refine (tsafe_ok HSf.out _ _ (HL.out.below B3.out)).mono ?_
    rintro e w4 ⟨v4, rfl, hi, hb⟩
    have I4 : Hid (IntsIs w4 v4 XS) := hi
    have B4 : Hid (Below w.heap.size w w4) := B3.out.trans (hb.mono B3.out.size)
    clear hb hi B3
    by_cases hF1 : F1 = 0
    · subst hF1
      go_wp2_with fail
      refine (tmark_ok HMk.out _ _ (HL.out.below B4.out)).mono ?_
      rintro e w5 ⟨rfl, hb⟩
      have I5 : Hid (IntsIs w5 v4 XS) := I4.out.below hb
      have B5 : Hid (Below w.heap.size w w5) := B4.out.trans (hb.mono B4.out.size)
      clear hb I4 B4
      go_wp2_with fail
      refine (in_s HIn.out _ _ I5.out).mono ?_
      rintro e w6 ⟨rfl, hb⟩
      have B6 : Hid (Below w.heap.size w w6) := B5.out.trans (hb.mono B5.out.size)
      clear hb I5 B5
      cases inb
      · have hm0 : decide (0 ≤ M1) = true := by simpa using (mark_in HMk.out).2
        go_wp2_with fail
        go_ret
        exact ⟨by simp, B6.out⟩
      · have HMr : Hid (badLs ls = 0 ∧ isKeyB key = true ∧ M1 = markFrom key 1000 ls) := mark_right HMk.out
        have HMb : Hid (markB M1 = true) := (mark_in HMk.out).1
        have HSn : Hid (∀ l ∈ ls, getE (keptL M1 l) key = none) := swept_none HMk.out HSf.out HIn.out
        have HGd : Hid (∀ l ∈ ls, badL l = 0) := (badLs_good HMr.out.1).all
        go_upto_block 0 with fail
        go_cut [15] (fun v15 wc => ∃ (V : Value) (A : List En), v15 = V ∧ Hid (RowIs wc V A) ∧ Hid (GoodL A ∧ getE A key = none) ∧ Hid (Below w.heap.size w wc))
        case first =>
          go_wp2_with fail
          go_loopw [15, 16] (fun s15 s16 wr => ∃ (j : Nat) (v15 : Value) (A : List En), s15 = v15 ∧ j ≤ n ∧ s16 = .int .i64 j ∧ Hid (RowIs wr v15 A) ∧ Hid (GoodL A ∧ getE A key = none) ∧ Hid (Below w.heap.size w wr)) (fun _ i _ => n - (intOf i).toNat)
          case atStart => exact ⟨0, .slice none 0 0, [], rfl, Nat.zero_le _, rfl, RowIs.nil _, ⟨goodL_nil, rfl⟩, B6⟩
          case round =>
            obtain ⟨j, v15, A, hs15, hj, rfl, HA, HGA, HB⟩ := hrel
            have hs15' := hs15.symm
            clear hs15
            subst hs15'
            clear B6
            by_cases hlt1 : j < n
            · have hjl : j < ls.length := by rw [HN.out]; exact hlt1
              have hlti : (j : Int) < (n : Int) := by omega
              obtain ⟨b, o, rfl, hbw, hat⟩ := HRow.out (fun h => by simp [h] at hjl)
              obtain ⟨u, hu, hru⟩ := hat j hjl
              have c0 : wr.cell? ⟨b, o + j, none⟩ = some u := (World.cell?_of_block (a := ⟨b, o + j, none⟩) (HB.out.block b hbw)).trans hu
              have HU : Hid (RowIs wr u ls[j]) := hru.below HB.out
              have HNone : Hid (getE (keptL M1 ls[j]) key = none) := HSn.out _ (List.getElem_mem _)
              have HBd : Hid (badL ls[j] = 0) := HGd.out _ (List.getElem_mem _)
              clear hat hu hru
              obtain ⟨l, HX⟩ : ∃ l, Hid (ls[j] = l) := ⟨ls[j], show ls[j] = ls[j] from rfl⟩
              rw [HX.out] at HU HNone HBd
              clear HX
              have HSwp : Hid (tombSweep l M1 = (keptL M1 l, sweptL M1 l, 0)) := sweep_fine HBd.out HMb.out
              have HKg : Hid (GoodL (keptL M1 l)) := kept_good (badL_good HBd.out)
              have HG5 : Hid (cacheGet (keptL M1 l) key = (⟨0, 0, 0, false, ⟨#[]⟩⟩, 5)) := get_five HKg.out HMr.out.2.1 HNone.out
              generalize keptL M1 l = L at HSwp HKg HG5 HNone
              generalize sweptL M1 l = K at HSwp
              go_wp2_with fail
              refine (tsweep_ok HSwp.out _ _ HU.out).mono ?_
              rintro e w7 ⟨v7, v7', rfl, hr7, _, hb⟩
              have R7 : Hid (RowIs w7 v7 L) := hr7
              have A7 : Hid (RowIs w7 v15 A) := HA.out.below hb
              have B7 : Hid (Below w.heap.size w w7) := HB.out.trans (hb.mono HB.out.size)
              clear hb hr7 HA HB HU c0
              go_wp2_with fail
              refine (getS_five HG5.out _ _ R7.out).mono ?_
              rintro e w8 ⟨rfl, hb⟩
              have R8 : Hid (RowIs w8 v7 L) := R7.out.below hb
              have A8 : Hid (RowIs w8 v15 A) := A7.out.below hb
              have B8 : Hid (Below w.heap.size w w8) := B7.out.trans (hb.mono B7.out.size)
              clear hb R7 A7 B7
              go_wp2_with fail
              refine (err_five _ (HG.out.below hlt B8.out)).mono ?_
              rintro e w9 ⟨rfl, hb⟩
              have R9 : Hid (RowIs w9 v7 L) := R8.out.below hb
              have A9 : Hid (RowIs w9 v15 A) := A8.out.below hb
              have B9 : Hid (Below w.heap.size w w9) := B8.out.trans (hb.mono B8.out.size)
              clear hb R8 A8 B8
              obtain ⟨D1, D2, HD⟩ : ∃ D1 D2, Hid (cacheBoth A L = (D1, D2)) := ⟨_, _, rfl⟩
              by_cases hD : D2 = 0
              · subst hD
                have HGn : Hid (GoodL D1 ∧ getE D1 key = none) := merged_none HD.out HGA.out.2 HNone.out
                go_wp2_with fail
                refine (both_fineS HD.out _ _ _ A9.out R9.out).mono ?_
                rintro e w10 ⟨v10, rfl, hr10, hb⟩
                have R10 : Hid (RowIs w10 v10 D1) := hr10
                have B10 : Hid (Below w.heap.size w w10) := B9.out.trans (hb.mono B9.out.size)
                clear hb hr10 R9 A9 B9
                go_wp2_with fail
                go_roundw
                case rel => exact ⟨j + 1, v10, D1, rfl, by omega, by go_num, R10, HGn, B10⟩
                case measure => simp [intOf]; omega
              · obtain rfl : D2 = 7 := both_seven HGA.out.1 HKg.out HD.out hD
                go_wp2_with fail
                refine (both_sevenS HD.out _ _ _ A9.out R9.out).mono ?_
                rintro e w10 ⟨v10, rfl, hr10, hb⟩
                have B10 : Hid (Below w.heap.size w w10) := B9.out.trans (hb.mono B9.out.size)
                clear hb hr10 R9 A9 B9
                go_wp2_with fail
                refine (err_seven _ (HG.out.below hlt B10.out)).mono ?_
                rintro e w11 ⟨rfl, hb⟩
                have B11 : Hid (Below w.heap.size w w11) := B10.out.trans (hb.mono B10.out.size)
                clear hb B10
                go_wp2_with fail
                go_ret
                exact ⟨rfl, B11.out⟩
            · obtain rfl : j = n := by omega
              go_wp2_with fail
              go_meet
              case rel => exact ⟨v15, A, rfl, HA, HGA, HB⟩
        case rest =>
          obtain ⟨w7, h⟩ : ∃ x, x = wc := ⟨_, rfl⟩
          subst h
          obtain ⟨V, A, hV, A7, HGA, B7⟩ := hcut
          have hV' := hV.symm
          clear hV
          subst hV'
          have HG5 : Hid (cacheGet A key = (⟨0, 0, 0, false, ⟨#[]⟩⟩, 5)) := get_five HGA.out.1 HMr.out.2.1 HGA.out.2
          go_wp2_with fail
          refine (getS_five HG5.out _ _ A7.out).mono ?_
          rintro e w8 ⟨rfl, hb⟩
          have B8 : Hid (Below w.heap.size w w8) := B7.out.trans (hb.mono B7.out.size)
          clear hb A7 B7
          go_upto_region 29 with fail
          obtain ⟨w9, HW9⟩ : ∃ W, W = w8.alloc (.cells #[.int .i64 0, .int .i64 0, .int .i64 0, .bool false, .string ⟨#[]⟩] 40) := ⟨_, rfl⟩
          rw [← HW9]
          have B9 : Hid (Below w.heap.size w w9) := by rw [HW9]; exact B8.out.alloc B8.out.size _
          clear HW9 B8
          go_wp2_with fail
          refine (err_five _ (HG.out.below hlt B9.out)).mono ?_
          rintro e w10 ⟨rfl, hb⟩
          have B10 : Hid (Below w.heap.size w w10) := B9.out.trans (hb.mono B9.out.size)
          clear hb B9
          go_wp2_with fail
          go_ret
          exact ⟨rfl, B10.out⟩
    · go_wp2_with fail
      refine (tmark_err HMk.out hF1 _ _ (HL.out.below B4.out)).mono ?_
      rintro e w5 ⟨rfl, hb⟩
      have B5 : Hid (Below w.heap.size w w5) := B4.out.trans (hb.mono B4.out.size)
      clear hb B4 I4
      go_wp2_with fail
      go_ret
      exact ⟨rfl, B5.out⟩
  · go_wp2_with fail
    refine (tsafe_err HSf.out hE1 _ _ (HL.out.below B3.out)).mono ?_
    rintro e w4 ⟨v4, rfl, hi, hb⟩
    have B4 : Hid (Below w.heap.size w w4) := B3.out.trans (hb.mono B3.out.size)
    clear hb hi B3
    go_wp2_with fail
    go_ret
    exact ⟨rfl, B4.out⟩
end Go.Proofs.YteamkhnmknjkfacDoor
