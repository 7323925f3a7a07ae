/-
  The walk of merelaw1.TombTells.
-/
import Derived.Test.YteamkhnmknjkfacDoorTT
namespace Go.Proofs.YteamkhnmknjkfacDoor
set_option linter.unusedVariables false
set_option linter.unusedSimpArgs false
open Go.RowKit

set_option maxRecDepth 100000 in
set_option maxHeartbeats 8000000 in
theorem ttells_walk (vl : Value) (ls : List (List En)) (key : Int) (vm : Value) (m : List En) (mark : Int) (w : World) (hrl : RowsIs w vl ls) (hrm : RowIs w vm m) (hg : HasErr w) :
    Calls Tryd.prog 4 #[vl, .int .i64 key, vm, .int .i64 mark] w fun e w' => e = .returned (.bool true) ∧ Below w.heap.size w w' := by
  have HG : Hid (HasErr w) := hg
  have hlt := hg.lt
  have HL : Hid (RowsIs w vl ls) := hrl
  have HMm : Hid (RowIs w vm m) := hrm
  clear hg
  obtain ⟨hlen, p, cap, rfl, hrow⟩ := hrl
  have HRow : Hid (ls ≠ [] → ∃ b o, p = some ⟨b, o, none⟩ ∧ b < w.heap.size ∧ ∀ j (h : j < ls.length), ∃ u, w.cell? ⟨b, o + j, none⟩ = some u ∧ RowIs w u ls[j]) := hrow
  clear hrow
  obtain ⟨n, HN⟩ : ∃ n, Hid (ls.length = n) := ⟨_, rfl⟩
  rw [HN.out] at hlen HL ⊢
  have hn63 : n ≤ 9223372036854775807 := hlen
  obtain ⟨hlenm, pm, capm, rfl, hrowm⟩ := hrm
  have HRowM : Hid (m ≠ [] → ∃ b o, pm = some ⟨b, o, none⟩ ∧ b < w.heap.size ∧ ∀ j (h : j < m.length), EnAt w b (o + j * 5) m[j]) := hrowm
  clear hrowm
  obtain ⟨nm, HNm⟩ : ∃ nm, Hid (m.length = nm) := ⟨_, rfl⟩
  rw [HNm.out] at hlenm HMm ⊢
  have hnm63 : nm ≤ 9223372036854775807 := hlenm
  obtain ⟨XS, HSf0⟩ := safe_e ls
  obtain ⟨E1, HE1⟩ : ∃ n, Hid (badLs ls = n) := ⟨_, rfl⟩
  have HSf : Hid (tombSafe ls = (XS, E1)) := by show _ = _; rw [← HE1.out]; exact HSf0
  clear HSf0
  obtain ⟨kb, HKb⟩ : ∃ b, Hid (isKeyB key = b) := ⟨_, rfl⟩
  obtain ⟨M1, F1, HMk⟩ : ∃ M1 F1, Hid (tombMark ls key = (M1, F1)) := ⟨_, _, rfl⟩
  obtain ⟨E2, HE2⟩ : ∃ n, Hid (badL m = n) := ⟨_, rfl⟩
  obtain ⟨SL, SK, E3, HSw⟩ : ∃ SL SK E3, Hid (tombSweep m mark = (SL, SK, E3)) := ⟨_, _, _, rfl⟩
  go_enter Tryd.func4, Tryd.ntmps4
  go_wp2_with fail
  refine (rCaches_o HE1.out _ _ HL.out).mono ?_
  rintro e w1 ⟨rfl, hb⟩
  have B1 : Hid (Below w.heap.size w w1) := hb
  clear hb
  go_wp2_with fail
  refine (refKey_t HKb.out _).mono ?_
  rintro e w2 ⟨rfl, hb⟩
  have B2 : Hid (Below w.heap.size w w2) := B1.out.trans (hb.mono B1.out.size)
  clear hb B1
  -- is the key wrong alone?
  go_upto_region 4 with fail
  go_cut [45] (fun c wc => ∃ cb : Bool, c = .bool cb ∧ Hid (cb = ((E1 == 0) && !kb)) ∧ Hid (Below w.heap.size w wc))
  case first =>
    as_aux_lemma =>
      by_cases h0 : E1 = 0
      · have hd0 : (E1 == 0) = true := by simpa using h0
        clear h0
        go_wp2_with fail
        go_meet
        case rel => exact ⟨_, rfl, (by show _ = _; rw [hd0]; rfl), B2⟩
      · have hd0 : (E1 == 0) = false := by simpa using h0
        clear h0
        go_wp2_with fail
        go_meet
        case rel => exact ⟨_, rfl, (by show _ = _; rw [hd0]; rfl), B2⟩
  case rest =>
    obtain ⟨w3, h⟩ : ∃ x, x = wc := ⟨_, rfl⟩
    subst h
    obtain ⟨cb, rfl, HCb, B3⟩ := hcut
    clear B2
    go_upto_if 45 with fail
    go_cut [10] (fun v10 wc => v10 = .int .i64 F1 ∧ Hid (Below w.heap.size w wc))
    case first =>
      as_aux_lemma =>
        cases cb
        · have HF1 : Hid (F1 = E1) := by
            show F1 = E1
            have h := HCb.out
            rw [mark_e HMk.out, HE1.out, HKb.out]
            by_cases h0 : E1 = 0
            · subst h0
              cases kb
              · cases h
              · rfl
            · rw [if_neg h0]
          go_wp2_with fail
          go_meet
          case rel => exact ⟨by rw [HF1.out], B3⟩
        · have HF1 : Hid (F1 = 1) := by
            show F1 = 1
            have h := HCb.out
            rw [mark_e HMk.out, HE1.out, HKb.out]
            by_cases h0 : E1 = 0
            · subst h0
              cases kb
              · rfl
              · cases h
            · have : (E1 == 0) = false := by simpa using h0
              rw [this] at h
              cases h
          go_wp2_with fail
          go_meet
          case rel => exact ⟨by rw [HF1.out], B3⟩
    case rest =>
      obtain ⟨w4, h⟩ : ∃ x, x = wc := ⟨_, rfl⟩
      subst h
      obtain ⟨rfl, B4⟩ := hcut
      clear HCb B3
      -- the mark
      go_upto_if 47 with fail
      go_cut [12] (fun v12 wc => v12 = .int .i64 M1 ∧ Hid (Below w.heap.size w wc))
      case first =>
        as_aux_lemma =>
          by_cases hf : F1 = 0
          · have hfb : (F1 == 0) = true := by simp [hf]
            have HM0 : Hid (badLs ls = 0 ∧ M1 = wantE key ls) := mark_zero HMk.out hf
            clear hf
            go_wp2_with fail
            rw [hfb]
            go_loopw [12, 13] (fun s12 s13 wr => ∃ (j : Nat) (q : Int), s12 = .int .i64 q ∧ j ≤ n ∧ s13 = .int .i64 j ∧ Hid (q = wantE key (ls.take j)) ∧ Hid (Below w.heap.size w wr)) (fun _ i _ => n - (intOf i).toNat)
            case atStart => exact ⟨0, 1000, rfl, Nat.zero_le _, rfl, rfl, B4⟩
            case round =>
              obtain ⟨j, q, rfl, hj, rfl, HQ, HB⟩ := hrel
              by_cases hlt1 : j < n
              · have hjl : j < ls.length := by rw [HN.out]; exact hlt1
                have hlti : (j : Int) < (n : Int) := by omega
                obtain ⟨b, o, rfl, hbw, hat⟩ := HRow.out (fun h => by simp [h] at hjl)
                obtain ⟨u, hu, hru⟩ := hat j hjl
                have c0 : wr.cell? ⟨b, o + j, none⟩ = some u := (World.cell?_of_block (a := ⟨b, o + j, none⟩) (HB.out.block b hbw)).trans hu
                have HU : Hid (RowIs wr u ls[j]) := hru.below HB.out
                clear hat hu hru
                have HSt : Hid (wantE key (ls.take (j + 1)) = wantStep key q ls[j]) := by show _ = _; rw [HQ.out]; exact wantE_take hjl
                obtain ⟨l, HX⟩ : ∃ l, Hid (ls[j] = l) := ⟨ls[j], show ls[j] = ls[j] from rfl⟩
                rw [HX.out] at HU HSt
                clear HX
                obtain ⟨x0, x1, x2, x3, x4, HH⟩ : ∃ x0 x1 x2 x3 x4, Hid (hadE (getE l key) = ⟨x0, x1, x2, x3, x4⟩) := ⟨_, _, _, _, _, rfl⟩
                obtain ⟨is, HI⟩ : ∃ b, Hid ((getE l key).isSome = b) := ⟨_, rfl⟩
                go_wp2_with fail
                refine (rGet_t HH.out HI.out _ _ HU.out).mono ?_
                rintro e w5 ⟨rfl, hb⟩
                have B5 : Hid (Below w.heap.size w w5) := HB.out.trans (hb.mono HB.out.size)
                clear hb c0 HB
                go_upto_region 13 with fail
                obtain ⟨w6, HW6⟩ : ∃ w6, w6 = w5.alloc (.cells #[.int .i64 x0, .int .i64 x1, .int .i64 x2, .bool x3, .string x4] 40) := ⟨_, rfl⟩
                rw [← HW6]
                obtain ⟨bx, HBx⟩ : ∃ bx, bx = w5.heap.size := ⟨_, rfl⟩
                rw [← HBx]
                have B6 : Hid (Below w.heap.size w w6) := by rw [HW6]; exact B5.out.alloc B5.out.size _
                have X6 : Hid (BoxAt w6 bx x0 x1 x2 x3 x4) := by rw [HW6]; exact box_new w5 x0 x1 x2 x3 x4 bx HBx
                clear HW6 HBx B5
                obtain ⟨d0, d1, d2, d3, d4, df⟩ := X6.out
                cases is
                · have HW : Hid (0 = wantE key (ls.take (j + 1))) := by show _ = _; rw [HSt.out, want_none HI.out]
                  go_wp2_with fail
                  go_roundw
                  case rel => exact ⟨j + 1, 0, rfl, by omega, by go_num, HW, B6⟩
                  case measure => simp [intOf]; omega
                · have HW : Hid ((if x2 < q then x2 else q) = wantE key (ls.take (j + 1))) := by show _ = _; rw [HSt.out, want_some HH.out HI.out]
                  by_cases hx : x2 < q
                  · rw [if_pos hx] at HW
                    go_wp2_with fail
                    go_roundw
                    case rel => exact ⟨j + 1, x2, rfl, by omega, by go_num, HW, B6⟩
                    case measure => simp [intOf]; omega
                  · rw [if_neg hx] at HW
                    go_wp2_with fail
                    go_roundw
                    case rel => exact ⟨j + 1, q, rfl, by omega, by go_num, HW, B6⟩
                    case measure => simp [intOf]; omega
              · obtain rfl : j = n := by omega
                have HW : Hid (q = M1) := by
                  show q = M1
                  rw [HM0.out.2, HQ.out, ← HN.out, List.take_length]
                go_wp2_with fail
                go_meet
                case rel => exact ⟨by rw [HW.out], HB⟩
          · have hfb : (F1 == 0) = false := by simp [hf]
            have HM0 : Hid (M1 = 0) := mark_non HMk.out hf
            clear hf
            go_wp2_with fail
            go_meet
            case rel => exact ⟨by rw [HM0.out], B4⟩
      case rest =>
        obtain ⟨w5, h⟩ : ∃ x, x = wc := ⟨_, rfl⟩
        subst h
        obtain ⟨rfl, B5⟩ := hcut
        clear B4
        have hmm : (M1 == M1) = true := by simp
        go_wp2_with fail
        refine (tmark_p HMk.out _ _ (HL.out.below B5.out)).mono ?_
        rintro e w6 ⟨rfl, hb⟩
        have B6 : Hid (Below w.heap.size w w6) := B5.out.trans (hb.mono B5.out.size)
        clear hb B5
        go_wp2_with fail
        refine (err_same F1 _ (HG.out.below hlt B6.out)).mono ?_
        rintro e w7 ⟨rfl, hb⟩
        have B7 : Hid (Below w.heap.size w w7) := B6.out.trans (hb.mono B6.out.size)
        clear hb B6
        -- the keys that are safe
        go_upto_block 2 with fail
        clear hmm
        go_cut [19] (fun v19 wc => ∃ V : Value, v19 = V ∧ Hid (IntsIs wc V XS) ∧ Hid (Below w.heap.size w wc))
        case first =>
          as_aux_lemma =>
            go_wp2_with fail
            go_loopw [19, 20] (fun s19 s20 wr => ∃ (k : Nat) (v19 : Value), s19 = v19 ∧ k ≤ 8 ∧ s20 = .int .i64 k ∧ Hid (E1 ≠ 0 → k = 0) ∧ Hid (wr.ownsRow w.heap.size 3 1 v19 (safeK ls k).length (intC (safeK ls k))) ∧ Hid (Below w.heap.size w wr)) (fun _ i _ => 8 - (intOf i).toNat)
            case atStart => exact ⟨0, .slice none 0 0, rfl, Nat.zero_le _, rfl, fun _ => rfl, World.ownsRow_nil _ _ _ _, B7⟩
            case round =>
              obtain ⟨k, v19, hs19, hk, rfl, HK0, HO, HB⟩ := hrel
              have hs19' := hs19.symm
              clear hs19
              subst hs19'
              clear B7
              by_cases hf : E1 = 0
              · have hfb : (E1 == 0) = true := by simp [hf]
                have HE0 : Hid (E1 = 0) := hf
                have HGs : Hid (GoodLs ls) := badLs_good (by rw [HE1.out]; exact hf)
                clear hf
                by_cases hk8 : k < 8
                · have hk8i : decide ((k : Int) < 8) = true := by simp; omega
                  have hpos : 0 < ls.length := HGs.out.pos
                  have hposi : (0 : Int) < (n : Int) := by rw [← HN.out]; omega
                  obtain ⟨b, o, rfl, hbw, hat⟩ := HRow.out (fun h => by simp [h] at hpos)
                  have HAt : Hid (∀ j (h : j < ls.length), ∃ u, w.cell? ⟨b, o + j, none⟩ = some u ∧ RowIs w u ls[j]) := hat
                  obtain ⟨u, hu, hru⟩ := hat 0 hpos
                  rw [Nat.add_zero] at hu
                  have c0 : wr.cell? ⟨b, o, none⟩ = some u := (World.cell?_of_block (a := ⟨b, o, none⟩) (HB.out.block b hbw)).trans hu
                  obtain ⟨l, HX⟩ : ∃ l, Hid (ls.headD [] = l) := ⟨_, rfl⟩
                  have hl0 : ls[0] = l := by
                    rw [← HX.out]
                    cases ls with
                    | nil => simp at hpos
                    | cons a b => rfl
                  rw [hl0] at hru
                  have HU : Hid (RowIs wr u l) := hru.below HB.out
                  clear hat hu hru hl0
                  obtain ⟨x0, x1, x2, x3, x4, HH⟩ : ∃ x0 x1 x2 x3 x4, Hid (hadE (getE l k) = ⟨x0, x1, x2, x3, x4⟩) := ⟨_, _, _, _, _, rfl⟩
                  obtain ⟨is, HI⟩ : ∃ b, Hid ((getE l k).isSome = b) := ⟨_, rfl⟩
                  have HOne : Hid (okUpto ls k 1 = (is && x3)) := by show _ = _; rw [okUpto_one, HX.out, HI.out, HH.out]
                  have HStep : Hid (∀ i (h : i < ls.length), 1 ≤ i → okUpto ls k (i + 1) = (okUpto ls k i && hasG k x1 ls[i])) := fun i h h1 => by rw [okUpto_step h1 h, HX.out, HH.out]
                  clear HX
                  obtain ⟨xs, HXs⟩ : ∃ xs, Hid (safeK ls k = xs) := ⟨_, rfl⟩
                  have HLn : Hid (xs.length ≤ 100) := by
                    show _ ≤ _
                    rw [← HXs.out]
                    exact Nat.le_trans (safeK_len _ _) (by omega)
                  rw [HXs.out] at HO
                  obtain ⟨ok, HOk⟩ : ∃ b, Hid (okK ls k = b) := ⟨_, rfl⟩
                  have HNext : Hid (safeK ls (k + 1) = if ok = true then xs ++ [(k : Int)] else xs) := by
                    show _ = _
                    cases ok
                    · rw [safeK_no HOk.out, HXs.out]; rfl
                    · rw [safeK_yes HOk.out, HXs.out]; rfl
                  clear HXs
                  go_wp2_with fail
                  refine (rGet_t HH.out HI.out _ _ HU.out).mono ?_
                  rintro e w8 ⟨rfl, hb⟩
                  have B8 : Hid (Below w.heap.size w w8) := HB.out.trans (hb.mono HB.out.size)
                  have O8 : Hid (w8.ownsRow w.heap.size 3 1 v19 xs.length (intC xs)) := ownsRow_belowF HO.out hb
                  clear hb HB HO HU c0
                  -- is it gone in the first one?
                  go_upto_region 24 with fail
                  obtain ⟨w9, HW9⟩ : ∃ w9, w9 = w8.alloc (.cells #[.int .i64 x0, .int .i64 x1, .int .i64 x2, .bool x3, .string x4] 40) := ⟨_, rfl⟩
                  rw [← HW9]
                  obtain ⟨bx, HBx⟩ : ∃ bx, bx = w8.heap.size := ⟨_, rfl⟩
                  rw [← HBx]
                  have B9 : Hid (Below w.heap.size w w9) := by rw [HW9]; exact B8.out.alloc B8.out.size _
                  have O9 : Hid (w9.ownsRow w.heap.size 3 1 v19 xs.length (intC xs)) := by rw [HW9]; exact O8.out.alloc _
                  have X9 : Hid (BoxAt w9 bx x0 x1 x2 x3 x4) := by rw [HW9]; exact box_new w8 x0 x1 x2 x3 x4 bx HBx
                  clear HW9 HBx B8 O8
                  go_cut [23] (fun v23 wc => v23 = .bool (is && x3) ∧ Hid (BoxAt wc bx x0 x1 x2 x3 x4) ∧ Hid (wc.ownsRow w.heap.size 3 1 v19 xs.length (intC xs)) ∧ Hid (Below w.heap.size w wc))
                  case first =>
                    obtain ⟨d0, d1, d2, d3, d4, df⟩ := X9.out
                    cases is
                    · go_wp2_with fail
                      go_meet
                      case rel => exact ⟨rfl, X9, O9, B9⟩
                    · go_wp2_with fail
                      go_meet
                      case rel => exact ⟨rfl, X9, O9, B9⟩
                  case rest =>
                    obtain ⟨w10, h⟩ : ∃ x, x = wc := ⟨_, rfl⟩
                    subst h
                    obtain ⟨rfl, X10, O10, B10⟩ := hcut
                    clear X9 O9 B9
                    go_upto_block 4 with fail
                    go_cut [23] (fun v23 wc => v23 = .bool ok ∧ Hid (wc.ownsRow w.heap.size 3 1 v19 xs.length (intC xs)) ∧ Hid (Below w.heap.size w wc))
                    case first =>
                      go_wp2_with fail
                      go_loopw [23, 24] (fun s23 s24 wr => ∃ (i : Nat) (a : Bool), s23 = .bool a ∧ 1 ≤ i ∧ i ≤ n ∧ s24 = .int .i64 i ∧ Hid (a = okUpto ls k i) ∧ Hid (BoxAt wr bx x0 x1 x2 x3 x4) ∧ Hid (wr.ownsRow w.heap.size 3 1 v19 xs.length (intC xs)) ∧ Hid (Below w.heap.size w wr)) (fun _ i _ => n - (intOf i).toNat)
                      case atStart => exact ⟨1, _, rfl, Nat.le_refl _, by rw [← HN.out]; exact hpos, rfl, HOne.out.symm, X10, O10, B10⟩
                      case round =>
                        obtain ⟨i, a, rfl, h1i, hi, rfl, HA, HX, HO, HB⟩ := hrel
                        clear X10 O10 B10
                        by_cases hin : i < n
                        · have hil : i < ls.length := by rw [HN.out]; exact hin
                          have hini : (i : Int) < (n : Int) := by omega
                          obtain ⟨u, hu, hru⟩ := HAt.out i hil
                          have c0 : wr.cell? ⟨b, o + i, none⟩ = some u := (World.cell?_of_block (a := ⟨b, o + i, none⟩) (HB.out.block b hbw)).trans hu
                          have HU : Hid (RowIs wr u ls[i]) := hru.below HB.out
                          have HSt : Hid (okUpto ls k (i + 1) = (a && hasG k x1 ls[i])) := by show _ = _; rw [HA.out]; exact HStep.out i hil h1i
                          clear hu hru
                          obtain ⟨l', HX'⟩ : ∃ l', Hid (ls[i] = l') := ⟨ls[i], show ls[i] = ls[i] from rfl⟩
                          rw [HX'.out] at HU HSt
                          clear HX' HA
                          obtain ⟨y0, y1, y2, y3, y4, HH'⟩ : ∃ y0 y1 y2 y3 y4, Hid (hadE (getE l' k) = ⟨y0, y1, y2, y3, y4⟩) := ⟨_, _, _, _, _, rfl⟩
                          obtain ⟨had, HI'⟩ : ∃ b, Hid ((getE l' k).isSome = b) := ⟨_, rfl⟩
                          rw [hasG, HI'.out, HH'.out] at HSt
                          dsimp only at HSt
                          go_wp2_with fail
                          refine (rGet_t HH'.out HI'.out _ _ HU.out).mono ?_
                          rintro e w11 ⟨rfl, hb⟩
                          have B11 : Hid (Below w.heap.size w w11) := HB.out.trans (hb.mono HB.out.size)
                          have O11 : Hid (w11.ownsRow w.heap.size 3 1 v19 xs.length (intC xs)) := ownsRow_belowF HO.out hb
                          have X11 : Hid (BoxAt w11 bx x0 x1 x2 x3 x4) := HX.out.below hb HX.out.lt
                          clear hb HB HO HX HU c0
                          go_upto_region 29 with fail
                          obtain ⟨w12, HW12⟩ : ∃ w12, w12 = w11.alloc (.cells #[.int .i64 y0, .int .i64 y1, .int .i64 y2, .bool y3, .string y4] 40) := ⟨_, rfl⟩
                          rw [← HW12]
                          obtain ⟨by', HBy⟩ : ∃ by', by' = w11.heap.size := ⟨_, rfl⟩
                          rw [← HBy]
                          have B12 : Hid (Below w.heap.size w w12) := by rw [HW12]; exact B11.out.alloc B11.out.size _
                          have O12 : Hid (w12.ownsRow w.heap.size 3 1 v19 xs.length (intC xs)) := by rw [HW12]; exact O11.out.alloc _
                          have X12 : Hid (BoxAt w12 bx x0 x1 x2 x3 x4) := by rw [HW12]; exact X11.out.alloc _
                          have Y12 : Hid (BoxAt w12 by' y0 y1 y2 y3 y4) := by rw [HW12]; exact box_new w11 y0 y1 y2 y3 y4 by' HBy
                          clear HW12 HBy B11 O11 X11
                          obtain ⟨d0, d1, d2, d3, d4, df⟩ := X12.out
                          obtain ⟨e0, e1, e2, e3, e4, ef⟩ := Y12.out
                          cases a
                          · go_wp2_with fail
                            go_roundw
                            case rel => exact ⟨i + 1, _, rfl, by omega, by omega, by go_num, HSt.out.symm, X12, O12, B12⟩
                            case measure => simp [intOf]; omega
                          · cases had
                            · go_wp2_with fail
                              go_roundw
                              case rel => exact ⟨i + 1, _, rfl, by omega, by omega, by go_num, HSt.out.symm, X12, O12, B12⟩
                              case measure => simp [intOf]; omega
                            · cases y3
                              · go_wp2_with fail
                                go_roundw
                                case rel => exact ⟨i + 1, _, rfl, by omega, by omega, by go_num, HSt.out.symm, X12, O12, B12⟩
                                case measure => simp [intOf]; omega
                              · go_wp2_with fail
                                go_roundw
                                case rel => exact ⟨i + 1, _, rfl, by omega, by omega, by go_num, HSt.out.symm, X12, O12, B12⟩
                                case measure => simp [intOf]; omega
                        · obtain rfl : i = n := by omega
                          have HAo : Hid (a = ok) := by
                            show a = ok
                            rw [HA.out, ← HOk.out, okK, HN.out]
                          go_wp2_with fail
                          go_meet
                          case rel => exact ⟨by rw [HAo.out], HO, HB⟩
                    case rest =>
                      obtain ⟨w11, h⟩ : ∃ x, x = wc := ⟨_, rfl⟩
                      subst h
                      obtain ⟨rfl, O11, B11⟩ := hcut
                      clear X10 O10 B10
                      cases ok
                      · have HE : Hid (safeK ls (k + 1) = xs) := by show _ = _; rw [HNext.out]; rfl
                        clear HNext
                        go_wp2_with fail
                        go_roundw
                        case rel =>
                          refine ⟨k + 1, v19, rfl, by omega, by go_num, fun h => absurd HE0.out h, ?_, B11⟩
                          show World.ownsRow _ _ _ _ _ _ _
                          rw [HE.out]
                          exact O11.out
                        case measure => simp [intOf]; omega
                      · have HE : Hid (safeK ls (k + 1) = xs ++ [(k : Int)]) := by show _ = _; rw [HNext.out]; rfl
                        clear HNext
                        have hws := B11.out.size
                        have HOa : Hid ((w11.alloc (.cells #[.int .i64 k] 3)).ownsRow w.heap.size 3 1 v19 xs.length (intC xs)) := O11.out.alloc _
                        have HVa : Hid ((w11.alloc (.cells #[.int .i64 k] 3)).heap[w11.heap.size]? = some (.cells #[.int .i64 k] 3 (0, 0))) := alloc_at _ _ _ rfl
                        have HSa : Hid (w.heap.size ≤ (w11.alloc (.cells #[.int .i64 k] 3)).heap.size) := show _ ≤ _ from (by simp; omega)
                        have HBa : Hid (Below w.heap.size w (w11.alloc (.cells #[.int .i64 k] 3))) := B11.out.alloc hws _
                        go_wp2_with (at_builtin; refine wp_appI _ rfl _ _ rfl w.heap.size _ xs (k : Int) rfl HOa.out _ rfl HVa.out HLn.out HSa.out ?_)
                        intro va wa hown hgrow
                        have HOp : Hid (wa.ownsRow w.heap.size 3 1 va (xs ++ [(k : Int)]).length (intC (xs ++ [(k : Int)]))) := hown
                        have HBp : Hid (Below w.heap.size w wa) := below_grownF (HBa.out) (Nat.le_refl _) hgrow.out (fun c hc => ownsRow_fromF O11.out c hc)
                        clear hown hgrow HOa HVa HSa
                        go_wp2_with fail
                        go_roundw
                        case rel =>
                          refine ⟨k + 1, va, rfl, by omega, by go_num, fun h => absurd HE0.out h, ?_, HBp⟩
                          show World.ownsRow _ _ _ _ _ _ _
                          rw [HE.out]
                          exact HOp.out
                        case measure => simp [intOf]; omega
                · obtain rfl : k = 8 := by omega
                  have HX : Hid (safeK ls 8 = XS) := by
                    show _ = _
                    have h := safe_fine (ls := ls) (by rw [HE1.out, HE0.out])
                    rw [HSf.out] at h
                    exact (pair_eqT h).1.symm
                  go_wp2_with fail
                  go_meet
                  case rel => exact ⟨v19, rfl, IntsIs.own (by rw [← HX.out]; exact HO.out), HB⟩
              · have hfb : (E1 == 0) = false := by simp [hf]
                obtain rfl : k = 0 := HK0.out hf
                have HX : Hid (safeK ls 0 = XS) := by
                  show _ = _
                  have h := safe_bad HE1.out hf
                  rw [HSf.out] at h
                  rw [(pair_eqT h).1]
                  rfl
                clear hf
                go_wp2_with fail
                go_meet
                case rel => exact ⟨v19, rfl, IntsIs.own (by rw [← HX.out]; exact HO.out), HB⟩
        case rest =>
          obtain ⟨w8, h⟩ : ∃ x, x = wc := ⟨_, rfl⟩
          subst h
          obtain ⟨V19, hV, I8, B8⟩ := hcut
          have hV' := hV.symm
          clear hV
          subst hV'
          clear B7
          go_wp2_with fail
          refine (tsafe_p HSf.out _ _ (HL.out.below B8.out)).mono ?_
          rintro e w9 ⟨v9, rfl, hi, hb⟩
          have I9 : Hid (IntsIs w9 v9 XS) := hi
          have J9 : Hid (IntsIs w9 V19 XS) := I8.out.below hb
          have B9 : Hid (Below w.heap.size w w9) := B8.out.trans (hb.mono B8.out.size)
          clear hb hi I8 B8
          go_wp2_with fail
          refine (err_same E1 _ (HG.out.below hlt B9.out)).mono ?_
          rintro e w10 ⟨rfl, hb⟩
          have I10 : Hid (IntsIs w10 v9 XS) := I9.out.below hb
          have J10 : Hid (IntsIs w10 V19 XS) := J9.out.below hb
          have B10 : Hid (Below w.heap.size w w10) := B9.out.trans (hb.mono B9.out.size)
          clear hb I9 J9 B9
          go_wp2_with fail
          refine (ints_t XS _ _ _ I10.out J10.out).mono ?_
          rintro e w11 ⟨rfl, hb⟩
          have B11 : Hid (Below w.heap.size w w11) := B10.out.trans (hb.mono B10.out.size)
          clear hb I10 J10 B10
          go_wp2_with fail
          refine (rCache_o HE2.out _ _ (HMm.out.below B11.out)).mono ?_
          rintro e w12 ⟨rfl, hb⟩
          have B12 : Hid (Below w.heap.size w w12) := B11.out.trans (hb.mono B11.out.size)
          clear hb B11
          -- is the mark wrong alone?
          go_upto_region 35 with fail
          go_cut [165] (fun c wc => ∃ cb : Bool, c = .bool cb ∧ Hid (cb = ((E2 == 0) && !markB mark)) ∧ Hid (Below w.heap.size w wc))
          case first =>
            as_aux_lemma =>
              by_cases h0 : E2 = 0
              · have hd0 : (E2 == 0) = true := by simpa using h0
                clear h0
                by_cases h1 : mark < 0
                · have hd1 : decide (mark < 0) = true := by simpa using h1
                  have HMb : Hid (markB mark = false) := by show _ = _; simp [markB]; omega
                  clear h1
                  go_wp2_with fail
                  go_meet
                  case rel => exact ⟨_, rfl, (by show _ = _; rw [hd0, HMb.out]; rfl), B12⟩
                · have hd1 : decide (mark < 0) = false := by simpa using h1
                  obtain ⟨b1, hd2⟩ : ∃ b, decide (1000 < mark) = b := ⟨_, rfl⟩
                  have HMb : Hid (markB mark = !b1) := by
                    show _ = _
                    have e0 : (0 : Int) ≤ mark := by omega
                    rw [← hd2]
                    simp [markB, e0]
                    rw [← decide_not]
                    simp
                  clear h1
                  go_wp2_with fail
                  go_meet
                  case rel => exact ⟨_, rfl, (by show _ = _; rw [hd0, HMb.out]; simp), B12⟩
              · have hd0 : (E2 == 0) = false := by simpa using h0
                clear h0
                go_wp2_with fail
                go_meet
                case rel => exact ⟨_, rfl, (by show _ = _; rw [hd0]; rfl), B12⟩
          case rest =>
            obtain ⟨w13, h⟩ : ∃ x, x = wc := ⟨_, rfl⟩
            subst h
            obtain ⟨cb, rfl, HCb, B13⟩ := hcut
            clear B12
            go_upto_if 165 with fail
            go_cut [9] (fun v9 wc => v9 = .int .i64 E3 ∧ Hid (Below w.heap.size w wc))
            case first =>
              as_aux_lemma =>
                cases cb
                · have HF3 : Hid (E3 = E2) := by
                    show E3 = E2
                    have h := HCb.out
                    rw [sweep_e HSw.out, HE2.out]
                    by_cases h0 : E2 = 0
                    · subst h0
                      cases hk : markB mark
                      · rw [hk] at h; cases h
                      · rfl
                    · rw [if_neg h0]
                  go_wp2_with fail
                  go_meet
                  case rel => exact ⟨by rw [HF3.out], B13⟩
                · have HF3 : Hid (E3 = 1) := by
                    show E3 = 1
                    have h := HCb.out
                    rw [sweep_e HSw.out, HE2.out]
                    by_cases h0 : E2 = 0
                    · subst h0
                      cases hk : markB mark
                      · rfl
                      · rw [hk] at h; cases h
                    · have : (E2 == 0) = false := by simpa using h0
                      rw [this] at h
                      cases h
                  go_wp2_with fail
                  go_meet
                  case rel => exact ⟨by rw [HF3.out], B13⟩
            case rest =>
              obtain ⟨w14, h⟩ : ∃ x, x = wc := ⟨_, rfl⟩
              subst h
              obtain ⟨rfl, B14⟩ := hcut
              clear HCb B13
              go_upto_block 6 with fail
              go_cut [29, 30] (fun v29 v30 wc => ∃ V W : Value, v29 = V ∧ v30 = W ∧ Hid (RowIs wc V SL) ∧ Hid (IntsIs wc W SK) ∧ Hid (Below w.heap.size w wc))
              case first =>
                focus
                  go_wp2_with fail
                  go_loopw [29, 30, 31] (fun s29 s30 s31 wr => ∃ (j : Nat) (v29 v30 : Value), s29 = v29 ∧ s30 = v30 ∧ j ≤ nm ∧ s31 = .int .i64 j ∧ Hid (E3 ≠ 0 → j = 0) ∧ Hid (wr.ownsRow w.heap.size 40 5 v29 (keptL mark (m.take j)).length (rowC (keptL mark (m.take j)))) ∧ Hid (wr.ownsRow w.heap.size 3 1 v30 (sweptL mark (m.take j)).length (intC (sweptL mark (m.take j)))) ∧ Hid (Below w.heap.size w wr)) (fun _ _ i _ => nm - (intOf i).toNat)
                  case atStart => exact ⟨0, .slice none 0 0, .slice none 0 0, rfl, rfl, Nat.zero_le _, rfl, fun _ => rfl, World.ownsRow_nil _ _ _ _, World.ownsRow_nil _ _ _ _, B14⟩
                  case round =>
                    obtain ⟨j, v29, v30, hs29, hs30, hj, rfl, HJ0, HO8, HO9, HB⟩ := hrel
                    have hs29' := hs29.symm
                    have hs30' := hs30.symm
                    clear hs29 hs30
                    subst hs29'
                    subst hs30'
                    clear B14
                    by_cases hf : E3 = 0
                    · have hfb : (E3 == 0) = true := by simp [hf]
                      have HF0 : Hid (E3 = 0) := hf
                      have HZ : Hid (badL m = 0 ∧ SL = keptL mark m ∧ SK = sweptL mark m) := sweep_zero HSw.out hf
                      clear hf
                      by_cases hlt1 : j < nm
                      · have hjl : j < m.length := by rw [HNm.out]; exact hlt1
                        have hlti : (j : Int) < (nm : Int) := by omega
                        have hltd : decide ((j : Int) < (nm : Int)) = true := by simpa using hlti
                        obtain ⟨b, o, rfl, hbw, hat⟩ := HRowM.out (fun h => by simp [h] at hjl)
                        have HAt : Hid (EnAt wr b (o + j * 5) m[j]) := (hat j hjl).of_block (HB.out.block b hbw)
                        clear hat
                        have hws := HB.out.size
                        have HY : Hid (sweptB mark m[j] = true → sweptL mark (m.take (j + 1)) = sweptL mark (m.take j) ++ [m[j].k] ∧ keptL mark (m.take (j + 1)) = keptL mark (m.take j)) := fun ha => swept_yes hjl ha
                        have HNo : Hid (sweptB mark m[j] = false → sweptL mark (m.take (j + 1)) = sweptL mark (m.take j) ∧ keptL mark (m.take (j + 1)) = keptL mark (m.take j) ++ [m[j]]) := fun ha => swept_no hjl ha
                        have HL8 : Hid ((keptL mark (m.take j)).length ≤ 100) := Nat.le_trans (keptL_len _ _) (Nat.le_trans (List.length_take_le _ _) (Nat.le_trans hj (Nat.le_trans (by rw [← HNm.out]; exact (badL_good HZ.out.1).len) (by omega))))
                        have HL9 : Hid ((sweptL mark (m.take j)).length ≤ 100) := Nat.le_trans (sweptL_len _ _) (Nat.le_trans (List.length_take_le _ _) (Nat.le_trans hj (Nat.le_trans (by rw [← HNm.out]; exact (badL_good HZ.out.1).len) (by omega))))
                        obtain ⟨x, HX⟩ : ∃ x, Hid (m[j] = x) := ⟨m[j], show m[j] = m[j] from rfl⟩
                        rw [HX.out] at HAt HY HNo
                        obtain ⟨x0, x1, x2, x3, x4⟩ := x
                        obtain ⟨c0, c1, c2, c3, c4⟩ := HAt.out
                        dsimp only at c0 c1 c2 c3 c4
                        obtain ⟨ks, HKs⟩ : ∃ ks, Hid (sweptL mark (m.take j) = ks) := ⟨_, rfl⟩
                        obtain ⟨xs, HXs⟩ : ∃ xs, Hid (keptL mark (m.take j) = xs) := ⟨_, rfl⟩
                        rw [HXs.out] at HO8 HY HNo HL8
                        rw [HKs.out] at HO9 HY HNo HL9
                        clear HXs HKs HX
                        have HBa : Hid (Below w.heap.size w (wr.alloc (.cells #[.int .i64 x0, .int .i64 x1, .int .i64 x2, .bool x3, .string x4] 40))) := HB.out.alloc hws _
                        have HO8a : Hid ((wr.alloc (.cells #[.int .i64 x0, .int .i64 x1, .int .i64 x2, .bool x3, .string x4] 40)).ownsRow w.heap.size 40 5 v29 xs.length (rowC xs)) := HO8.out.alloc _
                        have HO9a : Hid ((wr.alloc (.cells #[.int .i64 x0, .int .i64 x1, .int .i64 x2, .bool x3, .string x4] 40)).ownsRow w.heap.size 3 1 v30 ks.length (intC ks)) := HO9.out.alloc _
                        have HVa : Hid ((wr.alloc (.cells #[.int .i64 x0, .int .i64 x1, .int .i64 x2, .bool x3, .string x4] 40)).heap[wr.heap.size]? = some (.cells (En.cells (En.mk x0 x1 x2 x3 x4)).toArray 40 (0, 0))) := alloc_at _ _ _ rfl
                        have HSa : Hid (w.heap.size ≤ (wr.alloc (.cells #[.int .i64 x0, .int .i64 x1, .int .i64 x2, .bool x3, .string x4] 40)).heap.size) := show _ ≤ _ from (by simp; omega)
                        cases x3
                        · have HE : Hid (sweptL mark (m.take (j + 1)) = ks ∧ keptL mark (m.take (j + 1)) = xs ++ [En.mk x0 x1 x2 false x4]) := HNo.out sweptB_not
                          clear HY HNo
                          go_wp2_with (at_builtin; refine wp_app _ rfl _ _ rfl w.heap.size _ xs (En.mk x0 x1 x2 false x4) rfl HO8a.out _ rfl HVa.out HL8.out HSa.out ?_)
                          intro va wa hown hgrow
                          have HOp : Hid (wa.ownsRow w.heap.size 40 5 va (xs ++ [En.mk x0 x1 x2 false x4]).length (rowC (xs ++ [En.mk x0 x1 x2 false x4]))) := hown
                          have HO9p : Hid (wa.ownsRow w.heap.size 3 1 v30 ks.length (intC ks)) := ownsRow_other HO9a.out HO8a.out (by decide) hgrow.out
                          have HBp : Hid (Below w.heap.size w wa) := below_grownF (HBa.out) (Nat.le_refl _) hgrow.out (fun c hc => ownsRow_fromF HO8.out c hc)
                          clear hown hgrow HO8a HO9a HVa HL8 HL9 HSa
                          clear c0 c1 c2 c3 c4
                          go_wp2_with fail
                          go_roundw
                          case rel =>
                            refine ⟨j + 1, va, v30, rfl, rfl, by omega, by go_num, fun h => absurd HF0.out h, ?_, ?_, HBp⟩
                            · show World.ownsRow _ _ _ _ _ _ _
                              rw [HE.out.2]
                              exact HOp.out
                            · show World.ownsRow _ _ _ _ _ _ _
                              rw [HE.out.1]
                              exact HO9p.out
                          case measure => simp [intOf]; omega
                        · by_cases hx : x1 ≤ mark
                          · have hxd : decide (x1 ≤ mark) = true := by simpa using hx
                            have HE : Hid (sweptL mark (m.take (j + 1)) = ks ++ [x0] ∧ keptL mark (m.take (j + 1)) = xs) := HY.out (sweptB_yes hx)
                            clear HY HNo HO8a HO9a HVa HSa HBa hx
                            have HBb : Hid (Below w.heap.size w (wr.alloc (.cells #[.int .i64 x0] 3))) := HB.out.alloc hws _
                            have HO8b : Hid ((wr.alloc (.cells #[.int .i64 x0] 3)).ownsRow w.heap.size 40 5 v29 xs.length (rowC xs)) := HO8.out.alloc _
                            have HO9b : Hid ((wr.alloc (.cells #[.int .i64 x0] 3)).ownsRow w.heap.size 3 1 v30 ks.length (intC ks)) := HO9.out.alloc _
                            have HVb : Hid ((wr.alloc (.cells #[.int .i64 x0] 3)).heap[wr.heap.size]? = some (.cells #[.int .i64 x0] 3 (0, 0))) := alloc_at _ _ _ rfl
                            have HSb : Hid (w.heap.size ≤ (wr.alloc (.cells #[.int .i64 x0] 3)).heap.size) := show _ ≤ _ from (by simp; omega)
                            go_wp2_with (at_builtin; refine wp_appI _ rfl _ _ rfl w.heap.size _ ks x0 rfl HO9b.out _ rfl HVb.out HL9.out HSb.out ?_)
                            intro va wa hown hgrow
                            have HOp : Hid (wa.ownsRow w.heap.size 3 1 va (ks ++ [x0]).length (intC (ks ++ [x0]))) := hown
                            have HO8p : Hid (wa.ownsRow w.heap.size 40 5 v29 xs.length (rowC xs)) := ownsRow_other HO8b.out HO9b.out (by decide) hgrow.out
                            have HBp : Hid (Below w.heap.size w wa) := below_grownF (HBb.out) (Nat.le_refl _) hgrow.out (fun c hc => ownsRow_fromF HO9.out c hc)
                            clear hown hgrow HO8b HO9b HVb HL8 HL9 HSb
                            clear c0 c1 c2 c3 c4
                            go_wp2_with fail
                            go_roundw
                            case rel =>
                              refine ⟨j + 1, v29, va, rfl, rfl, by omega, by go_num, fun h => absurd HF0.out h, ?_, ?_, HBp⟩
                              · show World.ownsRow _ _ _ _ _ _ _
                                rw [HE.out.2]
                                exact HO8p.out
                              · show World.ownsRow _ _ _ _ _ _ _
                                rw [HE.out.1]
                                exact HOp.out
                            case measure => simp [intOf]; omega
                          · have hxd : decide (x1 ≤ mark) = false := by simpa using hx
                            have HE : Hid (sweptL mark (m.take (j + 1)) = ks ∧ keptL mark (m.take (j + 1)) = xs ++ [En.mk x0 x1 x2 true x4]) := HNo.out (sweptB_no hx)
                            clear HY HNo hx
                            go_wp2_with (at_builtin; refine wp_app _ rfl _ _ rfl w.heap.size _ xs (En.mk x0 x1 x2 true x4) rfl HO8a.out _ rfl HVa.out HL8.out HSa.out ?_)
                            intro va wa hown hgrow
                            have HOp : Hid (wa.ownsRow w.heap.size 40 5 va (xs ++ [En.mk x0 x1 x2 true x4]).length (rowC (xs ++ [En.mk x0 x1 x2 true x4]))) := hown
                            have HO9p : Hid (wa.ownsRow w.heap.size 3 1 v30 ks.length (intC ks)) := ownsRow_other HO9a.out HO8a.out (by decide) hgrow.out
                            have HBp : Hid (Below w.heap.size w wa) := below_grownF (HBa.out) (Nat.le_refl _) hgrow.out (fun c hc => ownsRow_fromF HO8.out c hc)
                            clear hown hgrow HO8a HO9a HVa HL8 HL9 HSa
                            clear c0 c1 c2 c3 c4
                            go_wp2_with fail
                            go_roundw
                            case rel =>
                              refine ⟨j + 1, va, v30, rfl, rfl, by omega, by go_num, fun h => absurd HF0.out h, ?_, ?_, HBp⟩
                              · show World.ownsRow _ _ _ _ _ _ _
                                rw [HE.out.2]
                                exact HOp.out
                              · show World.ownsRow _ _ _ _ _ _ _
                                rw [HE.out.1]
                                exact HO9p.out
                            case measure => simp [intOf]; omega
                      · obtain rfl : j = nm := by omega
                        have hltd : decide ((j : Int) < (j : Int)) = false := by simp
                        have HX : Hid (keptL mark (m.take j) = SL ∧ sweptL mark (m.take j) = SK) := by
                          show _ ∧ _
                          rw [← HNm.out, List.take_length, HZ.out.2.1, HZ.out.2.2]
                          exact ⟨rfl, rfl⟩
                        go_wp2_with fail
                        go_meet
                        case rel => exact ⟨v29, v30, rfl, rfl, RowIs.own (by rw [← HX.out.1]; exact HO8.out), IntsIs.own (by rw [← HX.out.2]; exact HO9.out), HB⟩
                    · have hfb : (E3 == 0) = false := by simp [hf]
                      obtain rfl : j = 0 := HJ0.out hf
                      have HX : Hid (SL = [] ∧ SK = []) := sweep_non HSw.out hf
                      clear hf
                      by_cases hz : 0 < nm
                      · go_wp2_with fail
                        go_meet
                        case rel => exact ⟨v29, v30, rfl, rfl, RowIs.own (by rw [HX.out.1]; exact HO8.out), IntsIs.own (by rw [HX.out.2]; exact HO9.out), HB⟩
                      · go_wp2_with fail
                        go_meet
                        case rel => exact ⟨v29, v30, rfl, rfl, RowIs.own (by rw [HX.out.1]; exact HO8.out), IntsIs.own (by rw [HX.out.2]; exact HO9.out), HB⟩
              case rest =>
                obtain ⟨w15, h⟩ : ∃ x, x = wc := ⟨_, rfl⟩
                subst h
                obtain ⟨V29, V30, hV29, hV30, R15, I15, B15⟩ := hcut
                have hV29' := hV29.symm
                have hV30' := hV30.symm
                clear hV29 hV30
                subst hV29'
                subst hV30'
                clear B14
                go_wp2_with fail
                refine (tsweep_p HSw.out _ _ (HMm.out.below B15.out)).mono ?_
                rintro e w16 ⟨va, vb, rfl, hra, hib, hb⟩
                have RA16 : Hid (RowIs w16 va SL) := hra
                have IB16 : Hid (IntsIs w16 vb SK) := hib
                have R16 : Hid (RowIs w16 V29 SL) := R15.out.below hb
                have I16 : Hid (IntsIs w16 V30 SK) := I15.out.below hb
                have B16 : Hid (Below w.heap.size w w16) := B15.out.trans (hb.mono B15.out.size)
                clear hb hra hib R15 I15 B15
                go_wp2_with fail
                refine (err_same E3 _ (HG.out.below hlt B16.out)).mono ?_
                rintro e w17 ⟨rfl, hb⟩
                have RA17 : Hid (RowIs w17 va SL) := RA16.out.below hb
                have IB17 : Hid (IntsIs w17 vb SK) := IB16.out.below hb
                have R17 : Hid (RowIs w17 V29 SL) := R16.out.below hb
                have I17 : Hid (IntsIs w17 V30 SK) := I16.out.below hb
                have B17 : Hid (Below w.heap.size w w17) := B16.out.trans (hb.mono B16.out.size)
                clear hb RA16 IB16 R16 I16 B16
                go_wp2_with fail
                refine (same_t _ _ _ RA17.out R17.out).mono ?_
                rintro e w18 ⟨rfl, hb⟩
                have IB18 : Hid (IntsIs w18 vb SK) := IB17.out.below hb
                have I18 : Hid (IntsIs w18 V30 SK) := I17.out.below hb
                have B18 : Hid (Below w.heap.size w w18) := B17.out.trans (hb.mono B17.out.size)
                clear hb RA17 IB17 R17 I17 B17
                go_wp2_with fail
                refine (ints_t SK _ _ _ IB18.out I18.out).mono ?_
                rintro e w19 ⟨rfl, hb⟩
                have B19 : Hid (Below w.heap.size w w19) := B18.out.trans (hb.mono B18.out.size)
                clear hb IB18 I18 B18
                go_wp2_with fail
                go_ret
                exact ⟨rfl, B19.out⟩
end Go.Proofs.YteamkhnmknjkfacDoor
