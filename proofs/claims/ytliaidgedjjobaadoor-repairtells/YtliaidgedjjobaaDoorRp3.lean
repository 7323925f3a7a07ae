/-
  Package repair by its contracts: Lacks.
-/
import Derived.Test.YtliaidgedjjobaaDoorRp2
import Derived.Test.YtliaidgedjjobaaDoorTbI
namespace Go.Proofs.YtliaidgedjjobaaDoor
set_option linter.unusedVariables false
set_option linter.unusedSimpArgs false
open Go.RowKit

set_option maxRecDepth 100000 in
set_option maxHeartbeats 8000000 in
theorem rlacks_c {w : World} {v : Value} {ls : List (List En)} {key m : Int} {k : List Int} (hr : RowsIs w v ls) (h : lacksR ls key = (k, m)) :
    Calls Tryd.prog 13 #[v, .int .i64 key] w fun e w' => ∃ u, e = .returned (.tuple #[u, eV m]) ∧ IntsIs w' u k ∧ Below w.heap.size w w' := by
  have HR : Hid (RowsIs w v ls) := hr
  obtain ⟨⟨x0, x1, x2, x3, x4⟩, n, HX⟩ : ∃ x n, Hid (readR ls key = (x, n)) := ⟨_, _, rfl⟩
  by_cases hn : n = 0
  · subst hn
    obtain ⟨hgl, hk, _⟩ := readR_ok HX.out
    have HGL : Hid (GoodLs ls) := hgl
    have HK : Hid (isKeyB key = true) := hk
    obtain ⟨rfl, rfl⟩ : lackN ls key x1 ls.length = k ∧ (0 : Int) = m := by
      rw [lacksR, HX.out, if_neg (by simp)] at h
      exact Prod.mk.inj h
    clear hgl hk h
    obtain ⟨hlen, p, cap, rfl, hrow⟩ := hr
    have HRow : Hid (ls ≠ [] → ∃ b o, p = some ⟨b, o, none⟩ ∧ b < w.heap.size ∧ ∀ j (h : j < ls.length), ∃ u, w.cell? ⟨b, o + j, none⟩ = some u ∧ RowIs w u ls[j]) := hrow
    clear hrow
    obtain ⟨n, HN⟩ : ∃ n, Hid (ls.length = n) := ⟨_, rfl⟩
    have HL6 : Hid (n ≤ 6) := by show n ≤ 6; rw [← HN.out]; exact HGL.out.len
    rw [HN.out] at hlen HR ⊢
    have hn63 : n ≤ 9223372036854775807 := hlen
    go_enter Tryd.func13, Tryd.ntmps13
    go_wp2_with fail
    refine (rread_c HR.out HX.out).mono ?_
    rintro e w1 ⟨rfl, hb⟩
    have B1 : Hid (Below w.heap.size w (w1.alloc (.cells #[.int .i64 x0, .int .i64 x1, .int .i64 x2, .bool x3, .string x4] 26))) := hb.alloc hb.size _
    have E1 : Hid (BoxAt (w1.alloc (.cells #[.int .i64 x0, .int .i64 x1, .int .i64 x2, .bool x3, .string x4] 26)) w1.heap.size x0 x1 x2 x3 x4) := box_new w1 x0 x1 x2 x3 x4 _ rfl
    have hs1 : w.heap.size ≤ w1.heap.size := hb.size
    obtain ⟨X, HXX⟩ : ∃ X, Hid (w1.heap.size = X) := ⟨_, rfl⟩
    clear hb
    rw [eV_zeroP]
    go_wp2_with fail
    rw [HXX.out] at E1 hs1 ⊢
    have hsX : w.heap.size ≤ X := hs1
    clear hs1
    go_loopw [8, 24] (fun s8 s24 wr => ∃ (j : Nat) (v8 : Value), s8 = v8 ∧ j ≤ n ∧ s24 = .int .i64 j ∧ Hid (wr.ownsRow (X + 1) 3 1 v8 (lackN ls key x1 j).length (intC (lackN ls key x1 j))) ∧ Hid (Below w.heap.size w wr) ∧ Hid (BoxAt wr X x0 x1 x2 x3 x4)) (fun _ i _ => n - (intOf i).toNat)
    case atStart => exact ⟨0, .slice none 0 0, rfl, Nat.zero_le _, rfl, World.ownsRow_nil _ _ _ _, B1, E1⟩
    case round =>
      obtain ⟨j, v8, hs8, hj, rfl, HO, HB, HE⟩ := hrel
      have HXn : Hid (v8.ownBlock ≠ some X) := fun hc => by have := ownsRow_fromF HO.out X hc; omega
      have hs8' := hs8.symm
      clear hs8
      subst hs8'
      clear B1 E1
      have hws := HB.out.size
      have hbx := HE.out.lt
      by_cases hlt : j < n
      · have hjl : j < ls.length := by rw [HN.out]; exact hlt
        obtain ⟨b, oo, rfl, hbw, hat⟩ := HRow.out (fun h => by simp [h] at hjl)
        obtain ⟨u, hu, hru⟩ := hat j hjl
        have c0 : wr.cell? ⟨b, oo + j, none⟩ = some u := (World.cell?_of_block (a := ⟨b, oo + j, none⟩) (HB.out.block b hbw)).trans hu
        have HU : Hid (RowIs wr u ls[j]) := hru.below HB.out
        have HGj : Hid (badL ls[j] = 0) := HGL.out.all _ (List.getElem_mem hjl)
        have hgd : ls.getD j [] = ls[j] := getD_at _ _ _ hjl
        have HYs : Hid (lackB key x1 ls[j] = true → lackN ls key x1 (j + 1) = lackN ls key x1 j ++ [(j : Int)]) := fun hh => lackN_yes (by rw [hgd]; exact hh)
        have HNo : Hid (lackB key x1 ls[j] = false → lackN ls key x1 (j + 1) = lackN ls key x1 j) := fun hh => lackN_no (by rw [hgd]; exact hh)
        have HLa : Hid ((lackN ls key x1 j).length ≤ 100) := Nat.le_trans (lackN_len _ _ _ _) (by have := HL6.out; omega)
        clear hat hu hru hgd
        have hlti : (j : Int) < (n : Int) := by omega
        obtain ⟨xs, HXs⟩ : ∃ xs, Hid (lackN ls key x1 j = xs) := ⟨_, rfl⟩
        rw [HXs.out] at HO HYs HNo HLa
        cases hg : getE ls[j] key with
        | none =>
          have HC : Hid _ := of_none HU.out HGj.out HK.out hg
          have HE1 : Hid (lackN ls key x1 (j + 1) = xs ++ [(j : Int)]) := HYs.out (by rw [lackB, hg])
          clear hg HYs HNo
          go_wp2_with fail
          refine Calls.mono HC.out ?_
          rintro e w2 ⟨rfl, hb⟩
          obtain ⟨w3, HW3⟩ : ∃ w3, w3 = w2.alloc (.cells #[.int .i64 0, .int .i64 0, .int .i64 0, .bool false, .string ⟨#[]⟩] 26) := ⟨_, rfl⟩
          have hb3 : Below wr.heap.size wr w3 := by rw [HW3]; exact hb.alloc hb.size _
          have B3 : Hid (Below w.heap.size w w3) := HB.out.trans (hb3.mono HB.out.size)
          have O3 : Hid (w3.ownsRow (X + 1) 3 1 v8 xs.length (intC xs)) := ownsRow_belowF HO.out hb3
          have E3 : Hid (BoxAt w3 X x0 x1 x2 x3 x4) := HE.out.below hb3 hbx
          clear hb hb3 c0
          go_upto_region 9 with fail
          rw [← HW3]
          clear HW3
          have hws3 := B3.out.size
          have HOb : Hid ((w3.alloc (.cells #[.int .i64 (j : Int)] 3)).ownsRow (X + 1) 3 1 v8 xs.length (intC xs)) := O3.out.alloc _
          have HVa : Hid ((w3.alloc (.cells #[.int .i64 (j : Int)] 3)).heap[w3.heap.size]? = some (.cells #[.int .i64 (j : Int)] 3 (0, 0))) := alloc_at _ _ _ rfl
          have HSa : Hid (X + 1 ≤ (w3.alloc (.cells #[.int .i64 (j : Int)] 3)).heap.size) := show _ ≤ _ from (by have := E3.out.lt; simp; omega)
          have hb5 : Below w3.heap.size w3 (w3.alloc (.cells #[.int .i64 (j : Int)] 3)) := (Below.refl _ _).alloc (Nat.le_refl _) _
          have HBb : Hid (Below w.heap.size w (w3.alloc (.cells #[.int .i64 (j : Int)] 3))) := B3.out.trans (hb5.mono B3.out.size)
          have HEb : Hid (BoxAt (w3.alloc (.cells #[.int .i64 (j : Int)] 3)) X x0 x1 x2 x3 x4) := E3.out.alloc _
          have HXa : Hid (∀ c, v8.ownBlock = some c → w.heap.size ≤ c) := fun c hc => by have := ownsRow_fromF HO.out c hc; have := hsX; omega
          clear hb5
          go_wp2_with (at_builtin; refine wp_appI _ rfl _ _ rfl (X + 1) _ xs (j : Int) rfl HOb.out _ rfl HVa.out HLa.out HSa.out ?_)
          intro va wa hown hgrow
          have HOp : Hid (wa.ownsRow (X + 1) 3 1 va (xs ++ [(j : Int)]).length (intC (xs ++ [(j : Int)]))) := hown
          have HBp : Hid (Below w.heap.size w wa) := below_grownF (HBb.out) (Nat.le_refl _) hgrow.out HXa.out
          have HEp : Hid (BoxAt wa X x0 x1 x2 x3 x4) := HEb.out.of_block (hgrow.out.block X HEb.out.lt (fun hc => HXn.out hc.symm))
          clear hown hgrow HOb HVa HLa HSa
          go_wp2_with fail
          go_roundw
          case rel =>
            refine ⟨j + 1, va, rfl, by omega, by go_num, ?_, HBp, HEp⟩
            show World.ownsRow _ _ _ _ _ _ _
            rw [HE1.out]
            exact HOp.out
          case measure => simp [intOf]; omega
        | some y =>
          obtain ⟨y0, y1, y2, y3, y4⟩ := y
          have HC : Hid _ := of_some HU.out HGj.out HK.out hg
          cases hd : decide (y1 < x1)
          · have HE1 : Hid (lackN ls key x1 (j + 1) = xs) := HNo.out (by rw [lackB, hg]; exact hd)
            clear hg HYs HNo
            go_wp2_with fail
            refine Calls.mono HC.out ?_
            rintro e w2 ⟨rfl, hb⟩
            obtain ⟨w3, HW3⟩ : ∃ w3, w3 = w2.alloc (.cells #[.int .i64 y0, .int .i64 y1, .int .i64 y2, .bool y3, .string y4] 26) := ⟨_, rfl⟩
            have hb3 : Below wr.heap.size wr w3 := by rw [HW3]; exact hb.alloc hb.size _
            have B3 : Hid (Below w.heap.size w w3) := HB.out.trans (hb3.mono HB.out.size)
            have O3 : Hid (w3.ownsRow (X + 1) 3 1 v8 xs.length (intC xs)) := ownsRow_belowF HO.out hb3
            have E3 : Hid (BoxAt w3 X x0 x1 x2 x3 x4) := HE.out.below hb3 hbx
            have F3 : Hid (BoxAt w3 w2.heap.size y0 y1 y2 y3 y4) := by rw [HW3]; exact box_new w2 y0 y1 y2 y3 y4 _ rfl
            clear hb hb3 c0
            go_upto_region 9 with fail
            rw [← HW3]
            clear HW3
            obtain ⟨e0, e1, e2, e3, e4, ef⟩ := E3.out
            obtain ⟨f0, f1, f2, f3, f4, ff⟩ := F3.out
            go_wp2_with fail
            clear e0 e1 e2 e3 e4 ef f0 f1 f2 f3 f4 ff
            go_roundw
            case rel =>
              refine ⟨j + 1, v8, rfl, by omega, by go_num, ?_, B3, E3⟩
              show World.ownsRow _ _ _ _ _ _ _
              rw [HE1.out]
              exact O3.out
            case measure => simp [intOf]; omega
          · have HE1 : Hid (lackN ls key x1 (j + 1) = xs ++ [(j : Int)]) := HYs.out (by rw [lackB, hg]; exact hd)
            clear hg HYs HNo
            go_wp2_with fail
            refine Calls.mono HC.out ?_
            rintro e w2 ⟨rfl, hb⟩
            obtain ⟨w3, HW3⟩ : ∃ w3, w3 = w2.alloc (.cells #[.int .i64 y0, .int .i64 y1, .int .i64 y2, .bool y3, .string y4] 26) := ⟨_, rfl⟩
            have hb3 : Below wr.heap.size wr w3 := by rw [HW3]; exact hb.alloc hb.size _
            have B3 : Hid (Below w.heap.size w w3) := HB.out.trans (hb3.mono HB.out.size)
            have O3 : Hid (w3.ownsRow (X + 1) 3 1 v8 xs.length (intC xs)) := ownsRow_belowF HO.out hb3
            have E3 : Hid (BoxAt w3 X x0 x1 x2 x3 x4) := HE.out.below hb3 hbx
            have F3 : Hid (BoxAt w3 w2.heap.size y0 y1 y2 y3 y4) := by rw [HW3]; exact box_new w2 y0 y1 y2 y3 y4 _ rfl
            clear hb hb3 c0
            go_upto_region 9 with fail
            rw [← HW3]
            clear HW3
            obtain ⟨e0, e1, e2, e3, e4, ef⟩ := E3.out
            obtain ⟨f0, f1, f2, f3, f4, ff⟩ := F3.out
            have hws3 := B3.out.size
            have HOb : Hid ((w3.alloc (.cells #[.int .i64 (j : Int)] 3)).ownsRow (X + 1) 3 1 v8 xs.length (intC xs)) := O3.out.alloc _
            have HVa : Hid ((w3.alloc (.cells #[.int .i64 (j : Int)] 3)).heap[w3.heap.size]? = some (.cells #[.int .i64 (j : Int)] 3 (0, 0))) := alloc_at _ _ _ rfl
            have HSa : Hid (X + 1 ≤ (w3.alloc (.cells #[.int .i64 (j : Int)] 3)).heap.size) := show _ ≤ _ from (by have := E3.out.lt; simp; omega)
            have hb5 : Below w3.heap.size w3 (w3.alloc (.cells #[.int .i64 (j : Int)] 3)) := (Below.refl _ _).alloc (Nat.le_refl _) _
            have HBb : Hid (Below w.heap.size w (w3.alloc (.cells #[.int .i64 (j : Int)] 3))) := B3.out.trans (hb5.mono B3.out.size)
            have HEb : Hid (BoxAt (w3.alloc (.cells #[.int .i64 (j : Int)] 3)) X x0 x1 x2 x3 x4) := E3.out.alloc _
            have HXa : Hid (∀ c, v8.ownBlock = some c → w.heap.size ≤ c) := fun c hc => by have := ownsRow_fromF HO.out c hc; have := hsX; omega
            clear hb5
            go_wp2_with (at_builtin; refine wp_appI _ rfl _ _ rfl (X + 1) _ xs (j : Int) rfl HOb.out _ rfl HVa.out HLa.out HSa.out ?_)
            intro va wa hown hgrow
            have HOp : Hid (wa.ownsRow (X + 1) 3 1 va (xs ++ [(j : Int)]).length (intC (xs ++ [(j : Int)]))) := hown
            have HBp : Hid (Below w.heap.size w wa) := below_grownF (HBb.out) (Nat.le_refl _) hgrow.out HXa.out
            have HEp : Hid (BoxAt wa X x0 x1 x2 x3 x4) := HEb.out.of_block (hgrow.out.block X HEb.out.lt (fun hc => HXn.out hc.symm))
            clear hown hgrow HOb HVa HLa HSa
            clear e0 e1 e2 e3 e4 ef f0 f1 f2 f3 f4 ff
            go_wp2_with fail
            go_roundw
            case rel =>
              refine ⟨j + 1, va, rfl, by omega, by go_num, ?_, HBp, HEp⟩
              show World.ownsRow _ _ _ _ _ _ _
              rw [HE1.out]
              exact HOp.out
            case measure => simp [intOf]; omega
      · obtain rfl : j = n := by omega
        go_wp2_with fail
        go_ret2
        exact ⟨v8, rfl, IntsIs.own HO.out, HB.out⟩
  · obtain ⟨rfl, rfl⟩ : ([] : List Int) = k ∧ n = m := by
      rw [lacksR, HX.out, if_pos hn] at h
      exact Prod.mk.inj h
    clear h hr
    go_enter Tryd.func13, Tryd.ntmps13
    go_wp2_with fail
    refine (rread_c HR.out HX.out).mono ?_
    rintro e w1 ⟨rfl, hb⟩
    have B1 : Hid (Below w.heap.size w (w1.alloc (.cells #[.int .i64 x0, .int .i64 x1, .int .i64 x2, .bool x3, .string x4] 26))) := hb.alloc hb.size _
    clear hb
    rw [eV_errP hn]
    go_wp2_with fail
    go_ret2
    exact ⟨.slice none 0 0, by simp [eV, hn], IntsIs.nil _, B1.out⟩
end Go.Proofs.YtliaidgedjjobaaDoor
