/-
  The document's Read of caches that are right, by its contract.
-/
import Derived.Test.YtliaidgedjjobaaDoorRpF
import Derived.Test.YtliaidgedjjobaaDoorRfG
import Derived.Test.YtliaidgedjjobaaDoorRfJ2
namespace Go.Proofs.YtliaidgedjjobaaDoor
set_option linter.unusedVariables false
set_option linter.unusedSimpArgs false
open Go.RowKit

theorem rJoinP_o {ka va aa kb vb ab z0 z1 z2 n : Int} {ga gb z3 : Bool} {ta tb z4 : ByteArray} (h : joinE ⟨ka, va, aa, ga, ta⟩ ⟨kb, vb, ab, gb, tb⟩ = (⟨z0, z1, z2, z3, z4⟩, n)) (w : World) (hb : bad2 (bad ka va aa ga ta) (bad kb vb ab gb tb) = 0) (hk : ka = kb) :
    Calls Tryd.prog 36 #[.agg #[.int .i64 ka, .int .i64 va, .int .i64 aa, .bool ga, .string ta], .agg #[.int .i64 kb, .int .i64 vb, .int .i64 ab, .bool gb, .string tb]] w fun e w' => e = .returned (.tuple #[.agg #[.int .i64 z0, .int .i64 z1, .int .i64 z2, .bool z3, .string z4], .int .i64 n]) ∧ Below w.heap.size w w' := by
  have c := rJoin_c ka va aa ga ta kb vb ab gb tb w hb hk
  rw [h] at c
  exact c
theorem ret_eqI {x0 x1 x2 m : Int} {x3 : Bool} {x4 : ByteArray} {y0 y1 y2 n : Int} {y3 : Bool} {y4 : ByteArray} (h : ((⟨y0, y1, y2, y3, y4⟩ : En), n) = (⟨x0, x1, x2, x3, x4⟩, m)) :
    Ending.returned (.tuple #[.agg #[.int .i64 y0, .int .i64 y1, .int .i64 y2, .bool y3, .string y4], .int .i64 n]) = .returned (.tuple #[.agg #[.int .i64 x0, .int .i64 x1, .int .i64 x2, .bool x3, .string x4], .int .i64 m]) := by
  injection h with h1 h2
  injection h1 with a0 a1 a2 a3 a4
  subst a0 a1 a2 a3 a4 h2
  rfl
theorem below_box {B : Nat} {w w' : World} (h : Below B w w') (b : Nat) (hb : B ≤ b) (x0 x1 x2 x3 x4 : Value) : Below B w (((((w'.setCell ⟨b, 0, none⟩ x0).setCell ⟨b, 1, none⟩ x1).setCell ⟨b, 2, none⟩ x2).setCell ⟨b, 3, none⟩ x3).setCell ⟨b, 4, none⟩ x4) :=
  ((((h.setCell (p := ⟨b, 0, none⟩) hb _).setCell (p := ⟨b, 1, none⟩) hb _).setCell (p := ⟨b, 2, none⟩) hb _).setCell (p := ⟨b, 3, none⟩) hb _).setCell (p := ⟨b, 4, none⟩) hb _
set_option maxRecDepth 100000 in
set_option maxHeartbeats 16000000 in
theorem rRead2_c {w : World} {v : Value} {ls : List (List En)} {key x0 x1 x2 : Int} {x3 : Bool} {x4 : ByteArray} {m : Int} (hr : RowsIs w v ls) (hgl : GoodLs ls) (h : readO (joinFrom key none ls) = (⟨x0, x1, x2, x3, x4⟩, m)) :
    Calls Tryd.prog 9 #[v, .int .i64 key] w fun e w' => e = .returned (.tuple #[.agg #[.int .i64 x0, .int .i64 x1, .int .i64 x2, .bool x3, .string x4], .int .i64 m]) ∧ Below w.heap.size w w' := by
  have HJ0 : Hid (readO (joinFrom key none (ls.drop 0)) = (⟨x0, x1, x2, x3, x4⟩, m)) := h
  have HGL : Hid (GoodLs ls) := hgl
  clear h hgl
  obtain ⟨hlen, p, cap, rfl, hrow⟩ := hr
  have HRow : Hid (ls ≠ [] → ∃ b o, p = some ⟨b, o, none⟩ ∧ b < w.heap.size ∧ ∀ j (h : j < ls.length), ∃ u, w.cell? ⟨b, o + j, none⟩ = some u ∧ RowIs w u ls[j]) := hrow
  clear hrow
  obtain ⟨n, HN⟩ : ∃ n, Hid (ls.length = n) := ⟨_, rfl⟩
  rw [HN.out] at hlen ⊢
  have hn63 : n ≤ 9223372036854775807 := hlen
  have E0 : Hid (BoxAt ((w.alloc (.cells #[.int .i64 0, .int .i64 0, .int .i64 0, .bool false, .string ⟨#[]⟩] 26)).alloc (.cells #[.int .i64 0, .int .i64 0, .int .i64 0, .bool false, .string ⟨#[]⟩] 26)) w.heap.size 0 0 0 false ⟨#[]⟩) := (box_new w 0 0 0 false ⟨#[]⟩ _ rfl).alloc _
  have F0 : Hid (BoxAt ((w.alloc (.cells #[.int .i64 0, .int .i64 0, .int .i64 0, .bool false, .string ⟨#[]⟩] 26)).alloc (.cells #[.int .i64 0, .int .i64 0, .int .i64 0, .bool false, .string ⟨#[]⟩] 26)) (w.heap.size + 1) 0 0 0 false ⟨#[]⟩) := box_new _ 0 0 0 false ⟨#[]⟩ _ (by simp)
  have B0 : Hid (Below w.heap.size w ((w.alloc (.cells #[.int .i64 0, .int .i64 0, .int .i64 0, .bool false, .string ⟨#[]⟩] 26)).alloc (.cells #[.int .i64 0, .int .i64 0, .int .i64 0, .bool false, .string ⟨#[]⟩] 26))) := ((Below.refl _ w).alloc (Nat.le_refl _) _).alloc (by simp) _
  go_enter Tryd.func9, Tryd.ntmps9
  go_upto_region 2 with fail
  obtain ⟨w0, HW0⟩ : ∃ z, z = (w.alloc (.cells #[.int .i64 0, .int .i64 0, .int .i64 0, .bool false, .string ⟨#[]⟩] 26)).alloc (.cells #[.int .i64 0, .int .i64 0, .int .i64 0, .bool false, .string ⟨#[]⟩] 26) := ⟨_, rfl⟩
  obtain ⟨P, HP⟩ : ∃ z, z = w.heap.size := ⟨_, rfl⟩
  have hPw : w.heap.size ≤ P := by omega
  rw [← HW0] at E0 F0 B0 ⊢
  rw [← HP] at E0 F0
  rw [← HP]
  clear HW0 HP
  go_wp2_with fail
  go_loopw [7, 8] (fun s7 s8 wr => ∃ (j : Nat) (o : Option En) (sb : Bool) (y0 y1 y2 : Int) (y3 : Bool) (y4 : ByteArray), s7 = .bool sb ∧ j ≤ n ∧ s8 = .int .i64 j ∧ Hid (o.isSome = sb) ∧ Hid (∀ y, o = some y → y = ⟨y0, y1, y2, y3, y4⟩ ∧ y.bad = 0 ∧ y.k = key) ∧ Hid (readO (joinFrom key o (ls.drop j)) = (⟨x0, x1, x2, x3, x4⟩, m)) ∧ Hid (Below w.heap.size w wr) ∧ Hid (BoxAt wr P 0 0 0 false ⟨#[]⟩) ∧ Hid (BoxAt wr (P + 1) y0 y1 y2 y3 y4)) (fun _ i _ => n - (intOf i).toNat)
  case atStart => exact ⟨0, none, false, _, _, _, _, _, rfl, Nat.zero_le _, rfl, rfl, (fun y hy => by cases hy), HJ0, B0, E0, F0⟩
  case round =>
    obtain ⟨j, o, sb, y0, y1, y2, y3, y4, rfl, hj, rfl, HS, HY, HJ, HB, HE, HF⟩ := hrel
    clear B0 E0 F0
    have hws := HB.out.size
    have hbx := HE.out.lt
    have hfx := HF.out.lt
    by_cases hlt : j < n
    · have hjl : j < ls.length := by rw [HN.out]; exact hlt
      obtain ⟨b, oo, rfl, hbw, hat⟩ := HRow.out (fun h => by simp [h] at hjl)
      obtain ⟨u, hu, hru⟩ := hat j hjl
      have c0 : wr.cell? ⟨b, oo + j, none⟩ = some u := (World.cell?_of_block (a := ⟨b, oo + j, none⟩) (HB.out.block b hbw)).trans hu
      have HU : Hid (RowIs wr u ls[j]) := hru.below HB.out
      have HGj : Hid (badL ls[j] = 0) := HGL.out.all _ (List.getElem_mem hjl)
      clear hat hu hru
      have hlti : (j : Int) < (n : Int) := by omega
      cases hg : getE ls[j] key with
      | none =>
        have HJ1 : Hid (readO (joinFrom key o (ls.drop (j + 1))) = (⟨x0, x1, x2, x3, x4⟩, m)) := by
          show _ = _
          rw [← joinFrom_none hjl hg]
          exact HJ.out
        have HC : Hid _ := rGet_none hg u wr HU.out
        clear hg
        go_wp2_with fail
        refine Calls.mono HC.out ?_
        rintro e w2 ⟨rfl, hb⟩
        have B3 : Hid (Below w.heap.size w (w2.alloc (.cells #[.int .i64 0, .int .i64 0, .int .i64 0, .bool false, .string ⟨#[]⟩] 26))) := (HB.out.trans (hb.mono HB.out.size)).alloc (Nat.le_trans HB.out.size hb.size) _
        have E3 : Hid (BoxAt (w2.alloc (.cells #[.int .i64 0, .int .i64 0, .int .i64 0, .bool false, .string ⟨#[]⟩] 26)) P 0 0 0 false ⟨#[]⟩) := (HE.out.below hb hbx).alloc _
        have F3 : Hid (BoxAt (w2.alloc (.cells #[.int .i64 0, .int .i64 0, .int .i64 0, .bool false, .string ⟨#[]⟩] 26)) (P + 1) y0 y1 y2 y3 y4) := (HF.out.below hb hfx).alloc _
        clear hb c0
        go_wp2_with fail
        go_roundw
        case rel => exact ⟨j + 1, o, sb, _, _, _, _, _, rfl, by omega, by go_num, HS, HY, HJ1, B3, E3, F3⟩
        case measure => simp [intOf]; omega
      | some x =>
        have hxx : x.bad = 0 ∧ x.k = key := ⟨(badL_good HGj.out).all x (List.mem_of_find?_eq_some hg), by simpa using List.find?_some hg⟩
        obtain ⟨q0, q1, q2, q3, q4⟩ := x
        have HC : Hid _ := rGet_some hg u wr HU.out
        have HXX : Hid (En.bad ⟨q0, q1, q2, q3, q4⟩ = 0 ∧ q0 = key) := hxx
        cases o with
        | none =>
          obtain rfl : sb = false := HS.out.symm
          have HJ1 : Hid (readO (joinFrom key (some ⟨q0, q1, q2, q3, q4⟩) (ls.drop (j + 1))) = (⟨x0, x1, x2, x3, x4⟩, m)) := by
            show _ = _
            rw [← joinFrom_first hjl hg]
            exact HJ.out
          clear hg hxx
          go_wp2_with fail
          refine Calls.mono HC.out ?_
          rintro e w2 ⟨rfl, hb⟩
          have B2 : Hid (Below w.heap.size w w2) := HB.out.trans (hb.mono HB.out.size)
          have E2 : Hid (BoxAt w2 P 0 0 0 false ⟨#[]⟩) := HE.out.below hb hbx
          have F2 : Hid (BoxAt w2 (P + 1) y0 y1 y2 y3 y4) := HF.out.below hb hfx
          clear hb c0 HC
          go_upto_region 9 with fail
          obtain ⟨w3, HW3⟩ : ∃ z, z = w2.alloc (.cells #[.int .i64 q0, .int .i64 q1, .int .i64 q2, .bool q3, .string q4] 26) := ⟨_, rfl⟩
          obtain ⟨Y, HYy⟩ : ∃ z, z = w2.heap.size := ⟨_, rfl⟩
          have B3 : Hid (Below w.heap.size w w3) := by rw [HW3]; exact B2.out.alloc B2.out.size _
          have E3 : Hid (BoxAt w3 P 0 0 0 false ⟨#[]⟩) := by rw [HW3]; exact E2.out.alloc _
          have F3 : Hid (BoxAt w3 (P + 1) y0 y1 y2 y3 y4) := by rw [HW3]; exact F2.out.alloc _
          have G3 : Hid (BoxAt w3 Y q0 q1 q2 q3 q4) := by rw [HW3, HYy]; exact box_new w2 _ _ _ _ _ _ rfl
          rw [← HW3, ← HYy]
          clear HW3 HYy B2 E2 F2
          obtain ⟨f0, f1, f2, f3, f4, ff⟩ := F3.out
          obtain ⟨g0, g1, g2, g3, g4, gf⟩ := G3.out
          go_wp2_with fail
          go_roundw
          case rel => exact ⟨j + 1, some ⟨q0, q1, q2, q3, q4⟩, true, _, _, _, _, _, rfl, by omega, by go_num, rfl, (fun y hy => by obtain rfl := Option.some.inj hy; exact ⟨rfl, HXX.out⟩), HJ1, below_box B3.out (P + 1) (by omega) _ _ _ _ _, E3.out.other (by omega) _ _ _ _ _, F3.out.set _ _ _ _ _⟩
          case measure => simp [intOf]; omega
        | some y =>
          obtain ⟨rfl, hy1, hy2⟩ := HY.out y rfl
          obtain rfl : sb = true := HS.out.symm
          obtain ⟨z, nz, hz⟩ : ∃ z nz, joinE ⟨y0, y1, y2, y3, y4⟩ ⟨q0, q1, q2, q3, q4⟩ = (z, nz) := ⟨_, _, rfl⟩
          have hbd : bad2 (bad y0 y1 y2 y3 y4) (bad q0 q1 q2 q3 q4) = 0 := by
            rw [bad2, if_pos (show bad y0 y1 y2 y3 y4 = 0 from hy1)]
            exact hxx.1
          have hkk : y0 = q0 := hy2.trans hxx.2.symm
          by_cases hn : nz = 0
          · subst hn
            have HJ1 : Hid (readO (joinFrom key (some z) (ls.drop (j + 1))) = (⟨x0, x1, x2, x3, x4⟩, m)) := by
              show _ = _
              rw [← joinFrom_next hjl hg hz]
              exact HJ.out
            have HZZ : Hid (z.bad = 0 ∧ z.k = key) := by
              rcases (joinE_iff.1 hz).2.2.one with rfl | rfl
              · exact ⟨hy1, hy2⟩
              · exact hxx
            obtain ⟨z0, z1, z2, z3, z4⟩ := z
            have HJn : Hid (∀ W, Calls Tryd.prog 36 #[.agg #[.int .i64 y0, .int .i64 y1, .int .i64 y2, .bool y3, .string y4], .agg #[.int .i64 q0, .int .i64 q1, .int .i64 q2, .bool q3, .string q4]] W fun e w' => e = .returned (.tuple #[.agg #[.int .i64 z0, .int .i64 z1, .int .i64 z2, .bool z3, .string z4], .int .i64 0]) ∧ Below W.heap.size W w') := fun W => rJoinP_o hz W hbd hkk
            clear hg hxx hz hbd hkk hy1 hy2
            go_wp2_with fail
            refine Calls.mono HC.out ?_
            rintro e w2 ⟨rfl, hb⟩
            have B2 : Hid (Below w.heap.size w w2) := HB.out.trans (hb.mono HB.out.size)
            have E2 : Hid (BoxAt w2 P 0 0 0 false ⟨#[]⟩) := HE.out.below hb hbx
            have F2 : Hid (BoxAt w2 (P + 1) y0 y1 y2 y3 y4) := HF.out.below hb hfx
            clear hb c0 HC
            go_upto_region 12 with fail
            obtain ⟨w3, HW3⟩ : ∃ z, z = w2.alloc (.cells #[.int .i64 q0, .int .i64 q1, .int .i64 q2, .bool q3, .string q4] 26) := ⟨_, rfl⟩
            obtain ⟨Y, HYy⟩ : ∃ z, z = w2.heap.size := ⟨_, rfl⟩
            have B3 : Hid (Below w.heap.size w w3) := by rw [HW3]; exact B2.out.alloc B2.out.size _
            have E3 : Hid (BoxAt w3 P 0 0 0 false ⟨#[]⟩) := by rw [HW3]; exact E2.out.alloc _
            have F3 : Hid (BoxAt w3 (P + 1) y0 y1 y2 y3 y4) := by rw [HW3]; exact F2.out.alloc _
            have G3 : Hid (BoxAt w3 Y q0 q1 q2 q3 q4) := by rw [HW3, HYy]; exact box_new w2 _ _ _ _ _ _ rfl
            rw [← HW3, ← HYy]
            clear HW3 HYy B2 E2 F2
            obtain ⟨f0, f1, f2, f3, f4, ff⟩ := F3.out
            obtain ⟨g0, g1, g2, g3, g4, gf⟩ := G3.out
            go_wp2_with fail
            refine Calls.mono (HJn.out _) ?_
            rintro e w4 ⟨rfl, hb⟩
            have B4 : Hid (Below w.heap.size w w4) := B3.out.trans (hb.mono B3.out.size)
            have E4 : Hid (BoxAt w4 P 0 0 0 false ⟨#[]⟩) := E3.out.below hb E3.out.lt
            have F4 : Hid (BoxAt w4 (P + 1) y0 y1 y2 y3 y4) := F3.out.below hb F3.out.lt
            clear hb f0 f1 f2 f3 f4 ff g0 g1 g2 g3 g4 gf
            obtain ⟨f0, f1, f2, f3, f4, ff⟩ := F4.out
            go_wp2_with fail
            go_roundw
            case rel => exact ⟨j + 1, some ⟨z0, z1, z2, z3, z4⟩, true, _, _, _, _, _, rfl, by omega, by go_num, rfl, (fun y hy => by obtain rfl := Option.some.inj hy; exact ⟨rfl, HZZ.out⟩), HJ1, below_box B4.out (P + 1) (by omega) _ _ _ _ _, E4.out.other (by omega) _ _ _ _ _, F4.out.set _ _ _ _ _⟩
            case measure => simp [intOf]; omega
          · have HV : Hid (((⟨0, 0, 0, false, ⟨#[]⟩⟩ : En), nz) = (⟨x0, x1, x2, x3, x4⟩, m)) := by
              have h2 := HJ.out
              rw [joinFrom_bad hjl hg hz hn] at h2
              refine Eq.trans ?_ h2
              rw [readO, if_pos hn]
              rfl
            obtain ⟨z0, z1, z2, z3, z4⟩ := z
            have HJn : Hid (∀ W, Calls Tryd.prog 36 #[.agg #[.int .i64 y0, .int .i64 y1, .int .i64 y2, .bool y3, .string y4], .agg #[.int .i64 q0, .int .i64 q1, .int .i64 q2, .bool q3, .string q4]] W fun e w' => e = .returned (.tuple #[.agg #[.int .i64 z0, .int .i64 z1, .int .i64 z2, .bool z3, .string z4], .int .i64 nz]) ∧ Below W.heap.size W w') := fun W => rJoinP_o hz W hbd hkk
            clear hg hxx hz hbd hkk hy1 hy2
            go_wp2_with fail
            refine Calls.mono HC.out ?_
            rintro e w2 ⟨rfl, hb⟩
            have B2 : Hid (Below w.heap.size w w2) := HB.out.trans (hb.mono HB.out.size)
            have E2 : Hid (BoxAt w2 P 0 0 0 false ⟨#[]⟩) := HE.out.below hb hbx
            have F2 : Hid (BoxAt w2 (P + 1) y0 y1 y2 y3 y4) := HF.out.below hb hfx
            clear hb c0 HC
            go_upto_region 12 with fail
            obtain ⟨w3, HW3⟩ : ∃ z, z = w2.alloc (.cells #[.int .i64 q0, .int .i64 q1, .int .i64 q2, .bool q3, .string q4] 26) := ⟨_, rfl⟩
            obtain ⟨Y, HYy⟩ : ∃ z, z = w2.heap.size := ⟨_, rfl⟩
            have B3 : Hid (Below w.heap.size w w3) := by rw [HW3]; exact B2.out.alloc B2.out.size _
            have E3 : Hid (BoxAt w3 P 0 0 0 false ⟨#[]⟩) := by rw [HW3]; exact E2.out.alloc _
            have F3 : Hid (BoxAt w3 (P + 1) y0 y1 y2 y3 y4) := by rw [HW3]; exact F2.out.alloc _
            have G3 : Hid (BoxAt w3 Y q0 q1 q2 q3 q4) := by rw [HW3, HYy]; exact box_new w2 _ _ _ _ _ _ rfl
            rw [← HW3, ← HYy]
            clear HW3 HYy B2 E2 F2
            obtain ⟨f0, f1, f2, f3, f4, ff⟩ := F3.out
            obtain ⟨g0, g1, g2, g3, g4, gf⟩ := G3.out
            go_wp2_with fail
            refine Calls.mono (HJn.out _) ?_
            rintro e w4 ⟨rfl, hb⟩
            have B4 : Hid (Below w.heap.size w w4) := B3.out.trans (hb.mono B3.out.size)
            have E4 : Hid (BoxAt w4 P 0 0 0 false ⟨#[]⟩) := E3.out.below hb E3.out.lt
            have F4 : Hid (BoxAt w4 (P + 1) y0 y1 y2 y3 y4) := F3.out.below hb F3.out.lt
            clear hb f0 f1 f2 f3 f4 ff g0 g1 g2 g3 g4 gf
            obtain ⟨f0, f1, f2, f3, f4, ff⟩ := F4.out
            go_upto_region 13 with fail
            have B5 : Hid (Below w.heap.size w (((((w4.setCell ⟨P + 1, 0, none⟩ (.int .i64 z0)).setCell ⟨P + 1, 1, none⟩ (.int .i64 z1)).setCell ⟨P + 1, 2, none⟩ (.int .i64 z2)).setCell ⟨P + 1, 3, none⟩ (.bool z3)).setCell ⟨P + 1, 4, none⟩ (.string z4))) := below_box B4.out (P + 1) (by omega) _ _ _ _ _
            have E5 : Hid (BoxAt (((((w4.setCell ⟨P + 1, 0, none⟩ (.int .i64 z0)).setCell ⟨P + 1, 1, none⟩ (.int .i64 z1)).setCell ⟨P + 1, 2, none⟩ (.int .i64 z2)).setCell ⟨P + 1, 3, none⟩ (.bool z3)).setCell ⟨P + 1, 4, none⟩ (.string z4)) P 0 0 0 false ⟨#[]⟩) := E4.out.other (by omega) _ _ _ _ _
            obtain ⟨w5, HW5⟩ : ∃ z, z = (((((w4.setCell ⟨P + 1, 0, none⟩ (.int .i64 z0)).setCell ⟨P + 1, 1, none⟩ (.int .i64 z1)).setCell ⟨P + 1, 2, none⟩ (.int .i64 z2)).setCell ⟨P + 1, 3, none⟩ (.bool z3)).setCell ⟨P + 1, 4, none⟩ (.string z4)) := ⟨_, rfl⟩
            rw [← HW5] at B5 E5 ⊢
            clear HW5 f0 f1 f2 f3 f4 ff
            have HB6 : Hid _ := below_box B5.out P hPw (.int .i64 0) (.int .i64 0) (.int .i64 0) (.bool false) (.string ⟨#[]⟩)
            obtain ⟨s0, s1, s2, s3, s4, sf⟩ := (E5.out.set 0 0 0 false ⟨#[]⟩)
            obtain ⟨e0, e1, e2, e3, e4, ef⟩ := E5.out
            go_wp2_with fail
            refine bodyPost_ret (v := .tuple #[.agg #[.int .i64 0, .int .i64 0, .int .i64 0, .bool false, .string ⟨#[]⟩], .int .i64 nz]) (by simp [results, Tryd.results9, go_sem, s0, s1, s2, s3, s4]) rfl ?_
            exact ⟨ret_eqI HV.out, HB6.out⟩
    · obtain rfl : j = n := by omega
      have HV : Hid (readO (o, 0) = (⟨x0, x1, x2, x3, x4⟩, m)) := by
        have h2 := HJ.out
        rw [List.drop_eq_nil_of_le (by rw [HN.out]; exact Nat.le_refl _)] at h2
        exact h2
      obtain ⟨e0, e1, e2, e3, e4, ef⟩ := HE.out
      obtain ⟨f0, f1, f2, f3, f4, ff⟩ := HF.out
      cases o with
      | none =>
        obtain rfl : sb = false := HS.out.symm
        have HV2 : Hid (((⟨0, 0, 0, false, ⟨#[]⟩⟩ : En), (5 : Int)) = (⟨x0, x1, x2, x3, x4⟩, m)) := HV.out
        have HB6 : Hid _ := below_box HB.out P hPw (.int .i64 0) (.int .i64 0) (.int .i64 0) (.bool false) (.string ⟨#[]⟩)
        obtain ⟨s0, s1, s2, s3, s4, sf⟩ := (HE.out.set 0 0 0 false ⟨#[]⟩)
        go_wp2_with fail
        refine bodyPost_ret (v := .tuple #[.agg #[.int .i64 0, .int .i64 0, .int .i64 0, .bool false, .string ⟨#[]⟩], .int .i64 5]) (by simp [results, Tryd.results9, go_sem, s0, s1, s2, s3, s4]) rfl ?_
        exact ⟨ret_eqI HV2.out, HB6.out⟩
      | some y =>
        obtain rfl : sb = true := HS.out.symm
        obtain ⟨rfl, hya, hyk⟩ := HY.out y rfl
        clear hya hyk
        have HV2 : Hid (((⟨y0, y1, y2, y3, y4⟩ : En), (0 : Int)) = (⟨x0, x1, x2, x3, x4⟩, m)) := HV.out
        have HB6 : Hid _ := below_box HB.out P hPw (.int .i64 y0) (.int .i64 y1) (.int .i64 y2) (.bool y3) (.string y4)
        obtain ⟨s0, s1, s2, s3, s4, sf⟩ := (HE.out.set y0 y1 y2 y3 y4)
        go_wp2_with fail
        refine bodyPost_ret (v := .tuple #[.agg #[.int .i64 y0, .int .i64 y1, .int .i64 y2, .bool y3, .string y4], .int .i64 0]) (by simp [results, Tryd.results9, go_sem, s0, s1, s2, s3, s4]) rfl ?_
        exact ⟨ret_eqI HV2.out, HB6.out⟩
end Go.Proofs.YtliaidgedjjobaaDoor
