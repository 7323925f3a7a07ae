/-
  The walk of merelaw1.EntryTells.
-/
import Derived.Test.YtgncclahhejcdaaDoorRfJ
import Derived.Test.YtgncclahhejcdaaDoorEnT
import Derived.Test.YtgncclahhejcdaaDoorPlL
import Derived.BigQuiet
namespace Go.Proofs.YtgncclahhejcdaaDoor.entryTells
set_option linter.unusedVariables false
set_option linter.unusedSimpArgs false
open Go.RowKit
theorem joinE_first {x y : En} {m : Int} (h : bad x.k x.v x.a x.g x.t = m) (hm : m ≠ 0) : joinE x y = (⟨0, 0, 0, false, ⟨#[]⟩⟩, m) := by
  unfold joinE
  have e : bad2 (bad x.k x.v x.a x.g x.t) (bad y.k y.v y.a y.g y.t) = m := by rw [h]; unfold bad2; rw [if_neg hm]
  rw [e, if_pos hm]
theorem joinE_second {x y : En} {n : Int} (hx : bad x.k x.v x.a x.g x.t = 0) (h : bad y.k y.v y.a y.g y.t = n) (hn : n ≠ 0) : joinE x y = (⟨0, 0, 0, false, ⟨#[]⟩⟩, n) := by
  unfold joinE
  have e : bad2 (bad x.k x.v x.a x.g x.t) (bad y.k y.v y.a y.g y.t) = n := by rw [hx, h]; rfl
  rw [e, if_pos hn]
theorem joinE_key {x y : En} (hx : bad x.k x.v x.a x.g x.t = 0) (h : bad y.k y.v y.a y.g y.t = 0) (hk : x.k ≠ y.k) : joinE x y = (⟨0, 0, 0, false, ⟨#[]⟩⟩, 3) := by
  unfold joinE
  have e : bad2 (bad x.k x.v x.a x.g x.t) (bad y.k y.v y.a y.g y.t) = 0 := by rw [hx, h]; rfl
  rw [e, if_neg (by simp), if_pos hk]
theorem rJoin_o {ka va aa : Int} {ga : Bool} {ta : ByteArray} {kb vb ab : Int} {gb : Bool} {tb : ByteArray} {k v a : Int} {g : Bool} {t : ByteArray} {n : Int} (hb : bad2 (bad ka va aa ga ta) (bad kb vb ab gb tb) = 0) (hk : ka = kb) (h : joinE ⟨ka, va, aa, ga, ta⟩ ⟨kb, vb, ab, gb, tb⟩ = (⟨k, v, a, g, t⟩, n)) (w : World) :
    Calls Tryd.prog 24 #[.agg #[.int .i64 ka, .int .i64 va, .int .i64 aa, .bool ga, .string ta], .agg #[.int .i64 kb, .int .i64 vb, .int .i64 ab, .bool gb, .string tb]] w fun e w' => e = .returned (.tuple #[.agg #[.int .i64 k, .int .i64 v, .int .i64 a, .bool g, .string t], .int .i64 n]) ∧ Below w.heap.size w w' := by
  have c := rJoin_c ka va aa ga ta kb vb ab gb tb w hb hk
  rw [h] at c
  exact c
theorem error_e (n : Int) (w : World) (hg : HasErr w) : Calls Tryd.prog 10 #[eV n, .int .i64 n] w fun e w' => e = .returned (.bool true) ∧ Below w.heap.size w w' := error_same n w hg
theorem error_i {n : Int} (hn : n ≠ 0) (w : World) (hg : HasErr w) : Calls Tryd.prog 10 #[.iface 67 (.int .i64 n), .int .i64 n] w fun e w' => e = .returned (.bool true) ∧ Below w.heap.size w w' := by
  have c := error_e n w hg
  rw [eV, if_neg hn] at c
  exact c
theorem error_z (w : World) (hg : HasErr w) : Calls Tryd.prog 10 #[.nilIface, .int .i64 0] w fun e w' => e = .returned (.bool true) ∧ Below w.heap.size w w' := error_e 0 w hg
set_option maxRecDepth 100000 in
set_option maxHeartbeats 8000000 in
theorem walk (ka va aa : Int) (ga : Bool) (ta : ByteArray) (kb vb ab : Int) (gb : Bool) (tb : ByteArray) (s : Int) (w : World) (hg : HasErr w) :
    Calls Tryd.prog 6 #[.agg #[.int .i64 ka, .int .i64 va, .int .i64 aa, .bool ga, .string ta], .agg #[.int .i64 kb, .int .i64 vb, .int .i64 ab, .bool gb, .string tb], .int .i64 s] w fun e w' => e = .returned (.bool true) ∧ Below w.heap.size w w' := by
  have HG : Hid (HasErr w) := hg
  have hlt := hg.lt
  clear hg
  obtain ⟨m, HM⟩ : ∃ m, Hid (bad ka va aa ga ta = m) := ⟨_, rfl⟩
  go_enter Tryd.func6, Tryd.ntmps6
  go_wp2_with fail
  refine (rEntry_c ka va aa ga ta _).mono ?_
  rintro e w1 ⟨rfl, hb⟩
  rw [HM.out]
  have B1 : Hid (Below w.heap.size w w1) := Below.trans (by go_grown) (hb.mono (by simp; omega))
  have A1 : Hid (BoxAt w1 w.heap.size ka va aa ga ta) := ((box_new w ka va aa ga ta w.heap.size rfl).alloc _).below hb (by simp; omega)
  have D1 : Hid (BoxAt w1 (w.heap.size + 1) kb vb ab gb tb) := (box_new _ kb vb ab gb tb (w.heap.size + 1) (by simp)).below hb (by simp)
  clear hb
  by_cases hm : m = 0
  · subst hm
    obtain ⟨a0, a1, a2, a3, a4, af⟩ := A1.out
    go_wp2_with fail
    clear a0 a1 a2 a3 a4 af
    refine (check_ok HM.out _).mono ?_
    rintro e w2 ⟨rfl, hb⟩
    have B2 : Hid (Below w.heap.size w w2) := B1.out.trans (hb.mono B1.out.size)
    have hz2 : w1.heap.size ≤ w2.heap.size := hb.size
    have A2 : Hid (BoxAt w2 (w.heap.size) ka va aa ga ta) := A1.out.below hb A1.out.lt
    have D2 : Hid (BoxAt w2 (w.heap.size + 1) kb vb ab gb tb) := D1.out.below hb D1.out.lt
    clear hb
    go_wp2_with fail
    refine (error_z _ (HG.out.below hlt B2.out)).mono ?_
    rintro e w3 ⟨rfl, hb⟩
    have B3 : Hid (Below w.heap.size w w3) := B2.out.trans (hb.mono B2.out.size)
    have hz3 : w2.heap.size ≤ w3.heap.size := hb.size
    have A3 : Hid (BoxAt w3 (w.heap.size) ka va aa ga ta) := A2.out.below hb A2.out.lt
    have D3 : Hid (BoxAt w3 (w.heap.size + 1) kb vb ab gb tb) := D2.out.below hb D2.out.lt
    clear hb
    obtain ⟨a0, a1, a2, a3, a4, af⟩ := A3.out
    by_cases hs : 0 ≤ s ∧ s ≤ 1000
    · obtain ⟨hs1, hs2⟩ := hs
      have hs3 : ¬ s < 0 := by omega
      have hs4 : ¬ 1000 < s := by omega
      have HS : Hid (inR s 0 1000 = true) := by show inR s 0 1000 = true; simp [inR]; omega
      obtain ⟨tb0, HT⟩ : ∃ b, Hid (inR s va aa = b) := ⟨_, rfl⟩
      go_wp2_with fail
      clear a0 a1 a2 a3 a4 af
      refine (true_ok HM.out HS.out HT.out _).mono ?_
      rintro e w4 ⟨rfl, hb⟩
      have B4 : Hid (Below w.heap.size w w4) := B3.out.trans (hb.mono B3.out.size)
      have hz4 : w3.heap.size ≤ w4.heap.size := hb.size
      have A4 : Hid (BoxAt w4 (w.heap.size) ka va aa ga ta) := A3.out.below hb A3.out.lt
      have D4 : Hid (BoxAt w4 (w.heap.size + 1) kb vb ab gb tb) := D3.out.below hb D3.out.lt
      clear hb
      obtain ⟨a0, a1, a2, a3, a4, af⟩ := A4.out
      go_wp2_with fail
      clear a0 a1 a2 a3 a4 af
      refine (error_z _ (HG.out.below hlt B4.out)).mono ?_
      rintro e w5 ⟨rfl, hb⟩
      have B5 : Hid (Below w.heap.size w w5) := B4.out.trans (hb.mono B4.out.size)
      have hz5 : w4.heap.size ≤ w5.heap.size := hb.size
      have A5 : Hid (BoxAt w5 (w.heap.size) ka va aa ga ta) := A4.out.below hb A4.out.lt
      have D5 : Hid (BoxAt w5 (w.heap.size + 1) kb vb ab gb tb) := D4.out.below hb D4.out.lt
      clear hb
      by_cases h1 : va ≤ s
      · by_cases h2 : s ≤ aa
        · obtain rfl : true = tb0 := by rw [← HT.out]; simp [inR, h1, h2]
          have h3 : decide (va ≤ s) = true := by simp [h1]
          have h4 : decide (s ≤ aa) = true := by simp [h2]
          obtain ⟨a0, a1, a2, a3, a4, af⟩ := A5.out
          obtain ⟨d0, d1, d2, d3, d4, df⟩ := D5.out
          obtain ⟨n2, HN⟩ : ∃ n, Hid (bad kb vb ab gb tb = n) := ⟨_, rfl⟩
          go_wp2_with fail
          clear a0 a1 a2 a3 a4 af
          clear d0 d1 d2 d3 d4 df
          refine (rEntry_c kb vb ab gb tb _).mono ?_
          rintro e w6 ⟨rfl, hb⟩
          have B6 : Hid (Below w.heap.size w w6) := B5.out.trans (hb.mono B5.out.size)
          have hz6 : w5.heap.size ≤ w6.heap.size := hb.size
          have A6 : Hid (BoxAt w6 (w.heap.size) ka va aa ga ta) := A5.out.below hb A5.out.lt
          have D6 : Hid (BoxAt w6 (w.heap.size + 1) kb vb ab gb tb) := D5.out.below hb D5.out.lt
          clear hb
          rw [HN.out]
          by_cases hn : n2 = 0
          · subst hn
            by_cases hk : ka = kb
            · have HK : Hid (ka = kb) := hk
              have hk2 : (ka == kb) = true := by simp [hk]
              have HB2 : Hid (bad2 (bad ka va aa ga ta) (bad kb vb ab gb tb) = 0) := by rw [HM.out, HN.out]; rfl
              obtain ⟨jk, jv, ja, jg, jt, n, HJ⟩ : ∃ jk jv ja jg jt n, Hid (joinE ⟨ka, va, aa, ga, ta⟩ ⟨kb, vb, ab, gb, tb⟩ = (⟨jk, jv, ja, jg, jt⟩, n)) := ⟨_, _, _, _, _, _, rfl⟩
              obtain ⟨a0, a1, a2, a3, a4, af⟩ := A6.out
              obtain ⟨d0, d1, d2, d3, d4, df⟩ := D6.out
              have la6 : w.heap.size < w6.heap.size := A6.out.lt
              have na6 : ¬ w.heap.size = w6.heap.size := by omega
              have ld6 : w.heap.size + 1 < w6.heap.size := D6.out.lt
              have nd6 : ¬ w.heap.size + 1 = w6.heap.size := by omega
              clear hk
              go_wp2_with fail
              clear a0 a1 a2 a3 a4 af
              clear d0 d1 d2 d3 d4 df
              refine (rJoin_o HB2.out HK.out HJ.out _).mono ?_
              rintro e w7 ⟨rfl, hb⟩
              have B7 : Hid (Below w.heap.size w w7) := (B6.out.alloc B6.out.size _).trans (hb.mono (by have := B6.out.size; simp; omega))
              have hz7 : w6.heap.size + 1 ≤ w7.heap.size := by have := hb.size; simpa using this
              have W7 : Hid (BoxAt w7 w6.heap.size 0 0 0 false ⟨#[]⟩) := (box_new w6 0 0 0 false ⟨#[]⟩ _ rfl).below hb (by simp)
              have A7 : Hid (BoxAt w7 w.heap.size ka va aa ga ta) := (A6.out.alloc _).below hb (A6.out.alloc _).lt
              have D7 : Hid (BoxAt w7 (w.heap.size + 1) kb vb ab gb tb) := (D6.out.alloc _).below hb (D6.out.alloc _).lt
              clear hb
              obtain ⟨a0, a1, a2, a3, a4, af⟩ := A7.out
              obtain ⟨d0, d1, d2, d3, d4, df⟩ := D7.out
              obtain ⟨q0, q1, q2, q3, q4, qf⟩ := W7.out
              go_wp2_with fail
              clear a0 a1 a2 a3 a4 af
              clear d0 d1 d2 d3 d4 df
              clear q0 q1 q2 q3 q4 qf
              refine (join_o HJ.out _).mono ?_
              rintro e w8 ⟨rfl, hb⟩
              have hq : w.heap.size ≤ w6.heap.size := B6.out.size
              have B7b : Below w.heap.size w (((((w7.setCell ⟨w6.heap.size, 0, none⟩ (.int .i64 jk)).setCell ⟨w6.heap.size, 1, none⟩ (.int .i64 jv)).setCell ⟨w6.heap.size, 2, none⟩ (.int .i64 ja)).setCell ⟨w6.heap.size, 3, none⟩ (.bool jg)).setCell ⟨w6.heap.size, 4, none⟩ (.string jt)) := ((((B7.out.setCell hq _).setCell hq _).setCell hq _).setCell hq _).setCell hq _
              have B8 : Hid (Below w.heap.size w w8) := B7b.trans (hb.mono B7b.size)
              have W8 : Hid (BoxAt w8 w6.heap.size jk jv ja jg jt) := (W7.out.set jk jv ja jg jt).below hb (W7.out.set jk jv ja jg jt).lt
              have hz8 : w7.heap.size ≤ w8.heap.size := by have := hb.size; simpa using this
              clear hb B7b
              go_wp2_with fail
              have E8 : Hid (HasErr (w8.alloc (.cells #[.int .i64 jk, .int .i64 jv, .int .i64 ja, .bool jg, .string jt] 25))) := HG.out.below hlt (B8.out.alloc B8.out.size _)
              refine (error_e n _ E8.out).mono ?_
              rintro e w9 ⟨rfl, hb⟩
              have B9 : Hid (Below w.heap.size w w9) := (B8.out.alloc B8.out.size _).trans (hb.mono (by have := B8.out.size; simp; omega))
              obtain ⟨q0, q1, q2, q3, q4, qf⟩ := (W8.out.alloc _).below hb (W8.out.alloc _).lt
              obtain ⟨x0, x1, x2, x3, x4, xf⟩ := (box_new w8 jk jv ja jg jt _ rfl).below hb (by simp)
              clear hb
              have e1 := eql_cells jk jv ja jg jt
              have e2 := eqlIn_cells jk jv ja jg jt
              have e3 := eqGuard_en
              go_wp2_with fail
              go_ret
              exact ⟨rfl, B9.out⟩
            · have hk2 : (ka == kb) = false := by simp [hk]
              have HK : Hid (ka ≠ kb) := hk
              clear hk
              obtain ⟨a0, a1, a2, a3, a4, af⟩ := A6.out
              obtain ⟨d0, d1, d2, d3, d4, df⟩ := D6.out
              have la6 : w.heap.size < w6.heap.size := A6.out.lt
              have na6 : ¬ w.heap.size = w6.heap.size := by omega
              have ld6 : w.heap.size + 1 < w6.heap.size := D6.out.lt
              have nd6 : ¬ w.heap.size + 1 = w6.heap.size := by omega
              go_wp2_with fail
              clear a0 a1 a2 a3 a4 af
              clear d0 d1 d2 d3 d4 df
              refine (join_err (joinE_key (x := ⟨ka, va, aa, ga, ta⟩) (y := ⟨kb, vb, ab, gb, tb⟩) HM.out HN.out HK.out) (show (3 : Int) ≠ 0 by decide) _).mono ?_
              rintro e w8 ⟨rfl, hb⟩
              have B8 : Hid (Below w.heap.size w w8) := (B6.out.alloc B6.out.size _).trans (hb.mono (by have := B6.out.size; simp; omega))
              have hz8 : w6.heap.size + 1 ≤ w8.heap.size := by have := hb.size; simpa using this
              have W8 : Hid (BoxAt w8 w6.heap.size 0 0 0 false ⟨#[]⟩) := (box_new w6 0 0 0 false ⟨#[]⟩ _ rfl).below hb (by simp)
              clear hb
              go_wp2_with fail
              have E8 : Hid (HasErr (w8.alloc (.cells #[.int .i64 0, .int .i64 0, .int .i64 0, .bool false, .string ⟨#[]⟩] 25))) := HG.out.below hlt (B8.out.alloc B8.out.size _)
              refine (error_i (show (3 : Int) ≠ 0 by decide) _ E8.out).mono ?_
              rintro e w9 ⟨rfl, hb⟩
              have B9 : Hid (Below w.heap.size w w9) := (B8.out.alloc B8.out.size _).trans (hb.mono (by have := B8.out.size; simp; omega))
              obtain ⟨q0, q1, q2, q3, q4, qf⟩ := (W8.out.alloc _).below hb (W8.out.alloc _).lt
              obtain ⟨x0, x1, x2, x3, x4, xf⟩ := (box_new w8 0 0 0 false ⟨#[]⟩ _ rfl).below hb (by simp)
              clear hb
              have e1 := eql_cells 0 0 0 false ⟨#[]⟩
              have e2 := eqlIn_cells 0 0 0 false ⟨#[]⟩
              have e3 := eqGuard_en
              go_wp2_with fail
              go_ret
              exact ⟨rfl, B9.out⟩
          · have hn2 : (n2 == 0) = false := by simp [hn]
            obtain ⟨a0, a1, a2, a3, a4, af⟩ := A6.out
            obtain ⟨d0, d1, d2, d3, d4, df⟩ := D6.out
            have la6 : w.heap.size < w6.heap.size := A6.out.lt
            have na6 : ¬ w.heap.size = w6.heap.size := by omega
            have ld6 : w.heap.size + 1 < w6.heap.size := D6.out.lt
            have nd6 : ¬ w.heap.size + 1 = w6.heap.size := by omega
            go_wp2_with fail
            clear a0 a1 a2 a3 a4 af
            clear d0 d1 d2 d3 d4 df
            refine (join_err (joinE_second (x := ⟨ka, va, aa, ga, ta⟩) (y := ⟨kb, vb, ab, gb, tb⟩) HM.out HN.out hn) hn _).mono ?_
            rintro e w8 ⟨rfl, hb⟩
            have B8 : Hid (Below w.heap.size w w8) := (B6.out.alloc B6.out.size _).trans (hb.mono (by have := B6.out.size; simp; omega))
            have hz8 : w6.heap.size + 1 ≤ w8.heap.size := by have := hb.size; simpa using this
            have W8 : Hid (BoxAt w8 w6.heap.size 0 0 0 false ⟨#[]⟩) := (box_new w6 0 0 0 false ⟨#[]⟩ _ rfl).below hb (by simp)
            clear hb
            go_wp2_with fail
            have E8 : Hid (HasErr (w8.alloc (.cells #[.int .i64 0, .int .i64 0, .int .i64 0, .bool false, .string ⟨#[]⟩] 25))) := HG.out.below hlt (B8.out.alloc B8.out.size _)
            refine (error_i hn _ E8.out).mono ?_
            rintro e w9 ⟨rfl, hb⟩
            have B9 : Hid (Below w.heap.size w w9) := (B8.out.alloc B8.out.size _).trans (hb.mono (by have := B8.out.size; simp; omega))
            obtain ⟨q0, q1, q2, q3, q4, qf⟩ := (W8.out.alloc _).below hb (W8.out.alloc _).lt
            obtain ⟨x0, x1, x2, x3, x4, xf⟩ := (box_new w8 0 0 0 false ⟨#[]⟩ _ rfl).below hb (by simp)
            clear hb
            have e1 := eql_cells 0 0 0 false ⟨#[]⟩
            have e2 := eqlIn_cells 0 0 0 false ⟨#[]⟩
            have e3 := eqGuard_en
            go_wp2_with fail
            go_ret
            exact ⟨rfl, B9.out⟩
        · obtain rfl : false = tb0 := by rw [← HT.out]; simp [inR, h2]
          have h3 : decide (va ≤ s) = true := by simp [h1]
          have h4 : decide (s ≤ aa) = false := by simp [h2]
          obtain ⟨a0, a1, a2, a3, a4, af⟩ := A5.out
          obtain ⟨d0, d1, d2, d3, d4, df⟩ := D5.out
          obtain ⟨n2, HN⟩ : ∃ n, Hid (bad kb vb ab gb tb = n) := ⟨_, rfl⟩
          go_wp2_with fail
          clear a0 a1 a2 a3 a4 af
          clear d0 d1 d2 d3 d4 df
          refine (rEntry_c kb vb ab gb tb _).mono ?_
          rintro e w6 ⟨rfl, hb⟩
          have B6 : Hid (Below w.heap.size w w6) := B5.out.trans (hb.mono B5.out.size)
          have hz6 : w5.heap.size ≤ w6.heap.size := hb.size
          have A6 : Hid (BoxAt w6 (w.heap.size) ka va aa ga ta) := A5.out.below hb A5.out.lt
          have D6 : Hid (BoxAt w6 (w.heap.size + 1) kb vb ab gb tb) := D5.out.below hb D5.out.lt
          clear hb
          rw [HN.out]
          by_cases hn : n2 = 0
          · subst hn
            by_cases hk : ka = kb
            · have HK : Hid (ka = kb) := hk
              have hk2 : (ka == kb) = true := by simp [hk]
              have HB2 : Hid (bad2 (bad ka va aa ga ta) (bad kb vb ab gb tb) = 0) := by rw [HM.out, HN.out]; rfl
              obtain ⟨jk, jv, ja, jg, jt, n, HJ⟩ : ∃ jk jv ja jg jt n, Hid (joinE ⟨ka, va, aa, ga, ta⟩ ⟨kb, vb, ab, gb, tb⟩ = (⟨jk, jv, ja, jg, jt⟩, n)) := ⟨_, _, _, _, _, _, rfl⟩
              obtain ⟨a0, a1, a2, a3, a4, af⟩ := A6.out
              obtain ⟨d0, d1, d2, d3, d4, df⟩ := D6.out
              have la6 : w.heap.size < w6.heap.size := A6.out.lt
              have na6 : ¬ w.heap.size = w6.heap.size := by omega
              have ld6 : w.heap.size + 1 < w6.heap.size := D6.out.lt
              have nd6 : ¬ w.heap.size + 1 = w6.heap.size := by omega
              clear hk
              go_wp2_with fail
              clear a0 a1 a2 a3 a4 af
              clear d0 d1 d2 d3 d4 df
              refine (rJoin_o HB2.out HK.out HJ.out _).mono ?_
              rintro e w7 ⟨rfl, hb⟩
              have B7 : Hid (Below w.heap.size w w7) := (B6.out.alloc B6.out.size _).trans (hb.mono (by have := B6.out.size; simp; omega))
              have hz7 : w6.heap.size + 1 ≤ w7.heap.size := by have := hb.size; simpa using this
              have W7 : Hid (BoxAt w7 w6.heap.size 0 0 0 false ⟨#[]⟩) := (box_new w6 0 0 0 false ⟨#[]⟩ _ rfl).below hb (by simp)
              have A7 : Hid (BoxAt w7 w.heap.size ka va aa ga ta) := (A6.out.alloc _).below hb (A6.out.alloc _).lt
              have D7 : Hid (BoxAt w7 (w.heap.size + 1) kb vb ab gb tb) := (D6.out.alloc _).below hb (D6.out.alloc _).lt
              clear hb
              obtain ⟨a0, a1, a2, a3, a4, af⟩ := A7.out
              obtain ⟨d0, d1, d2, d3, d4, df⟩ := D7.out
              obtain ⟨q0, q1, q2, q3, q4, qf⟩ := W7.out
              go_wp2_with fail
              clear a0 a1 a2 a3 a4 af
              clear d0 d1 d2 d3 d4 df
              clear q0 q1 q2 q3 q4 qf
              refine (join_o HJ.out _).mono ?_
              rintro e w8 ⟨rfl, hb⟩
              have hq : w.heap.size ≤ w6.heap.size := B6.out.size
              have B7b : Below w.heap.size w (((((w7.setCell ⟨w6.heap.size, 0, none⟩ (.int .i64 jk)).setCell ⟨w6.heap.size, 1, none⟩ (.int .i64 jv)).setCell ⟨w6.heap.size, 2, none⟩ (.int .i64 ja)).setCell ⟨w6.heap.size, 3, none⟩ (.bool jg)).setCell ⟨w6.heap.size, 4, none⟩ (.string jt)) := ((((B7.out.setCell hq _).setCell hq _).setCell hq _).setCell hq _).setCell hq _
              have B8 : Hid (Below w.heap.size w w8) := B7b.trans (hb.mono B7b.size)
              have W8 : Hid (BoxAt w8 w6.heap.size jk jv ja jg jt) := (W7.out.set jk jv ja jg jt).below hb (W7.out.set jk jv ja jg jt).lt
              have hz8 : w7.heap.size ≤ w8.heap.size := by have := hb.size; simpa using this
              clear hb B7b
              go_wp2_with fail
              have E8 : Hid (HasErr (w8.alloc (.cells #[.int .i64 jk, .int .i64 jv, .int .i64 ja, .bool jg, .string jt] 25))) := HG.out.below hlt (B8.out.alloc B8.out.size _)
              refine (error_e n _ E8.out).mono ?_
              rintro e w9 ⟨rfl, hb⟩
              have B9 : Hid (Below w.heap.size w w9) := (B8.out.alloc B8.out.size _).trans (hb.mono (by have := B8.out.size; simp; omega))
              obtain ⟨q0, q1, q2, q3, q4, qf⟩ := (W8.out.alloc _).below hb (W8.out.alloc _).lt
              obtain ⟨x0, x1, x2, x3, x4, xf⟩ := (box_new w8 jk jv ja jg jt _ rfl).below hb (by simp)
              clear hb
              have e1 := eql_cells jk jv ja jg jt
              have e2 := eqlIn_cells jk jv ja jg jt
              have e3 := eqGuard_en
              go_wp2_with fail
              go_ret
              exact ⟨rfl, B9.out⟩
            · have hk2 : (ka == kb) = false := by simp [hk]
              have HK : Hid (ka ≠ kb) := hk
              clear hk
              obtain ⟨a0, a1, a2, a3, a4, af⟩ := A6.out
              obtain ⟨d0, d1, d2, d3, d4, df⟩ := D6.out
              have la6 : w.heap.size < w6.heap.size := A6.out.lt
              have na6 : ¬ w.heap.size = w6.heap.size := by omega
              have ld6 : w.heap.size + 1 < w6.heap.size := D6.out.lt
              have nd6 : ¬ w.heap.size + 1 = w6.heap.size := by omega
              go_wp2_with fail
              clear a0 a1 a2 a3 a4 af
              clear d0 d1 d2 d3 d4 df
              refine (join_err (joinE_key (x := ⟨ka, va, aa, ga, ta⟩) (y := ⟨kb, vb, ab, gb, tb⟩) HM.out HN.out HK.out) (show (3 : Int) ≠ 0 by decide) _).mono ?_
              rintro e w8 ⟨rfl, hb⟩
              have B8 : Hid (Below w.heap.size w w8) := (B6.out.alloc B6.out.size _).trans (hb.mono (by have := B6.out.size; simp; omega))
              have hz8 : w6.heap.size + 1 ≤ w8.heap.size := by have := hb.size; simpa using this
              have W8 : Hid (BoxAt w8 w6.heap.size 0 0 0 false ⟨#[]⟩) := (box_new w6 0 0 0 false ⟨#[]⟩ _ rfl).below hb (by simp)
              clear hb
              go_wp2_with fail
              have E8 : Hid (HasErr (w8.alloc (.cells #[.int .i64 0, .int .i64 0, .int .i64 0, .bool false, .string ⟨#[]⟩] 25))) := HG.out.below hlt (B8.out.alloc B8.out.size _)
              refine (error_i (show (3 : Int) ≠ 0 by decide) _ E8.out).mono ?_
              rintro e w9 ⟨rfl, hb⟩
              have B9 : Hid (Below w.heap.size w w9) := (B8.out.alloc B8.out.size _).trans (hb.mono (by have := B8.out.size; simp; omega))
              obtain ⟨q0, q1, q2, q3, q4, qf⟩ := (W8.out.alloc _).below hb (W8.out.alloc _).lt
              obtain ⟨x0, x1, x2, x3, x4, xf⟩ := (box_new w8 0 0 0 false ⟨#[]⟩ _ rfl).below hb (by simp)
              clear hb
              have e1 := eql_cells 0 0 0 false ⟨#[]⟩
              have e2 := eqlIn_cells 0 0 0 false ⟨#[]⟩
              have e3 := eqGuard_en
              go_wp2_with fail
              go_ret
              exact ⟨rfl, B9.out⟩
          · have hn2 : (n2 == 0) = false := by simp [hn]
            obtain ⟨a0, a1, a2, a3, a4, af⟩ := A6.out
            obtain ⟨d0, d1, d2, d3, d4, df⟩ := D6.out
            have la6 : w.heap.size < w6.heap.size := A6.out.lt
            have na6 : ¬ w.heap.size = w6.heap.size := by omega
            have ld6 : w.heap.size + 1 < w6.heap.size := D6.out.lt
            have nd6 : ¬ w.heap.size + 1 = w6.heap.size := by omega
            go_wp2_with fail
            clear a0 a1 a2 a3 a4 af
            clear d0 d1 d2 d3 d4 df
            refine (join_err (joinE_second (x := ⟨ka, va, aa, ga, ta⟩) (y := ⟨kb, vb, ab, gb, tb⟩) HM.out HN.out hn) hn _).mono ?_
            rintro e w8 ⟨rfl, hb⟩
            have B8 : Hid (Below w.heap.size w w8) := (B6.out.alloc B6.out.size _).trans (hb.mono (by have := B6.out.size; simp; omega))
            have hz8 : w6.heap.size + 1 ≤ w8.heap.size := by have := hb.size; simpa using this
            have W8 : Hid (BoxAt w8 w6.heap.size 0 0 0 false ⟨#[]⟩) := (box_new w6 0 0 0 false ⟨#[]⟩ _ rfl).below hb (by simp)
            clear hb
            go_wp2_with fail
            have E8 : Hid (HasErr (w8.alloc (.cells #[.int .i64 0, .int .i64 0, .int .i64 0, .bool false, .string ⟨#[]⟩] 25))) := HG.out.below hlt (B8.out.alloc B8.out.size _)
            refine (error_i hn _ E8.out).mono ?_
            rintro e w9 ⟨rfl, hb⟩
            have B9 : Hid (Below w.heap.size w w9) := (B8.out.alloc B8.out.size _).trans (hb.mono (by have := B8.out.size; simp; omega))
            obtain ⟨q0, q1, q2, q3, q4, qf⟩ := (W8.out.alloc _).below hb (W8.out.alloc _).lt
            obtain ⟨x0, x1, x2, x3, x4, xf⟩ := (box_new w8 0 0 0 false ⟨#[]⟩ _ rfl).below hb (by simp)
            clear hb
            have e1 := eql_cells 0 0 0 false ⟨#[]⟩
            have e2 := eqlIn_cells 0 0 0 false ⟨#[]⟩
            have e3 := eqGuard_en
            go_wp2_with fail
            go_ret
            exact ⟨rfl, B9.out⟩
      · obtain rfl : false = tb0 := by rw [← HT.out]; simp [inR, h1]
        have h3 : decide (va ≤ s) = false := by simp [h1]
        obtain ⟨a0, a1, a2, a3, a4, af⟩ := A5.out
        obtain ⟨d0, d1, d2, d3, d4, df⟩ := D5.out
        obtain ⟨n2, HN⟩ : ∃ n, Hid (bad kb vb ab gb tb = n) := ⟨_, rfl⟩
        go_wp2_with fail
        clear a0 a1 a2 a3 a4 af
        clear d0 d1 d2 d3 d4 df
        refine (rEntry_c kb vb ab gb tb _).mono ?_
        rintro e w6 ⟨rfl, hb⟩
        have B6 : Hid (Below w.heap.size w w6) := B5.out.trans (hb.mono B5.out.size)
        have hz6 : w5.heap.size ≤ w6.heap.size := hb.size
        have A6 : Hid (BoxAt w6 (w.heap.size) ka va aa ga ta) := A5.out.below hb A5.out.lt
        have D6 : Hid (BoxAt w6 (w.heap.size + 1) kb vb ab gb tb) := D5.out.below hb D5.out.lt
        clear hb
        rw [HN.out]
        by_cases hn : n2 = 0
        · subst hn
          by_cases hk : ka = kb
          · have HK : Hid (ka = kb) := hk
            have hk2 : (ka == kb) = true := by simp [hk]
            have HB2 : Hid (bad2 (bad ka va aa ga ta) (bad kb vb ab gb tb) = 0) := by rw [HM.out, HN.out]; rfl
            obtain ⟨jk, jv, ja, jg, jt, n, HJ⟩ : ∃ jk jv ja jg jt n, Hid (joinE ⟨ka, va, aa, ga, ta⟩ ⟨kb, vb, ab, gb, tb⟩ = (⟨jk, jv, ja, jg, jt⟩, n)) := ⟨_, _, _, _, _, _, rfl⟩
            obtain ⟨a0, a1, a2, a3, a4, af⟩ := A6.out
            obtain ⟨d0, d1, d2, d3, d4, df⟩ := D6.out
            have la6 : w.heap.size < w6.heap.size := A6.out.lt
            have na6 : ¬ w.heap.size = w6.heap.size := by omega
            have ld6 : w.heap.size + 1 < w6.heap.size := D6.out.lt
            have nd6 : ¬ w.heap.size + 1 = w6.heap.size := by omega
            clear hk
            go_wp2_with fail
            clear a0 a1 a2 a3 a4 af
            clear d0 d1 d2 d3 d4 df
            refine (rJoin_o HB2.out HK.out HJ.out _).mono ?_
            rintro e w7 ⟨rfl, hb⟩
            have B7 : Hid (Below w.heap.size w w7) := (B6.out.alloc B6.out.size _).trans (hb.mono (by have := B6.out.size; simp; omega))
            have hz7 : w6.heap.size + 1 ≤ w7.heap.size := by have := hb.size; simpa using this
            have W7 : Hid (BoxAt w7 w6.heap.size 0 0 0 false ⟨#[]⟩) := (box_new w6 0 0 0 false ⟨#[]⟩ _ rfl).below hb (by simp)
            have A7 : Hid (BoxAt w7 w.heap.size ka va aa ga ta) := (A6.out.alloc _).below hb (A6.out.alloc _).lt
            have D7 : Hid (BoxAt w7 (w.heap.size + 1) kb vb ab gb tb) := (D6.out.alloc _).below hb (D6.out.alloc _).lt
            clear hb
            obtain ⟨a0, a1, a2, a3, a4, af⟩ := A7.out
            obtain ⟨d0, d1, d2, d3, d4, df⟩ := D7.out
            obtain ⟨q0, q1, q2, q3, q4, qf⟩ := W7.out
            go_wp2_with fail
            clear a0 a1 a2 a3 a4 af
            clear d0 d1 d2 d3 d4 df
            clear q0 q1 q2 q3 q4 qf
            refine (join_o HJ.out _).mono ?_
            rintro e w8 ⟨rfl, hb⟩
            have hq : w.heap.size ≤ w6.heap.size := B6.out.size
            have B7b : Below w.heap.size w (((((w7.setCell ⟨w6.heap.size, 0, none⟩ (.int .i64 jk)).setCell ⟨w6.heap.size, 1, none⟩ (.int .i64 jv)).setCell ⟨w6.heap.size, 2, none⟩ (.int .i64 ja)).setCell ⟨w6.heap.size, 3, none⟩ (.bool jg)).setCell ⟨w6.heap.size, 4, none⟩ (.string jt)) := ((((B7.out.setCell hq _).setCell hq _).setCell hq _).setCell hq _).setCell hq _
            have B8 : Hid (Below w.heap.size w w8) := B7b.trans (hb.mono B7b.size)
            have W8 : Hid (BoxAt w8 w6.heap.size jk jv ja jg jt) := (W7.out.set jk jv ja jg jt).below hb (W7.out.set jk jv ja jg jt).lt
            have hz8 : w7.heap.size ≤ w8.heap.size := by have := hb.size; simpa using this
            clear hb B7b
            go_wp2_with fail
            have E8 : Hid (HasErr (w8.alloc (.cells #[.int .i64 jk, .int .i64 jv, .int .i64 ja, .bool jg, .string jt] 25))) := HG.out.below hlt (B8.out.alloc B8.out.size _)
            refine (error_e n _ E8.out).mono ?_
            rintro e w9 ⟨rfl, hb⟩
            have B9 : Hid (Below w.heap.size w w9) := (B8.out.alloc B8.out.size _).trans (hb.mono (by have := B8.out.size; simp; omega))
            obtain ⟨q0, q1, q2, q3, q4, qf⟩ := (W8.out.alloc _).below hb (W8.out.alloc _).lt
            obtain ⟨x0, x1, x2, x3, x4, xf⟩ := (box_new w8 jk jv ja jg jt _ rfl).below hb (by simp)
            clear hb
            have e1 := eql_cells jk jv ja jg jt
            have e2 := eqlIn_cells jk jv ja jg jt
            have e3 := eqGuard_en
            go_wp2_with fail
            go_ret
            exact ⟨rfl, B9.out⟩
          · have hk2 : (ka == kb) = false := by simp [hk]
            have HK : Hid (ka ≠ kb) := hk
            clear hk
            obtain ⟨a0, a1, a2, a3, a4, af⟩ := A6.out
            obtain ⟨d0, d1, d2, d3, d4, df⟩ := D6.out
            have la6 : w.heap.size < w6.heap.size := A6.out.lt
            have na6 : ¬ w.heap.size = w6.heap.size := by omega
            have ld6 : w.heap.size + 1 < w6.heap.size := D6.out.lt
            have nd6 : ¬ w.heap.size + 1 = w6.heap.size := by omega
            go_wp2_with fail
            clear a0 a1 a2 a3 a4 af
            clear d0 d1 d2 d3 d4 df
            refine (join_err (joinE_key (x := ⟨ka, va, aa, ga, ta⟩) (y := ⟨kb, vb, ab, gb, tb⟩) HM.out HN.out HK.out) (show (3 : Int) ≠ 0 by decide) _).mono ?_
            rintro e w8 ⟨rfl, hb⟩
            have B8 : Hid (Below w.heap.size w w8) := (B6.out.alloc B6.out.size _).trans (hb.mono (by have := B6.out.size; simp; omega))
            have hz8 : w6.heap.size + 1 ≤ w8.heap.size := by have := hb.size; simpa using this
            have W8 : Hid (BoxAt w8 w6.heap.size 0 0 0 false ⟨#[]⟩) := (box_new w6 0 0 0 false ⟨#[]⟩ _ rfl).below hb (by simp)
            clear hb
            go_wp2_with fail
            have E8 : Hid (HasErr (w8.alloc (.cells #[.int .i64 0, .int .i64 0, .int .i64 0, .bool false, .string ⟨#[]⟩] 25))) := HG.out.below hlt (B8.out.alloc B8.out.size _)
            refine (error_i (show (3 : Int) ≠ 0 by decide) _ E8.out).mono ?_
            rintro e w9 ⟨rfl, hb⟩
            have B9 : Hid (Below w.heap.size w w9) := (B8.out.alloc B8.out.size _).trans (hb.mono (by have := B8.out.size; simp; omega))
            obtain ⟨q0, q1, q2, q3, q4, qf⟩ := (W8.out.alloc _).below hb (W8.out.alloc _).lt
            obtain ⟨x0, x1, x2, x3, x4, xf⟩ := (box_new w8 0 0 0 false ⟨#[]⟩ _ rfl).below hb (by simp)
            clear hb
            have e1 := eql_cells 0 0 0 false ⟨#[]⟩
            have e2 := eqlIn_cells 0 0 0 false ⟨#[]⟩
            have e3 := eqGuard_en
            go_wp2_with fail
            go_ret
            exact ⟨rfl, B9.out⟩
        · have hn2 : (n2 == 0) = false := by simp [hn]
          obtain ⟨a0, a1, a2, a3, a4, af⟩ := A6.out
          obtain ⟨d0, d1, d2, d3, d4, df⟩ := D6.out
          have la6 : w.heap.size < w6.heap.size := A6.out.lt
          have na6 : ¬ w.heap.size = w6.heap.size := by omega
          have ld6 : w.heap.size + 1 < w6.heap.size := D6.out.lt
          have nd6 : ¬ w.heap.size + 1 = w6.heap.size := by omega
          go_wp2_with fail
          clear a0 a1 a2 a3 a4 af
          clear d0 d1 d2 d3 d4 df
          refine (join_err (joinE_second (x := ⟨ka, va, aa, ga, ta⟩) (y := ⟨kb, vb, ab, gb, tb⟩) HM.out HN.out hn) hn _).mono ?_
          rintro e w8 ⟨rfl, hb⟩
          have B8 : Hid (Below w.heap.size w w8) := (B6.out.alloc B6.out.size _).trans (hb.mono (by have := B6.out.size; simp; omega))
          have hz8 : w6.heap.size + 1 ≤ w8.heap.size := by have := hb.size; simpa using this
          have W8 : Hid (BoxAt w8 w6.heap.size 0 0 0 false ⟨#[]⟩) := (box_new w6 0 0 0 false ⟨#[]⟩ _ rfl).below hb (by simp)
          clear hb
          go_wp2_with fail
          have E8 : Hid (HasErr (w8.alloc (.cells #[.int .i64 0, .int .i64 0, .int .i64 0, .bool false, .string ⟨#[]⟩] 25))) := HG.out.below hlt (B8.out.alloc B8.out.size _)
          refine (error_i hn _ E8.out).mono ?_
          rintro e w9 ⟨rfl, hb⟩
          have B9 : Hid (Below w.heap.size w w9) := (B8.out.alloc B8.out.size _).trans (hb.mono (by have := B8.out.size; simp; omega))
          obtain ⟨q0, q1, q2, q3, q4, qf⟩ := (W8.out.alloc _).below hb (W8.out.alloc _).lt
          obtain ⟨x0, x1, x2, x3, x4, xf⟩ := (box_new w8 0 0 0 false ⟨#[]⟩ _ rfl).below hb (by simp)
          clear hb
          have e1 := eql_cells 0 0 0 false ⟨#[]⟩
          have e2 := eqlIn_cells 0 0 0 false ⟨#[]⟩
          have e3 := eqGuard_en
          go_wp2_with fail
          go_ret
          exact ⟨rfl, B9.out⟩
    · have HS : Hid (inR s 0 1000 = false) := by show inR s 0 1000 = false; simp [inR]; omega
      by_cases hs0 : s < 0
      · have hs1 : decide (s < 0) = true := by simp [hs0]
        clear hs
        go_wp2_with fail
        clear a0 a1 a2 a3 a4 af
        refine (true_seq HM.out HS.out _).mono ?_
        rintro e w4 ⟨rfl, hb⟩
        have B4 : Hid (Below w.heap.size w w4) := B3.out.trans (hb.mono B3.out.size)
        have hz4 : w3.heap.size ≤ w4.heap.size := hb.size
        have A4 : Hid (BoxAt w4 (w.heap.size) ka va aa ga ta) := A3.out.below hb A3.out.lt
        have D4 : Hid (BoxAt w4 (w.heap.size + 1) kb vb ab gb tb) := D3.out.below hb D3.out.lt
        clear hb
        obtain ⟨a0, a1, a2, a3, a4, af⟩ := A4.out
        go_wp2_with fail
        clear a0 a1 a2 a3 a4 af
        refine (error_i (show (1 : Int) ≠ 0 by decide) _ (HG.out.below hlt B4.out)).mono ?_
        rintro e w5 ⟨rfl, hb⟩
        have B5 : Hid (Below w.heap.size w w5) := B4.out.trans (hb.mono B4.out.size)
        have hz5 : w4.heap.size ≤ w5.heap.size := hb.size
        have A5 : Hid (BoxAt w5 (w.heap.size) ka va aa ga ta) := A4.out.below hb A4.out.lt
        have D5 : Hid (BoxAt w5 (w.heap.size + 1) kb vb ab gb tb) := D4.out.below hb D4.out.lt
        clear hb
        obtain ⟨a0, a1, a2, a3, a4, af⟩ := A5.out
        obtain ⟨d0, d1, d2, d3, d4, df⟩ := D5.out
        obtain ⟨n2, HN⟩ : ∃ n, Hid (bad kb vb ab gb tb = n) := ⟨_, rfl⟩
        go_wp2_with fail
        clear a0 a1 a2 a3 a4 af
        clear d0 d1 d2 d3 d4 df
        refine (rEntry_c kb vb ab gb tb _).mono ?_
        rintro e w6 ⟨rfl, hb⟩
        have B6 : Hid (Below w.heap.size w w6) := B5.out.trans (hb.mono B5.out.size)
        have hz6 : w5.heap.size ≤ w6.heap.size := hb.size
        have A6 : Hid (BoxAt w6 (w.heap.size) ka va aa ga ta) := A5.out.below hb A5.out.lt
        have D6 : Hid (BoxAt w6 (w.heap.size + 1) kb vb ab gb tb) := D5.out.below hb D5.out.lt
        clear hb
        rw [HN.out]
        by_cases hn : n2 = 0
        · subst hn
          by_cases hk : ka = kb
          · have HK : Hid (ka = kb) := hk
            have hk2 : (ka == kb) = true := by simp [hk]
            have HB2 : Hid (bad2 (bad ka va aa ga ta) (bad kb vb ab gb tb) = 0) := by rw [HM.out, HN.out]; rfl
            obtain ⟨jk, jv, ja, jg, jt, n, HJ⟩ : ∃ jk jv ja jg jt n, Hid (joinE ⟨ka, va, aa, ga, ta⟩ ⟨kb, vb, ab, gb, tb⟩ = (⟨jk, jv, ja, jg, jt⟩, n)) := ⟨_, _, _, _, _, _, rfl⟩
            obtain ⟨a0, a1, a2, a3, a4, af⟩ := A6.out
            obtain ⟨d0, d1, d2, d3, d4, df⟩ := D6.out
            have la6 : w.heap.size < w6.heap.size := A6.out.lt
            have na6 : ¬ w.heap.size = w6.heap.size := by omega
            have ld6 : w.heap.size + 1 < w6.heap.size := D6.out.lt
            have nd6 : ¬ w.heap.size + 1 = w6.heap.size := by omega
            clear hk
            go_wp2_with fail
            clear a0 a1 a2 a3 a4 af
            clear d0 d1 d2 d3 d4 df
            refine (rJoin_o HB2.out HK.out HJ.out _).mono ?_
            rintro e w7 ⟨rfl, hb⟩
            have B7 : Hid (Below w.heap.size w w7) := (B6.out.alloc B6.out.size _).trans (hb.mono (by have := B6.out.size; simp; omega))
            have hz7 : w6.heap.size + 1 ≤ w7.heap.size := by have := hb.size; simpa using this
            have W7 : Hid (BoxAt w7 w6.heap.size 0 0 0 false ⟨#[]⟩) := (box_new w6 0 0 0 false ⟨#[]⟩ _ rfl).below hb (by simp)
            have A7 : Hid (BoxAt w7 w.heap.size ka va aa ga ta) := (A6.out.alloc _).below hb (A6.out.alloc _).lt
            have D7 : Hid (BoxAt w7 (w.heap.size + 1) kb vb ab gb tb) := (D6.out.alloc _).below hb (D6.out.alloc _).lt
            clear hb
            obtain ⟨a0, a1, a2, a3, a4, af⟩ := A7.out
            obtain ⟨d0, d1, d2, d3, d4, df⟩ := D7.out
            obtain ⟨q0, q1, q2, q3, q4, qf⟩ := W7.out
            go_wp2_with fail
            clear a0 a1 a2 a3 a4 af
            clear d0 d1 d2 d3 d4 df
            clear q0 q1 q2 q3 q4 qf
            refine (join_o HJ.out _).mono ?_
            rintro e w8 ⟨rfl, hb⟩
            have hq : w.heap.size ≤ w6.heap.size := B6.out.size
            have B7b : Below w.heap.size w (((((w7.setCell ⟨w6.heap.size, 0, none⟩ (.int .i64 jk)).setCell ⟨w6.heap.size, 1, none⟩ (.int .i64 jv)).setCell ⟨w6.heap.size, 2, none⟩ (.int .i64 ja)).setCell ⟨w6.heap.size, 3, none⟩ (.bool jg)).setCell ⟨w6.heap.size, 4, none⟩ (.string jt)) := ((((B7.out.setCell hq _).setCell hq _).setCell hq _).setCell hq _).setCell hq _
            have B8 : Hid (Below w.heap.size w w8) := B7b.trans (hb.mono B7b.size)
            have W8 : Hid (BoxAt w8 w6.heap.size jk jv ja jg jt) := (W7.out.set jk jv ja jg jt).below hb (W7.out.set jk jv ja jg jt).lt
            have hz8 : w7.heap.size ≤ w8.heap.size := by have := hb.size; simpa using this
            clear hb B7b
            go_wp2_with fail
            have E8 : Hid (HasErr (w8.alloc (.cells #[.int .i64 jk, .int .i64 jv, .int .i64 ja, .bool jg, .string jt] 25))) := HG.out.below hlt (B8.out.alloc B8.out.size _)
            refine (error_e n _ E8.out).mono ?_
            rintro e w9 ⟨rfl, hb⟩
            have B9 : Hid (Below w.heap.size w w9) := (B8.out.alloc B8.out.size _).trans (hb.mono (by have := B8.out.size; simp; omega))
            obtain ⟨q0, q1, q2, q3, q4, qf⟩ := (W8.out.alloc _).below hb (W8.out.alloc _).lt
            obtain ⟨x0, x1, x2, x3, x4, xf⟩ := (box_new w8 jk jv ja jg jt _ rfl).below hb (by simp)
            clear hb
            have e1 := eql_cells jk jv ja jg jt
            have e2 := eqlIn_cells jk jv ja jg jt
            have e3 := eqGuard_en
            go_wp2_with fail
            go_ret
            exact ⟨rfl, B9.out⟩
          · have hk2 : (ka == kb) = false := by simp [hk]
            have HK : Hid (ka ≠ kb) := hk
            clear hk
            obtain ⟨a0, a1, a2, a3, a4, af⟩ := A6.out
            obtain ⟨d0, d1, d2, d3, d4, df⟩ := D6.out
            have la6 : w.heap.size < w6.heap.size := A6.out.lt
            have na6 : ¬ w.heap.size = w6.heap.size := by omega
            have ld6 : w.heap.size + 1 < w6.heap.size := D6.out.lt
            have nd6 : ¬ w.heap.size + 1 = w6.heap.size := by omega
            go_wp2_with fail
            clear a0 a1 a2 a3 a4 af
            clear d0 d1 d2 d3 d4 df
            refine (join_err (joinE_key (x := ⟨ka, va, aa, ga, ta⟩) (y := ⟨kb, vb, ab, gb, tb⟩) HM.out HN.out HK.out) (show (3 : Int) ≠ 0 by decide) _).mono ?_
            rintro e w8 ⟨rfl, hb⟩
            have B8 : Hid (Below w.heap.size w w8) := (B6.out.alloc B6.out.size _).trans (hb.mono (by have := B6.out.size; simp; omega))
            have hz8 : w6.heap.size + 1 ≤ w8.heap.size := by have := hb.size; simpa using this
            have W8 : Hid (BoxAt w8 w6.heap.size 0 0 0 false ⟨#[]⟩) := (box_new w6 0 0 0 false ⟨#[]⟩ _ rfl).below hb (by simp)
            clear hb
            go_wp2_with fail
            have E8 : Hid (HasErr (w8.alloc (.cells #[.int .i64 0, .int .i64 0, .int .i64 0, .bool false, .string ⟨#[]⟩] 25))) := HG.out.below hlt (B8.out.alloc B8.out.size _)
            refine (error_i (show (3 : Int) ≠ 0 by decide) _ E8.out).mono ?_
            rintro e w9 ⟨rfl, hb⟩
            have B9 : Hid (Below w.heap.size w w9) := (B8.out.alloc B8.out.size _).trans (hb.mono (by have := B8.out.size; simp; omega))
            obtain ⟨q0, q1, q2, q3, q4, qf⟩ := (W8.out.alloc _).below hb (W8.out.alloc _).lt
            obtain ⟨x0, x1, x2, x3, x4, xf⟩ := (box_new w8 0 0 0 false ⟨#[]⟩ _ rfl).below hb (by simp)
            clear hb
            have e1 := eql_cells 0 0 0 false ⟨#[]⟩
            have e2 := eqlIn_cells 0 0 0 false ⟨#[]⟩
            have e3 := eqGuard_en
            go_wp2_with fail
            go_ret
            exact ⟨rfl, B9.out⟩
        · have hn2 : (n2 == 0) = false := by simp [hn]
          obtain ⟨a0, a1, a2, a3, a4, af⟩ := A6.out
          obtain ⟨d0, d1, d2, d3, d4, df⟩ := D6.out
          have la6 : w.heap.size < w6.heap.size := A6.out.lt
          have na6 : ¬ w.heap.size = w6.heap.size := by omega
          have ld6 : w.heap.size + 1 < w6.heap.size := D6.out.lt
          have nd6 : ¬ w.heap.size + 1 = w6.heap.size := by omega
          go_wp2_with fail
          clear a0 a1 a2 a3 a4 af
          clear d0 d1 d2 d3 d4 df
          refine (join_err (joinE_second (x := ⟨ka, va, aa, ga, ta⟩) (y := ⟨kb, vb, ab, gb, tb⟩) HM.out HN.out hn) hn _).mono ?_
          rintro e w8 ⟨rfl, hb⟩
          have B8 : Hid (Below w.heap.size w w8) := (B6.out.alloc B6.out.size _).trans (hb.mono (by have := B6.out.size; simp; omega))
          have hz8 : w6.heap.size + 1 ≤ w8.heap.size := by have := hb.size; simpa using this
          have W8 : Hid (BoxAt w8 w6.heap.size 0 0 0 false ⟨#[]⟩) := (box_new w6 0 0 0 false ⟨#[]⟩ _ rfl).below hb (by simp)
          clear hb
          go_wp2_with fail
          have E8 : Hid (HasErr (w8.alloc (.cells #[.int .i64 0, .int .i64 0, .int .i64 0, .bool false, .string ⟨#[]⟩] 25))) := HG.out.below hlt (B8.out.alloc B8.out.size _)
          refine (error_i hn _ E8.out).mono ?_
          rintro e w9 ⟨rfl, hb⟩
          have B9 : Hid (Below w.heap.size w w9) := (B8.out.alloc B8.out.size _).trans (hb.mono (by have := B8.out.size; simp; omega))
          obtain ⟨q0, q1, q2, q3, q4, qf⟩ := (W8.out.alloc _).below hb (W8.out.alloc _).lt
          obtain ⟨x0, x1, x2, x3, x4, xf⟩ := (box_new w8 0 0 0 false ⟨#[]⟩ _ rfl).below hb (by simp)
          clear hb
          have e1 := eql_cells 0 0 0 false ⟨#[]⟩
          have e2 := eqlIn_cells 0 0 0 false ⟨#[]⟩
          have e3 := eqGuard_en
          go_wp2_with fail
          go_ret
          exact ⟨rfl, B9.out⟩
      · have hs1 : decide (s < 0) = false := by simp [hs0]
        have hs2 : 1000 < s := by omega
        clear hs
        go_wp2_with fail
        clear a0 a1 a2 a3 a4 af
        refine (true_seq HM.out HS.out _).mono ?_
        rintro e w4 ⟨rfl, hb⟩
        have B4 : Hid (Below w.heap.size w w4) := B3.out.trans (hb.mono B3.out.size)
        have hz4 : w3.heap.size ≤ w4.heap.size := hb.size
        have A4 : Hid (BoxAt w4 (w.heap.size) ka va aa ga ta) := A3.out.below hb A3.out.lt
        have D4 : Hid (BoxAt w4 (w.heap.size + 1) kb vb ab gb tb) := D3.out.below hb D3.out.lt
        clear hb
        obtain ⟨a0, a1, a2, a3, a4, af⟩ := A4.out
        go_wp2_with fail
        clear a0 a1 a2 a3 a4 af
        refine (error_i (show (1 : Int) ≠ 0 by decide) _ (HG.out.below hlt B4.out)).mono ?_
        rintro e w5 ⟨rfl, hb⟩
        have B5 : Hid (Below w.heap.size w w5) := B4.out.trans (hb.mono B4.out.size)
        have hz5 : w4.heap.size ≤ w5.heap.size := hb.size
        have A5 : Hid (BoxAt w5 (w.heap.size) ka va aa ga ta) := A4.out.below hb A4.out.lt
        have D5 : Hid (BoxAt w5 (w.heap.size + 1) kb vb ab gb tb) := D4.out.below hb D4.out.lt
        clear hb
        obtain ⟨a0, a1, a2, a3, a4, af⟩ := A5.out
        obtain ⟨d0, d1, d2, d3, d4, df⟩ := D5.out
        obtain ⟨n2, HN⟩ : ∃ n, Hid (bad kb vb ab gb tb = n) := ⟨_, rfl⟩
        go_wp2_with fail
        clear a0 a1 a2 a3 a4 af
        clear d0 d1 d2 d3 d4 df
        refine (rEntry_c kb vb ab gb tb _).mono ?_
        rintro e w6 ⟨rfl, hb⟩
        have B6 : Hid (Below w.heap.size w w6) := B5.out.trans (hb.mono B5.out.size)
        have hz6 : w5.heap.size ≤ w6.heap.size := hb.size
        have A6 : Hid (BoxAt w6 (w.heap.size) ka va aa ga ta) := A5.out.below hb A5.out.lt
        have D6 : Hid (BoxAt w6 (w.heap.size + 1) kb vb ab gb tb) := D5.out.below hb D5.out.lt
        clear hb
        rw [HN.out]
        by_cases hn : n2 = 0
        · subst hn
          by_cases hk : ka = kb
          · have HK : Hid (ka = kb) := hk
            have hk2 : (ka == kb) = true := by simp [hk]
            have HB2 : Hid (bad2 (bad ka va aa ga ta) (bad kb vb ab gb tb) = 0) := by rw [HM.out, HN.out]; rfl
            obtain ⟨jk, jv, ja, jg, jt, n, HJ⟩ : ∃ jk jv ja jg jt n, Hid (joinE ⟨ka, va, aa, ga, ta⟩ ⟨kb, vb, ab, gb, tb⟩ = (⟨jk, jv, ja, jg, jt⟩, n)) := ⟨_, _, _, _, _, _, rfl⟩
            obtain ⟨a0, a1, a2, a3, a4, af⟩ := A6.out
            obtain ⟨d0, d1, d2, d3, d4, df⟩ := D6.out
            have la6 : w.heap.size < w6.heap.size := A6.out.lt
            have na6 : ¬ w.heap.size = w6.heap.size := by omega
            have ld6 : w.heap.size + 1 < w6.heap.size := D6.out.lt
            have nd6 : ¬ w.heap.size + 1 = w6.heap.size := by omega
            clear hk
            go_wp2_with fail
            clear a0 a1 a2 a3 a4 af
            clear d0 d1 d2 d3 d4 df
            refine (rJoin_o HB2.out HK.out HJ.out _).mono ?_
            rintro e w7 ⟨rfl, hb⟩
            have B7 : Hid (Below w.heap.size w w7) := (B6.out.alloc B6.out.size _).trans (hb.mono (by have := B6.out.size; simp; omega))
            have hz7 : w6.heap.size + 1 ≤ w7.heap.size := by have := hb.size; simpa using this
            have W7 : Hid (BoxAt w7 w6.heap.size 0 0 0 false ⟨#[]⟩) := (box_new w6 0 0 0 false ⟨#[]⟩ _ rfl).below hb (by simp)
            have A7 : Hid (BoxAt w7 w.heap.size ka va aa ga ta) := (A6.out.alloc _).below hb (A6.out.alloc _).lt
            have D7 : Hid (BoxAt w7 (w.heap.size + 1) kb vb ab gb tb) := (D6.out.alloc _).below hb (D6.out.alloc _).lt
            clear hb
            obtain ⟨a0, a1, a2, a3, a4, af⟩ := A7.out
            obtain ⟨d0, d1, d2, d3, d4, df⟩ := D7.out
            obtain ⟨q0, q1, q2, q3, q4, qf⟩ := W7.out
            go_wp2_with fail
            clear a0 a1 a2 a3 a4 af
            clear d0 d1 d2 d3 d4 df
            clear q0 q1 q2 q3 q4 qf
            refine (join_o HJ.out _).mono ?_
            rintro e w8 ⟨rfl, hb⟩
            have hq : w.heap.size ≤ w6.heap.size := B6.out.size
            have B7b : Below w.heap.size w (((((w7.setCell ⟨w6.heap.size, 0, none⟩ (.int .i64 jk)).setCell ⟨w6.heap.size, 1, none⟩ (.int .i64 jv)).setCell ⟨w6.heap.size, 2, none⟩ (.int .i64 ja)).setCell ⟨w6.heap.size, 3, none⟩ (.bool jg)).setCell ⟨w6.heap.size, 4, none⟩ (.string jt)) := ((((B7.out.setCell hq _).setCell hq _).setCell hq _).setCell hq _).setCell hq _
            have B8 : Hid (Below w.heap.size w w8) := B7b.trans (hb.mono B7b.size)
            have W8 : Hid (BoxAt w8 w6.heap.size jk jv ja jg jt) := (W7.out.set jk jv ja jg jt).below hb (W7.out.set jk jv ja jg jt).lt
            have hz8 : w7.heap.size ≤ w8.heap.size := by have := hb.size; simpa using this
            clear hb B7b
            go_wp2_with fail
            have E8 : Hid (HasErr (w8.alloc (.cells #[.int .i64 jk, .int .i64 jv, .int .i64 ja, .bool jg, .string jt] 25))) := HG.out.below hlt (B8.out.alloc B8.out.size _)
            refine (error_e n _ E8.out).mono ?_
            rintro e w9 ⟨rfl, hb⟩
            have B9 : Hid (Below w.heap.size w w9) := (B8.out.alloc B8.out.size _).trans (hb.mono (by have := B8.out.size; simp; omega))
            obtain ⟨q0, q1, q2, q3, q4, qf⟩ := (W8.out.alloc _).below hb (W8.out.alloc _).lt
            obtain ⟨x0, x1, x2, x3, x4, xf⟩ := (box_new w8 jk jv ja jg jt _ rfl).below hb (by simp)
            clear hb
            have e1 := eql_cells jk jv ja jg jt
            have e2 := eqlIn_cells jk jv ja jg jt
            have e3 := eqGuard_en
            go_wp2_with fail
            go_ret
            exact ⟨rfl, B9.out⟩
          · have hk2 : (ka == kb) = false := by simp [hk]
            have HK : Hid (ka ≠ kb) := hk
            clear hk
            obtain ⟨a0, a1, a2, a3, a4, af⟩ := A6.out
            obtain ⟨d0, d1, d2, d3, d4, df⟩ := D6.out
            have la6 : w.heap.size < w6.heap.size := A6.out.lt
            have na6 : ¬ w.heap.size = w6.heap.size := by omega
            have ld6 : w.heap.size + 1 < w6.heap.size := D6.out.lt
            have nd6 : ¬ w.heap.size + 1 = w6.heap.size := by omega
            go_wp2_with fail
            clear a0 a1 a2 a3 a4 af
            clear d0 d1 d2 d3 d4 df
            refine (join_err (joinE_key (x := ⟨ka, va, aa, ga, ta⟩) (y := ⟨kb, vb, ab, gb, tb⟩) HM.out HN.out HK.out) (show (3 : Int) ≠ 0 by decide) _).mono ?_
            rintro e w8 ⟨rfl, hb⟩
            have B8 : Hid (Below w.heap.size w w8) := (B6.out.alloc B6.out.size _).trans (hb.mono (by have := B6.out.size; simp; omega))
            have hz8 : w6.heap.size + 1 ≤ w8.heap.size := by have := hb.size; simpa using this
            have W8 : Hid (BoxAt w8 w6.heap.size 0 0 0 false ⟨#[]⟩) := (box_new w6 0 0 0 false ⟨#[]⟩ _ rfl).below hb (by simp)
            clear hb
            go_wp2_with fail
            have E8 : Hid (HasErr (w8.alloc (.cells #[.int .i64 0, .int .i64 0, .int .i64 0, .bool false, .string ⟨#[]⟩] 25))) := HG.out.below hlt (B8.out.alloc B8.out.size _)
            refine (error_i (show (3 : Int) ≠ 0 by decide) _ E8.out).mono ?_
            rintro e w9 ⟨rfl, hb⟩
            have B9 : Hid (Below w.heap.size w w9) := (B8.out.alloc B8.out.size _).trans (hb.mono (by have := B8.out.size; simp; omega))
            obtain ⟨q0, q1, q2, q3, q4, qf⟩ := (W8.out.alloc _).below hb (W8.out.alloc _).lt
            obtain ⟨x0, x1, x2, x3, x4, xf⟩ := (box_new w8 0 0 0 false ⟨#[]⟩ _ rfl).below hb (by simp)
            clear hb
            have e1 := eql_cells 0 0 0 false ⟨#[]⟩
            have e2 := eqlIn_cells 0 0 0 false ⟨#[]⟩
            have e3 := eqGuard_en
            go_wp2_with fail
            go_ret
            exact ⟨rfl, B9.out⟩
        · have hn2 : (n2 == 0) = false := by simp [hn]
          obtain ⟨a0, a1, a2, a3, a4, af⟩ := A6.out
          obtain ⟨d0, d1, d2, d3, d4, df⟩ := D6.out
          have la6 : w.heap.size < w6.heap.size := A6.out.lt
          have na6 : ¬ w.heap.size = w6.heap.size := by omega
          have ld6 : w.heap.size + 1 < w6.heap.size := D6.out.lt
          have nd6 : ¬ w.heap.size + 1 = w6.heap.size := by omega
          go_wp2_with fail
          clear a0 a1 a2 a3 a4 af
          clear d0 d1 d2 d3 d4 df
          refine (join_err (joinE_second (x := ⟨ka, va, aa, ga, ta⟩) (y := ⟨kb, vb, ab, gb, tb⟩) HM.out HN.out hn) hn _).mono ?_
          rintro e w8 ⟨rfl, hb⟩
          have B8 : Hid (Below w.heap.size w w8) := (B6.out.alloc B6.out.size _).trans (hb.mono (by have := B6.out.size; simp; omega))
          have hz8 : w6.heap.size + 1 ≤ w8.heap.size := by have := hb.size; simpa using this
          have W8 : Hid (BoxAt w8 w6.heap.size 0 0 0 false ⟨#[]⟩) := (box_new w6 0 0 0 false ⟨#[]⟩ _ rfl).below hb (by simp)
          clear hb
          go_wp2_with fail
          have E8 : Hid (HasErr (w8.alloc (.cells #[.int .i64 0, .int .i64 0, .int .i64 0, .bool false, .string ⟨#[]⟩] 25))) := HG.out.below hlt (B8.out.alloc B8.out.size _)
          refine (error_i hn _ E8.out).mono ?_
          rintro e w9 ⟨rfl, hb⟩
          have B9 : Hid (Below w.heap.size w w9) := (B8.out.alloc B8.out.size _).trans (hb.mono (by have := B8.out.size; simp; omega))
          obtain ⟨q0, q1, q2, q3, q4, qf⟩ := (W8.out.alloc _).below hb (W8.out.alloc _).lt
          obtain ⟨x0, x1, x2, x3, x4, xf⟩ := (box_new w8 0 0 0 false ⟨#[]⟩ _ rfl).below hb (by simp)
          clear hb
          have e1 := eql_cells 0 0 0 false ⟨#[]⟩
          have e2 := eqlIn_cells 0 0 0 false ⟨#[]⟩
          have e3 := eqGuard_en
          go_wp2_with fail
          go_ret
          exact ⟨rfl, B9.out⟩
  · skip
    obtain ⟨a0, a1, a2, a3, a4, af⟩ := A1.out
    go_wp2_with fail
    clear a0 a1 a2 a3 a4 af
    refine (check_err HM.out hm _).mono ?_
    rintro e w2 ⟨rfl, hb⟩
    have B2 : Hid (Below w.heap.size w w2) := B1.out.trans (hb.mono B1.out.size)
    have hz2 : w1.heap.size ≤ w2.heap.size := hb.size
    have A2 : Hid (BoxAt w2 (w.heap.size) ka va aa ga ta) := A1.out.below hb A1.out.lt
    have D2 : Hid (BoxAt w2 (w.heap.size + 1) kb vb ab gb tb) := D1.out.below hb D1.out.lt
    clear hb
    go_wp2_with fail
    refine (error_i hm _ (HG.out.below hlt B2.out)).mono ?_
    rintro e w3 ⟨rfl, hb⟩
    have B3 : Hid (Below w.heap.size w w3) := B2.out.trans (hb.mono B2.out.size)
    have hz3 : w2.heap.size ≤ w3.heap.size := hb.size
    have A3 : Hid (BoxAt w3 (w.heap.size) ka va aa ga ta) := A2.out.below hb A2.out.lt
    have D3 : Hid (BoxAt w3 (w.heap.size + 1) kb vb ab gb tb) := D2.out.below hb D2.out.lt
    clear hb
    obtain ⟨a0, a1, a2, a3, a4, af⟩ := A3.out
    have hm2 : (m == 0) = false := by simp [hm]
    have hm3 : decide (m = 0) = false := by simp [hm]
    go_wp2_with fail
    clear a0 a1 a2 a3 a4 af
    refine (true_bad s HM.out hm _).mono ?_
    rintro e w4 ⟨rfl, hb⟩
    have B4 : Hid (Below w.heap.size w w4) := B3.out.trans (hb.mono B3.out.size)
    have hz4 : w3.heap.size ≤ w4.heap.size := hb.size
    have A4 : Hid (BoxAt w4 (w.heap.size) ka va aa ga ta) := A3.out.below hb A3.out.lt
    have D4 : Hid (BoxAt w4 (w.heap.size + 1) kb vb ab gb tb) := D3.out.below hb D3.out.lt
    clear hb
    obtain ⟨a0, a1, a2, a3, a4, af⟩ := A4.out
    go_wp2_with fail
    clear a0 a1 a2 a3 a4 af
    refine (error_i hm _ (HG.out.below hlt B4.out)).mono ?_
    rintro e w5 ⟨rfl, hb⟩
    have B5 : Hid (Below w.heap.size w w5) := B4.out.trans (hb.mono B4.out.size)
    have hz5 : w4.heap.size ≤ w5.heap.size := hb.size
    have A5 : Hid (BoxAt w5 (w.heap.size) ka va aa ga ta) := A4.out.below hb A4.out.lt
    have D5 : Hid (BoxAt w5 (w.heap.size + 1) kb vb ab gb tb) := D4.out.below hb D4.out.lt
    clear hb
    obtain ⟨a0, a1, a2, a3, a4, af⟩ := A5.out
    obtain ⟨d0, d1, d2, d3, d4, df⟩ := D5.out
    have la5 : w.heap.size < w5.heap.size := A5.out.lt
    have na5 : ¬ w.heap.size = w5.heap.size := by omega
    have ld5 : w.heap.size + 1 < w5.heap.size := D5.out.lt
    have nd5 : ¬ w.heap.size + 1 = w5.heap.size := by omega
    go_wp2_with fail
    clear a0 a1 a2 a3 a4 af
    clear d0 d1 d2 d3 d4 df
    refine (join_err (joinE_first (x := ⟨ka, va, aa, ga, ta⟩) (y := ⟨kb, vb, ab, gb, tb⟩) HM.out hm) hm _).mono ?_
    rintro e w8 ⟨rfl, hb⟩
    have B8 : Hid (Below w.heap.size w w8) := (B5.out.alloc B5.out.size _).trans (hb.mono (by have := B5.out.size; simp; omega))
    have hz8 : w5.heap.size + 1 ≤ w8.heap.size := by have := hb.size; simpa using this
    have W8 : Hid (BoxAt w8 w5.heap.size 0 0 0 false ⟨#[]⟩) := (box_new w5 0 0 0 false ⟨#[]⟩ _ rfl).below hb (by simp)
    clear hb
    go_wp2_with fail
    have E8 : Hid (HasErr (w8.alloc (.cells #[.int .i64 0, .int .i64 0, .int .i64 0, .bool false, .string ⟨#[]⟩] 25))) := HG.out.below hlt (B8.out.alloc B8.out.size _)
    refine (error_i hm _ E8.out).mono ?_
    rintro e w9 ⟨rfl, hb⟩
    have B9 : Hid (Below w.heap.size w w9) := (B8.out.alloc B8.out.size _).trans (hb.mono (by have := B8.out.size; simp; omega))
    obtain ⟨q0, q1, q2, q3, q4, qf⟩ := (W8.out.alloc _).below hb (W8.out.alloc _).lt
    obtain ⟨x0, x1, x2, x3, x4, xf⟩ := (box_new w8 0 0 0 false ⟨#[]⟩ _ rfl).below hb (by simp)
    clear hb
    have e1 := eql_cells 0 0 0 false ⟨#[]⟩
    have e2 := eqlIn_cells 0 0 0 false ⟨#[]⟩
    have e3 := eqGuard_en
    go_wp2_with fail
    go_ret
    exact ⟨rfl, B9.out⟩
end Go.Proofs.YtgncclahhejcdaaDoor.entryTells
