/-
  The walk of merelaw1.EntryJoins: what is known by two is known by both, either way round, and as often as one likes.
-/
import Derived.Test.YtdmgghcecfhkoaaJoinM
import Derived.BigQuiet
namespace Go.Proofs.Ytdmgghcecfhkoaa.entryJoins
set_option linter.unusedVariables false
set_option linter.unusedSimpArgs false
open Go.RowKit
theorem fact : joinE ⟨1, 2, 5, false, ⟨#[120]⟩⟩ ⟨1, 2, 9, false, ⟨#[120]⟩⟩ = (⟨1, 2, 9, false, ⟨#[120]⟩⟩, 0) := by
  rw [joinE_iff]
  refine ⟨by decide +kernel, by decide +kernel, rfl, Or.inr (Or.inl ⟨rfl, rfl, rfl, by decide, rfl⟩)⟩
theorem bad_upto {e : En} (h : e.bad = 0) : e.v ≤ e.a := by
  unfold En.bad at h
  by_cases hx : (inR e.k 0 7 && inR e.v 0 1000 && inR e.a e.v 1000) = false
  · rw [bad_ver hx] at h
    exact absurd h (by decide)
  · simp [inR] at hx
    omega
theorem known_bad {a b x : En} (h : Known a b x) (ha : a.bad = 0) (hb : b.bad = 0) : x.bad = 0 := by
  rcases h.one with rfl | rfl
  · exact ha
  · exact hb
theorem of_known {a b x : En} (ha : a.bad = 0) (hb : b.bad = 0) (h : Known a b x) : joinE a b = (x, 0) := joinE_iff.2 ⟨ha, hb, h⟩
set_option maxRecDepth 100000 in
set_option maxHeartbeats 8000000 in
theorem walk (ka va aa : Int) (ga : Bool) (ta : ByteArray) (kb vb ab : Int) (gb : Bool) (tb : ByteArray) (kc vc ac : Int) (gc : Bool) (tc : ByteArray) (w : World) :
    Calls Try.prog 4 #[.agg #[.int .i64 ka, .int .i64 va, .int .i64 aa, .bool ga, .string ta], .agg #[.int .i64 kb, .int .i64 vb, .int .i64 ab, .bool gb, .string tb], .agg #[.int .i64 kc, .int .i64 vc, .int .i64 ac, .bool gc, .string tc]] w fun e w' => e = .returned (.bool true) ∧ Below w.heap.size w w' := by
  obtain ⟨kx, vx, ax, gx, tx, n, HX⟩ : ∃ kx vx ax gx tx n, Hid (joinE ⟨ka, va, aa, ga, ta⟩ ⟨kb, vb, ab, gb, tb⟩ = (⟨kx, vx, ax, gx, tx⟩, n)) := ⟨_, _, _, _, _, _, rfl⟩
  go_enter Try.func4, Try.ntmps4
  go_wp2_with fail
  refine (join_ok fact _).mono ?_
  rintro e w1 ⟨rfl, hb⟩
  have B1 : Hid (Below w.heap.size w w1) := Below.trans (by go_grown) (hb.mono (by simp; omega))
  have A1 : Hid (BoxAt w1 w.heap.size ka va aa ga ta) := (((box_new w ka va aa ga ta w.heap.size rfl).alloc _).alloc _).below hb (by simp; omega)
  have Bb1 : Hid (BoxAt w1 (w.heap.size + 1) kb vb ab gb tb) := ((box_new _ kb vb ab gb tb (w.heap.size + 1) (by simp)).alloc _).below hb (by simp)
  have C1 : Hid (BoxAt w1 (w.heap.size + 1 + 1) kc vc ac gc tc) := (box_new _ kc vc ac gc tc (w.heap.size + 1 + 1) (by simp)).below hb (by simp)
  have hz : w.heap.size + 3 ≤ w1.heap.size := by have := hb.size; simp at this; omega
  clear hb
  obtain ⟨ac0, ac1, ac2, ac3, ac4, acf⟩ := A1.out
  have al1 : w.heap.size < w1.heap.size := by omega
  have an1 : ¬ w.heap.size = w1.heap.size := by omega
  obtain ⟨bc0, bc1, bc2, bc3, bc4, bcf⟩ := Bb1.out
  have bl1 : w.heap.size + 1 < w1.heap.size := by omega
  have bn1 : ¬ w.heap.size + 1 = w1.heap.size := by omega
  go_wp2_with fail
  clear ac0 ac1 ac2 ac3 ac4 acf
  clear bc0 bc1 bc2 bc3 bc4 bcf
  by_cases hn : n = 0
  · subst hn
    obtain ⟨HA, HB, HK⟩ := joinE_iff.1 HX.out
    have HJ : Hid (Known ⟨ka, va, aa, ga, ta⟩ ⟨kb, vb, ab, gb, tb⟩ ⟨kx, vx, ax, gx, tx⟩) := HK
    have RA : Hid (En.bad ⟨ka, va, aa, ga, ta⟩ = 0) := HA
    have RB : Hid (En.bad ⟨kb, vb, ab, gb, tb⟩ = 0) := HB
    have RX : Hid (En.bad ⟨kx, vx, ax, gx, tx⟩ = 0) := known_bad HK HA HB
    clear HA HB HK
    refine (join_ok HX.out _).mono ?_
    rintro e w2 ⟨rfl, hb⟩
    have B2 : Hid (Below w.heap.size w w2) := (B1.out.alloc B1.out.size _).trans (hb.mono (by have := B1.out.size; simp; omega))
    have hz2 : w1.heap.size + 1 ≤ w2.heap.size := by have := hb.size; simpa using this
    have A2 : Hid (BoxAt w2 (w.heap.size) ka va aa ga ta) := (A1.out.alloc _).below hb (A1.out.alloc _).lt
    have Bb2 : Hid (BoxAt w2 (w.heap.size + 1) kb vb ab gb tb) := (Bb1.out.alloc _).below hb (Bb1.out.alloc _).lt
    have C2 : Hid (BoxAt w2 (w.heap.size + 1 + 1) kc vc ac gc tc) := (C1.out.alloc _).below hb (C1.out.alloc _).lt
    clear hb
    obtain ⟨ac0, ac1, ac2, ac3, ac4, acf⟩ := A2.out
    have al2 : w.heap.size < w2.heap.size := by omega
    have an2 : ¬ w.heap.size = w2.heap.size := by omega
    obtain ⟨bc0, bc1, bc2, bc3, bc4, bcf⟩ := Bb2.out
    have bl2 : w.heap.size + 1 < w2.heap.size := by omega
    have bn2 : ¬ w.heap.size + 1 = w2.heap.size := by omega
    go_wp2_with fail
    clear ac0 ac1 ac2 ac3 ac4 acf
    clear bc0 bc1 bc2 bc3 bc4 bcf
    refine (join_ok (of_known RB.out RA.out HJ.out.comm) _).mono ?_
    rintro e w3 ⟨rfl, hb⟩
    have B3 : Hid (Below w.heap.size w w3) := (B2.out.alloc B2.out.size _).trans (hb.mono (by have := B2.out.size; simp; omega))
    have hz3 : w2.heap.size + 1 ≤ w3.heap.size := by have := hb.size; simpa using this
    have A3 : Hid (BoxAt w3 (w.heap.size) ka va aa ga ta) := (A2.out.alloc _).below hb (A2.out.alloc _).lt
    have Bb3 : Hid (BoxAt w3 (w.heap.size + 1) kb vb ab gb tb) := (Bb2.out.alloc _).below hb (Bb2.out.alloc _).lt
    have C3 : Hid (BoxAt w3 (w.heap.size + 1 + 1) kc vc ac gc tc) := (C2.out.alloc _).below hb (C2.out.alloc _).lt
    have X3 : Hid (BoxAt w3 w2.heap.size kx vx ax gx tx) := (box_new w2 kx vx ax gx tx _ rfl).below hb (by simp)
    clear hb
    obtain ⟨ac0, ac1, ac2, ac3, ac4, acf⟩ := A3.out
    have al3 : w.heap.size < w3.heap.size := by omega
    have an3 : ¬ w.heap.size = w3.heap.size := by omega
    obtain ⟨xc0, xc1, xc2, xc3, xc4, xcf⟩ := X3.out
    have xl3 : w2.heap.size < w3.heap.size := by omega
    have xn3 : ¬ w2.heap.size = w3.heap.size := by omega
    go_wp2_with fail
    clear ac0 ac1 ac2 ac3 ac4 acf
    clear xc0 xc1 xc2 xc3 xc4 xcf
    refine (join_ok (of_known RX.out RA.out HJ.out.left) _).mono ?_
    rintro e w4 ⟨rfl, hb⟩
    have B4 : Hid (Below w.heap.size w w4) := (B3.out.alloc B3.out.size _).trans (hb.mono (by have := B3.out.size; simp; omega))
    have hz4 : w3.heap.size + 1 ≤ w4.heap.size := by have := hb.size; simpa using this
    have A4 : Hid (BoxAt w4 (w.heap.size) ka va aa ga ta) := (A3.out.alloc _).below hb (A3.out.alloc _).lt
    have Bb4 : Hid (BoxAt w4 (w.heap.size + 1) kb vb ab gb tb) := (Bb3.out.alloc _).below hb (Bb3.out.alloc _).lt
    have C4 : Hid (BoxAt w4 (w.heap.size + 1 + 1) kc vc ac gc tc) := (C3.out.alloc _).below hb (C3.out.alloc _).lt
    have X4 : Hid (BoxAt w4 (w2.heap.size) kx vx ax gx tx) := (X3.out.alloc _).below hb (X3.out.alloc _).lt
    have Y4 : Hid (BoxAt w4 w3.heap.size kx vx ax gx tx) := (box_new w3 kx vx ax gx tx _ rfl).below hb (by simp)
    clear hb
    obtain ⟨bc0, bc1, bc2, bc3, bc4, bcf⟩ := Bb4.out
    have bl4 : w.heap.size + 1 < w4.heap.size := by omega
    have bn4 : ¬ w.heap.size + 1 = w4.heap.size := by omega
    obtain ⟨xc0, xc1, xc2, xc3, xc4, xcf⟩ := X4.out
    have xl4 : w2.heap.size < w4.heap.size := by omega
    have xn4 : ¬ w2.heap.size = w4.heap.size := by omega
    go_wp2_with fail
    clear bc0 bc1 bc2 bc3 bc4 bcf
    clear xc0 xc1 xc2 xc3 xc4 xcf
    refine (join_ok (of_known RX.out RB.out HJ.out.right) _).mono ?_
    rintro e w5 ⟨rfl, hb⟩
    have B5 : Hid (Below w.heap.size w w5) := (B4.out.alloc B4.out.size _).trans (hb.mono (by have := B4.out.size; simp; omega))
    have hz5 : w4.heap.size + 1 ≤ w5.heap.size := by have := hb.size; simpa using this
    have A5 : Hid (BoxAt w5 (w.heap.size) ka va aa ga ta) := (A4.out.alloc _).below hb (A4.out.alloc _).lt
    have Bb5 : Hid (BoxAt w5 (w.heap.size + 1) kb vb ab gb tb) := (Bb4.out.alloc _).below hb (Bb4.out.alloc _).lt
    have C5 : Hid (BoxAt w5 (w.heap.size + 1 + 1) kc vc ac gc tc) := (C4.out.alloc _).below hb (C4.out.alloc _).lt
    have X5 : Hid (BoxAt w5 (w2.heap.size) kx vx ax gx tx) := (X4.out.alloc _).below hb (X4.out.alloc _).lt
    have Y5 : Hid (BoxAt w5 (w3.heap.size) kx vx ax gx tx) := (Y4.out.alloc _).below hb (Y4.out.alloc _).lt
    have Z5 : Hid (BoxAt w5 w4.heap.size kx vx ax gx tx) := (box_new w4 kx vx ax gx tx _ rfl).below hb (by simp)
    clear hb
    obtain ⟨ac0, ac1, ac2, ac3, ac4, acf⟩ := A5.out
    have al5 : w.heap.size < w5.heap.size := by omega
    have an5 : ¬ w.heap.size = w5.heap.size := by omega
    obtain ⟨bc0, bc1, bc2, bc3, bc4, bcf⟩ := Bb5.out
    have bl5 : w.heap.size + 1 < w5.heap.size := by omega
    have bn5 : ¬ w.heap.size + 1 = w5.heap.size := by omega
    obtain ⟨cc0, cc1, cc2, cc3, cc4, ccf⟩ := C5.out
    have cl5 : w.heap.size + 1 + 1 < w5.heap.size := by omega
    have cn5 : ¬ w.heap.size + 1 + 1 = w5.heap.size := by omega
    obtain ⟨xc0, xc1, xc2, xc3, xc4, xcf⟩ := X5.out
    have xl5 : w2.heap.size < w5.heap.size := by omega
    have xn5 : ¬ w2.heap.size = w5.heap.size := by omega
    obtain ⟨yc0, yc1, yc2, yc3, yc4, ycf⟩ := Y5.out
    have yl5 : w3.heap.size < w5.heap.size := by omega
    have yn5 : ¬ w3.heap.size = w5.heap.size := by omega
    obtain ⟨zc0, zc1, zc2, zc3, zc4, zcf⟩ := Z5.out
    have zl5 : w4.heap.size < w5.heap.size := by omega
    have zn5 : ¬ w4.heap.size = w5.heap.size := by omega
    have q1 := eql_cells kx vx ax gx tx
    have q2 := eqlIn_cells kx vx ax gx tx
    have q3 := eqGuard_en
    obtain ⟨m1, m2, m3, m4⟩ := Known.new HJ.out (bad_upto RA.out) (bad_upto RB.out)
    simp only at m1 m2 m3 m4
    have m5 : ¬ vx < va := by omega
    have m6 : ¬ vx < vb := by omega
    have m7 : ¬ ax < aa := by omega
    have m8 : ¬ ax < ab := by omega
    go_wp2_with fail
    clear ac0 ac1 ac2 ac3 ac4 acf
    clear bc0 bc1 bc2 bc3 bc4 bcf
    clear cc0 cc1 cc2 cc3 cc4 ccf
    clear xc0 xc1 xc2 xc3 xc4 xcf
    clear yc0 yc1 yc2 yc3 yc4 ycf
    clear zc0 zc1 zc2 zc3 zc4 zcf
    clear q1 q2 m1 m2 m3 m4 m5 m6 m7 m8
    obtain ⟨kp, vp, ap, gp, tp, n6, HP⟩ : ∃ kp vp ap gp tp n6, Hid (joinE ⟨kx, vx, ax, gx, tx⟩ ⟨kc, vc, ac, gc, tc⟩ = (⟨kp, vp, ap, gp, tp⟩, n6)) := ⟨_, _, _, _, _, _, rfl⟩
    obtain ⟨kd, vd, ad, gd, td, n7, HD⟩ : ∃ kd vd ad gd td n7, Hid (joinE ⟨kb, vb, ab, gb, tb⟩ ⟨kc, vc, ac, gc, tc⟩ = (⟨kd, vd, ad, gd, td⟩, n7)) := ⟨_, _, _, _, _, _, rfl⟩
    obtain ⟨kf, vf, af, gf, tf, n8, HF⟩ : ∃ kf vf af gf tf n8, Hid (joinE ⟨ka, va, aa, ga, ta⟩ ⟨kc, vc, ac, gc, tc⟩ = (⟨kf, vf, af, gf, tf⟩, n8)) := ⟨_, _, _, _, _, _, rfl⟩
    by_cases hn6 : n6 = 0
    · subst hn6
      refine (join_ok HP.out _).mono ?_
      rintro e w6 ⟨rfl, hb⟩
      have B6 : Hid (Below w.heap.size w w6) := (B5.out.alloc B5.out.size _).trans (hb.mono (by have := B5.out.size; simp; omega))
      have hz6 : w5.heap.size + 1 ≤ w6.heap.size := by have := hb.size; simpa using this
      have A6 : Hid (BoxAt w6 (w.heap.size) ka va aa ga ta) := (A5.out.alloc _).below hb (A5.out.alloc _).lt
      have Bb6 : Hid (BoxAt w6 (w.heap.size + 1) kb vb ab gb tb) := (Bb5.out.alloc _).below hb (Bb5.out.alloc _).lt
      have C6 : Hid (BoxAt w6 (w.heap.size + 1 + 1) kc vc ac gc tc) := (C5.out.alloc _).below hb (C5.out.alloc _).lt
      clear hb
      obtain ⟨bc0, bc1, bc2, bc3, bc4, bcf⟩ := Bb6.out
      have bl6 : w.heap.size + 1 < w6.heap.size := by omega
      have bn6 : ¬ w.heap.size + 1 = w6.heap.size := by omega
      obtain ⟨cc0, cc1, cc2, cc3, cc4, ccf⟩ := C6.out
      have cl6 : w.heap.size + 1 + 1 < w6.heap.size := by omega
      have cn6 : ¬ w.heap.size + 1 + 1 = w6.heap.size := by omega
      go_wp2_with fail
      clear bc0 bc1 bc2 bc3 bc4 bcf
      clear cc0 cc1 cc2 cc3 cc4 ccf
      by_cases hn7 : n7 = 0
      · subst hn7
        refine (join_ok HD.out _).mono ?_
        rintro e w7 ⟨rfl, hb⟩
        have B7 : Hid (Below w.heap.size w w7) := (B6.out.alloc B6.out.size _).trans (hb.mono (by have := B6.out.size; simp; omega))
        have hz7 : w6.heap.size + 1 ≤ w7.heap.size := by have := hb.size; simpa using this
        have A7 : Hid (BoxAt w7 (w.heap.size) ka va aa ga ta) := (A6.out.alloc _).below hb (A6.out.alloc _).lt
        have C7 : Hid (BoxAt w7 (w.heap.size + 1 + 1) kc vc ac gc tc) := (C6.out.alloc _).below hb (C6.out.alloc _).lt
        have P7 : Hid (BoxAt w7 w6.heap.size kp vp ap gp tp) := (box_new w6 kp vp ap gp tp _ rfl).below hb (by simp)
        clear hb
        obtain ⟨ac0, ac1, ac2, ac3, ac4, acf⟩ := A7.out
        have al7 : w.heap.size < w7.heap.size := by omega
        have an7 : ¬ w.heap.size = w7.heap.size := by omega
        obtain ⟨cc0, cc1, cc2, cc3, cc4, ccf⟩ := C7.out
        have cl7 : w.heap.size + 1 + 1 < w7.heap.size := by omega
        have cn7 : ¬ w.heap.size + 1 + 1 = w7.heap.size := by omega
        go_wp2_with fail
        clear ac0 ac1 ac2 ac3 ac4 acf
        clear cc0 cc1 cc2 cc3 cc4 ccf
        by_cases hn8 : n8 = 0
        · subst hn8
          refine (join_ok HF.out _).mono ?_
          rintro e w8 ⟨rfl, hb⟩
          have B8 : Hid (Below w.heap.size w w8) := (B7.out.alloc B7.out.size _).trans (hb.mono (by have := B7.out.size; simp; omega))
          have hz8 : w7.heap.size + 1 ≤ w8.heap.size := by have := hb.size; simpa using this
          have A8 : Hid (BoxAt w8 (w.heap.size) ka va aa ga ta) := (A7.out.alloc _).below hb (A7.out.alloc _).lt
          have P8 : Hid (BoxAt w8 (w6.heap.size) kp vp ap gp tp) := (P7.out.alloc _).below hb (P7.out.alloc _).lt
          have D8 : Hid (BoxAt w8 w7.heap.size kd vd ad gd td) := (box_new w7 kd vd ad gd td _ rfl).below hb (by simp)
          clear hb
          obtain ⟨rp, rc, jp⟩ := joinE_iff.1 HP.out
          obtain ⟨_, _, jd⟩ := joinE_iff.1 HD.out
          obtain ⟨_, _, jf⟩ := joinE_iff.1 HF.out
          have JQ : Hid (joinE ⟨ka, va, aa, ga, ta⟩ ⟨kd, vd, ad, gd, td⟩ = (⟨kp, vp, ap, gp, tp⟩, 0)) := of_known RA.out (known_bad jd RB.out rc) (Known.three HJ.out jp jd jf)
          clear rp rc jp jd jf
          obtain ⟨ac0, ac1, ac2, ac3, ac4, acf⟩ := A8.out
          have al8 : w.heap.size < w8.heap.size := by omega
          have an8 : ¬ w.heap.size = w8.heap.size := by omega
          obtain ⟨dc0, dc1, dc2, dc3, dc4, dcf⟩ := D8.out
          have dl8 : w7.heap.size < w8.heap.size := by omega
          have dn8 : ¬ w7.heap.size = w8.heap.size := by omega
          go_wp2_with fail
          clear ac0 ac1 ac2 ac3 ac4 acf
          clear dc0 dc1 dc2 dc3 dc4 dcf
          refine (join_ok JQ.out _).mono ?_
          rintro e w9 ⟨rfl, hb⟩
          have B9 : Hid (Below w.heap.size w w9) := B8.out.trans (hb.mono B8.out.size)
          have hz9 : w8.heap.size ≤ w9.heap.size := hb.size
          have P9 : Hid (BoxAt w9 (w6.heap.size) kp vp ap gp tp) := (P8.out).below hb (P8.out).lt
          clear hb
          obtain ⟨pc0, pc1, pc2, pc3, pc4, pcf⟩ := P9.out
          have pl9 : w6.heap.size < w9.heap.size := by omega
          have pn9 : ¬ w6.heap.size = w9.heap.size := by omega
          have q1 := eql_cells kp vp ap gp tp
          have q2 := eqlIn_cells kp vp ap gp tp
          have q3 := eqGuard_en
          go_wp2_with fail
          go_ret
          exact ⟨rfl, by have hb := B9.out; go_grown⟩
        · skip
          refine (join_err HF.out hn8 _).mono ?_
          rintro e w8 ⟨rfl, hb⟩
          have B8 : Hid (Below w.heap.size w w8) := (B7.out.alloc B7.out.size _).trans (hb.mono (by have := B7.out.size; simp; omega))
          have hz8 : w7.heap.size + 1 ≤ w8.heap.size := by have := hb.size; simpa using this
          have A8 : Hid (BoxAt w8 (w.heap.size) ka va aa ga ta) := (A7.out.alloc _).below hb (A7.out.alloc _).lt
          have P8 : Hid (BoxAt w8 (w6.heap.size) kp vp ap gp tp) := (P7.out.alloc _).below hb (P7.out.alloc _).lt
          have D8 : Hid (BoxAt w8 w7.heap.size kd vd ad gd td) := (box_new w7 kd vd ad gd td _ rfl).below hb (by simp)
          clear hb
          go_wp2_with fail
          go_ret
          exact ⟨rfl, B8.out⟩
      · skip
        refine (join_err HD.out hn7 _).mono ?_
        rintro e w7 ⟨rfl, hb⟩
        have B7 : Hid (Below w.heap.size w w7) := (B6.out.alloc B6.out.size _).trans (hb.mono (by have := B6.out.size; simp; omega))
        have hz7 : w6.heap.size + 1 ≤ w7.heap.size := by have := hb.size; simpa using this
        have A7 : Hid (BoxAt w7 (w.heap.size) ka va aa ga ta) := (A6.out.alloc _).below hb (A6.out.alloc _).lt
        have C7 : Hid (BoxAt w7 (w.heap.size + 1 + 1) kc vc ac gc tc) := (C6.out.alloc _).below hb (C6.out.alloc _).lt
        have P7 : Hid (BoxAt w7 w6.heap.size kp vp ap gp tp) := (box_new w6 kp vp ap gp tp _ rfl).below hb (by simp)
        clear hb
        obtain ⟨ac0, ac1, ac2, ac3, ac4, acf⟩ := A7.out
        have al7 : w.heap.size < w7.heap.size := by omega
        have an7 : ¬ w.heap.size = w7.heap.size := by omega
        obtain ⟨cc0, cc1, cc2, cc3, cc4, ccf⟩ := C7.out
        have cl7 : w.heap.size + 1 + 1 < w7.heap.size := by omega
        have cn7 : ¬ w.heap.size + 1 + 1 = w7.heap.size := by omega
        go_wp2_with fail
        clear ac0 ac1 ac2 ac3 ac4 acf
        clear cc0 cc1 cc2 cc3 cc4 ccf
        by_cases hn8 : n8 = 0
        · subst hn8
          refine (join_ok HF.out _).mono ?_
          rintro e w8 ⟨rfl, hb⟩
          have B8 : Hid (Below w.heap.size w w8) := (B7.out.alloc B7.out.size _).trans (hb.mono (by have := B7.out.size; simp; omega))
          have hz8 : w7.heap.size + 1 ≤ w8.heap.size := by have := hb.size; simpa using this
          have A8 : Hid (BoxAt w8 (w.heap.size) ka va aa ga ta) := (A7.out.alloc _).below hb (A7.out.alloc _).lt
          have P8 : Hid (BoxAt w8 (w6.heap.size) kp vp ap gp tp) := (P7.out.alloc _).below hb (P7.out.alloc _).lt
          have D8 : Hid (BoxAt w8 w7.heap.size kd vd ad gd td) := (box_new w7 kd vd ad gd td _ rfl).below hb (by simp)
          clear hb
          go_wp2_with fail
          go_ret
          exact ⟨rfl, B8.out⟩
        · skip
          refine (join_err HF.out hn8 _).mono ?_
          rintro e w8 ⟨rfl, hb⟩
          have B8 : Hid (Below w.heap.size w w8) := (B7.out.alloc B7.out.size _).trans (hb.mono (by have := B7.out.size; simp; omega))
          have hz8 : w7.heap.size + 1 ≤ w8.heap.size := by have := hb.size; simpa using this
          have A8 : Hid (BoxAt w8 (w.heap.size) ka va aa ga ta) := (A7.out.alloc _).below hb (A7.out.alloc _).lt
          have P8 : Hid (BoxAt w8 (w6.heap.size) kp vp ap gp tp) := (P7.out.alloc _).below hb (P7.out.alloc _).lt
          have D8 : Hid (BoxAt w8 w7.heap.size kd vd ad gd td) := (box_new w7 kd vd ad gd td _ rfl).below hb (by simp)
          clear hb
          go_wp2_with fail
          go_ret
          exact ⟨rfl, B8.out⟩
    · skip
      refine (join_err HP.out hn6 _).mono ?_
      rintro e w6 ⟨rfl, hb⟩
      have B6 : Hid (Below w.heap.size w w6) := (B5.out.alloc B5.out.size _).trans (hb.mono (by have := B5.out.size; simp; omega))
      have hz6 : w5.heap.size + 1 ≤ w6.heap.size := by have := hb.size; simpa using this
      have A6 : Hid (BoxAt w6 (w.heap.size) ka va aa ga ta) := (A5.out.alloc _).below hb (A5.out.alloc _).lt
      have Bb6 : Hid (BoxAt w6 (w.heap.size + 1) kb vb ab gb tb) := (Bb5.out.alloc _).below hb (Bb5.out.alloc _).lt
      have C6 : Hid (BoxAt w6 (w.heap.size + 1 + 1) kc vc ac gc tc) := (C5.out.alloc _).below hb (C5.out.alloc _).lt
      clear hb
      obtain ⟨bc0, bc1, bc2, bc3, bc4, bcf⟩ := Bb6.out
      have bl6 : w.heap.size + 1 < w6.heap.size := by omega
      have bn6 : ¬ w.heap.size + 1 = w6.heap.size := by omega
      obtain ⟨cc0, cc1, cc2, cc3, cc4, ccf⟩ := C6.out
      have cl6 : w.heap.size + 1 + 1 < w6.heap.size := by omega
      have cn6 : ¬ w.heap.size + 1 + 1 = w6.heap.size := by omega
      go_wp2_with fail
      clear bc0 bc1 bc2 bc3 bc4 bcf
      clear cc0 cc1 cc2 cc3 cc4 ccf
      by_cases hn7 : n7 = 0
      · subst hn7
        refine (join_ok HD.out _).mono ?_
        rintro e w7 ⟨rfl, hb⟩
        have B7 : Hid (Below w.heap.size w w7) := (B6.out.alloc B6.out.size _).trans (hb.mono (by have := B6.out.size; simp; omega))
        have hz7 : w6.heap.size + 1 ≤ w7.heap.size := by have := hb.size; simpa using this
        have A7 : Hid (BoxAt w7 (w.heap.size) ka va aa ga ta) := (A6.out.alloc _).below hb (A6.out.alloc _).lt
        have C7 : Hid (BoxAt w7 (w.heap.size + 1 + 1) kc vc ac gc tc) := (C6.out.alloc _).below hb (C6.out.alloc _).lt
        have P7 : Hid (BoxAt w7 w6.heap.size kp vp ap gp tp) := (box_new w6 kp vp ap gp tp _ rfl).below hb (by simp)
        clear hb
        obtain ⟨ac0, ac1, ac2, ac3, ac4, acf⟩ := A7.out
        have al7 : w.heap.size < w7.heap.size := by omega
        have an7 : ¬ w.heap.size = w7.heap.size := by omega
        obtain ⟨cc0, cc1, cc2, cc3, cc4, ccf⟩ := C7.out
        have cl7 : w.heap.size + 1 + 1 < w7.heap.size := by omega
        have cn7 : ¬ w.heap.size + 1 + 1 = w7.heap.size := by omega
        go_wp2_with fail
        clear ac0 ac1 ac2 ac3 ac4 acf
        clear cc0 cc1 cc2 cc3 cc4 ccf
        by_cases hn8 : n8 = 0
        · subst hn8
          refine (join_ok HF.out _).mono ?_
          rintro e w8 ⟨rfl, hb⟩
          have B8 : Hid (Below w.heap.size w w8) := (B7.out.alloc B7.out.size _).trans (hb.mono (by have := B7.out.size; simp; omega))
          have hz8 : w7.heap.size + 1 ≤ w8.heap.size := by have := hb.size; simpa using this
          have A8 : Hid (BoxAt w8 (w.heap.size) ka va aa ga ta) := (A7.out.alloc _).below hb (A7.out.alloc _).lt
          have P8 : Hid (BoxAt w8 (w6.heap.size) kp vp ap gp tp) := (P7.out.alloc _).below hb (P7.out.alloc _).lt
          have D8 : Hid (BoxAt w8 w7.heap.size kd vd ad gd td) := (box_new w7 kd vd ad gd td _ rfl).below hb (by simp)
          clear hb
          go_wp2_with fail
          go_ret
          exact ⟨rfl, B8.out⟩
        · skip
          refine (join_err HF.out hn8 _).mono ?_
          rintro e w8 ⟨rfl, hb⟩
          have B8 : Hid (Below w.heap.size w w8) := (B7.out.alloc B7.out.size _).trans (hb.mono (by have := B7.out.size; simp; omega))
          have hz8 : w7.heap.size + 1 ≤ w8.heap.size := by have := hb.size; simpa using this
          have A8 : Hid (BoxAt w8 (w.heap.size) ka va aa ga ta) := (A7.out.alloc _).below hb (A7.out.alloc _).lt
          have P8 : Hid (BoxAt w8 (w6.heap.size) kp vp ap gp tp) := (P7.out.alloc _).below hb (P7.out.alloc _).lt
          have D8 : Hid (BoxAt w8 w7.heap.size kd vd ad gd td) := (box_new w7 kd vd ad gd td _ rfl).below hb (by simp)
          clear hb
          go_wp2_with fail
          go_ret
          exact ⟨rfl, B8.out⟩
      · skip
        refine (join_err HD.out hn7 _).mono ?_
        rintro e w7 ⟨rfl, hb⟩
        have B7 : Hid (Below w.heap.size w w7) := (B6.out.alloc B6.out.size _).trans (hb.mono (by have := B6.out.size; simp; omega))
        have hz7 : w6.heap.size + 1 ≤ w7.heap.size := by have := hb.size; simpa using this
        have A7 : Hid (BoxAt w7 (w.heap.size) ka va aa ga ta) := (A6.out.alloc _).below hb (A6.out.alloc _).lt
        have C7 : Hid (BoxAt w7 (w.heap.size + 1 + 1) kc vc ac gc tc) := (C6.out.alloc _).below hb (C6.out.alloc _).lt
        have P7 : Hid (BoxAt w7 w6.heap.size kp vp ap gp tp) := (box_new w6 kp vp ap gp tp _ rfl).below hb (by simp)
        clear hb
        obtain ⟨ac0, ac1, ac2, ac3, ac4, acf⟩ := A7.out
        have al7 : w.heap.size < w7.heap.size := by omega
        have an7 : ¬ w.heap.size = w7.heap.size := by omega
        obtain ⟨cc0, cc1, cc2, cc3, cc4, ccf⟩ := C7.out
        have cl7 : w.heap.size + 1 + 1 < w7.heap.size := by omega
        have cn7 : ¬ w.heap.size + 1 + 1 = w7.heap.size := by omega
        go_wp2_with fail
        clear ac0 ac1 ac2 ac3 ac4 acf
        clear cc0 cc1 cc2 cc3 cc4 ccf
        by_cases hn8 : n8 = 0
        · subst hn8
          refine (join_ok HF.out _).mono ?_
          rintro e w8 ⟨rfl, hb⟩
          have B8 : Hid (Below w.heap.size w w8) := (B7.out.alloc B7.out.size _).trans (hb.mono (by have := B7.out.size; simp; omega))
          have hz8 : w7.heap.size + 1 ≤ w8.heap.size := by have := hb.size; simpa using this
          have A8 : Hid (BoxAt w8 (w.heap.size) ka va aa ga ta) := (A7.out.alloc _).below hb (A7.out.alloc _).lt
          have P8 : Hid (BoxAt w8 (w6.heap.size) kp vp ap gp tp) := (P7.out.alloc _).below hb (P7.out.alloc _).lt
          have D8 : Hid (BoxAt w8 w7.heap.size kd vd ad gd td) := (box_new w7 kd vd ad gd td _ rfl).below hb (by simp)
          clear hb
          go_wp2_with fail
          go_ret
          exact ⟨rfl, B8.out⟩
        · skip
          refine (join_err HF.out hn8 _).mono ?_
          rintro e w8 ⟨rfl, hb⟩
          have B8 : Hid (Below w.heap.size w w8) := (B7.out.alloc B7.out.size _).trans (hb.mono (by have := B7.out.size; simp; omega))
          have hz8 : w7.heap.size + 1 ≤ w8.heap.size := by have := hb.size; simpa using this
          have A8 : Hid (BoxAt w8 (w.heap.size) ka va aa ga ta) := (A7.out.alloc _).below hb (A7.out.alloc _).lt
          have P8 : Hid (BoxAt w8 (w6.heap.size) kp vp ap gp tp) := (P7.out.alloc _).below hb (P7.out.alloc _).lt
          have D8 : Hid (BoxAt w8 w7.heap.size kd vd ad gd td) := (box_new w7 kd vd ad gd td _ rfl).below hb (by simp)
          clear hb
          go_wp2_with fail
          go_ret
          exact ⟨rfl, B8.out⟩
  · skip
    refine (join_err HX.out hn _).mono ?_
    rintro e w2 ⟨rfl, hb⟩
    have B2 : Hid (Below w.heap.size w w2) := (B1.out.alloc B1.out.size _).trans (hb.mono (by have := B1.out.size; simp; omega))
    have hz2 : w1.heap.size + 1 ≤ w2.heap.size := by have := hb.size; simpa using this
    clear hb
    go_wp2_with fail
    go_ret
    exact ⟨rfl, by have hb := B2.out; go_grown⟩
end Go.Proofs.Ytdmgghcecfhkoaa.entryJoins
