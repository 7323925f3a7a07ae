/-
  merelaw4.RepairOne answers true, whatever the cache and the key.
-/
import Derived.Test.YthpcogpbgjkiaaiRp3
import Derived.Test.YthpcogpbgjkiaaiEn4
import Derived.BigRegion
import Derived.BigQuiet
import Derived.WalkSmall
namespace Go.Proofs.Ythpcogpbgjkiaai
set_option linter.unusedVariables false
set_option linter.unusedSimpArgs false
open Go.RowKit

theorem bad_one (l : List En) : badLs [l] = badL l := by
  rw [badLs, if_neg (by simp), if_neg (by simp), badEach, badEach]
  split
  · rfl
  · rename_i h
    exact (by simpa using h : badL l = 0).symm
/-- of one cache it is its own -/
theorem read_one (l : List En) (key : Int) : readR [l] key = cacheGet l key := by
  rw [readR, cacheGet, bad_one]
  split
  · rfl
  · split
    · rfl
    · rw [joinFrom]
      cases getE l key <;> rfl
theorem lacks_one {l : List En} {key : Int} {x : En} (h : readR [l] key = (x, 0)) : lacksR [l] key = ([], 0) := by
  have hg : getE l key = some x := by
    have h2 := (readR_ok h).2.2
    rw [joinFrom] at h2
    cases hq : getE l key with
    | none => rw [hq] at h2; exact absurd (congrArg Prod.fst h2) (by simp [joinFrom])
    | some y => rw [hq] at h2; exact congrArg Prod.fst h2
  rw [lacksR, h, if_neg (by simp)]
  have h0 : lackN [l] key x.v (0 + 1) = lackN [l] key x.v 0 := lackN_no (by
    show lackB key x.v l = false
    rw [lackB, hg]
    simp)
  exact congrArg (fun k => (k, (0 : Int))) h0
set_option maxRecDepth 100000 in
set_option maxHeartbeats 16000000 in
theorem rone_w (vl : Value) (l : List En) (key : Int) (w : World) (hl : RowIs w vl l) :
    Calls Try.prog 4 #[vl, .int .i64 key] w fun e w' => e = .returned (.bool true) ∧ Below w.heap.size w w' := by
  obtain ⟨x0, x1, x2, x3, x4, m, HR⟩ : ∃ x0 x1 x2 x3 x4 m, Hid (readR [l] key = (⟨x0, x1, x2, x3, x4⟩, m)) := ⟨_, _, _, _, _, _, rfl⟩
  have HG : Hid (cacheGet l key = (⟨x0, x1, x2, x3, x4⟩, m)) := (read_one l key).symm.trans HR.out
  have HL : Hid (RowIs w vl l) := hl
  obtain ⟨p, cap, rfl, _⟩ := hl.slice
  clear hl
  have HRs : Hid (RowsIs (w.alloc (.cells #[.slice p l.length cap] 26)) (.slice (some ⟨w.heap.size, 0, none⟩) 1 1) [l]) := rows_one w _ _ l HL.out rfl
  have HB0 : Hid (Below w.heap.size w (w.alloc (.cells #[.slice p l.length cap] 26))) := (Below.refl _ _).alloc (Nat.le_refl _) _
  go_enter Try.func4, Try.ntmps4
  go_wp2_with fail
  refine (rread_c HRs.out HR.out).mono ?_
  rintro e w1 ⟨rfl, hb⟩
  have B1 : Hid (Below w.heap.size w w1) := HB0.out.trans (hb.mono HB0.out.size)
  clear hb HRs HB0
  have hs1 : w.heap.size ≤ w1.heap.size := B1.out.size
  have B2 : Hid (Below w.heap.size w (w1.alloc (.cells #[.int .i64 x0, .int .i64 x1, .int .i64 x2, .bool x3, .string x4] 25))) := B1.out.alloc hs1 _
  have X2 : Hid (BoxAt (w1.alloc (.cells #[.int .i64 x0, .int .i64 x1, .int .i64 x2, .bool x3, .string x4] 25)) w1.heap.size x0 x1 x2 x3 x4) := box_new w1 x0 x1 x2 x3 x4 _ rfl
  go_wp2_with fail
  refine (getP_o HG.out _ _ (HL.out.below B2.out)).mono ?_
  rintro e w3 ⟨rfl, hb⟩
  have B3 : Hid (Below w.heap.size w w3) := B2.out.trans (hb.mono B2.out.size)
  have X3 : Hid (BoxAt w3 w1.heap.size x0 x1 x2 x3 x4) := X2.out.below hb X2.out.lt
  clear hb B2 X2
  have hs3 : w.heap.size ≤ w3.heap.size := B3.out.size
  have B4 : Hid (Below w.heap.size w (w3.alloc (.cells #[.int .i64 x0, .int .i64 x1, .int .i64 x2, .bool x3, .string x4] 25))) := B3.out.alloc hs3 _
  have X4 : Hid (BoxAt (w3.alloc (.cells #[.int .i64 x0, .int .i64 x1, .int .i64 x2, .bool x3, .string x4] 25)) w1.heap.size x0 x1 x2 x3 x4) := X3.out.alloc _
  have Y4 : Hid (BoxAt (w3.alloc (.cells #[.int .i64 x0, .int .i64 x1, .int .i64 x2, .bool x3, .string x4] 25)) w3.heap.size x0 x1 x2 x3 x4) := box_new w3 x0 x1 x2 x3 x4 _ rfl
  by_cases hm : m = 0
  · subst hm
    rw [eV_zeroP]
    obtain ⟨w4, HW4⟩ : ∃ w4, w4 = w3.alloc (.cells #[.int .i64 x0, .int .i64 x1, .int .i64 x2, .bool x3, .string x4] 25) := ⟨_, rfl⟩
    obtain ⟨Y, HY⟩ : ∃ Y, Y = w3.heap.size := ⟨_, rfl⟩
    obtain ⟨X, HX⟩ : ∃ X, X = w1.heap.size := ⟨_, rfl⟩
    rw [← HW4] at B4 X4 Y4
    rw [← HY] at Y4
    rw [← HX] at X4
    go_upto_region 5 with fail
    rw [← HW4, ← HY, ← HX]
    clear HW4 HY HX B1 X3 B3
    have hs4 : w.heap.size ≤ w4.heap.size := B4.out.size
    have HRs : Hid (RowsIs (w4.alloc (.cells #[.slice p l.length cap] 26)) (.slice (some ⟨w4.heap.size, 0, none⟩) 1 1) [l]) := rows_one w4 _ _ l (HL.out.below B4.out) rfl
    have B5 : Hid (Below w.heap.size w (w4.alloc (.cells #[.slice p l.length cap] 26))) := B4.out.alloc hs4 _
    have X5 : Hid (BoxAt (w4.alloc (.cells #[.slice p l.length cap] 26)) X x0 x1 x2 x3 x4) := X4.out.alloc _
    have Y5 : Hid (BoxAt (w4.alloc (.cells #[.slice p l.length cap] 26)) Y x0 x1 x2 x3 x4) := Y4.out.alloc _
    go_wp2_with fail
    refine (rlacks_c HRs.out (lacks_one HR.out)).mono ?_
    rintro e w6 ⟨u, rfl, hu, hb⟩
    obtain ⟨pu, cu, rfl, _⟩ := hu.slice
    have B6 : Hid (Below w.heap.size w w6) := B5.out.trans (hb.mono B5.out.size)
    have X6 : Hid (BoxAt w6 X x0 x1 x2 x3 x4) := X5.out.below hb X5.out.lt
    have Y6 : Hid (BoxAt w6 Y x0 x1 x2 x3 x4) := Y5.out.below hb Y5.out.lt
    clear hu hb B5 X5 Y5 HRs
    rw [eV_zeroP]
    go_wp2_with fail
    refine (rmeet_c (m := 0) (b := true) (by decide) (by decide)).mono ?_
    rintro e w7 ⟨rfl, hb⟩
    have B7 : Hid (Below w.heap.size w w7) := B6.out.trans (hb.mono B6.out.size)
    have X7 : Hid (BoxAt w7 X x0 x1 x2 x3 x4) := X6.out.below hb X6.out.lt
    have Y7 : Hid (BoxAt w7 Y x0 x1 x2 x3 x4) := Y6.out.below hb Y6.out.lt
    clear hb B6 X6 Y6
    rw [eV_zeroP]
    go_wp2_with fail
    refine (rmeet_c (m := 0) (b := false) (by decide) (by decide)).mono ?_
    rintro e w8 ⟨rfl, hb⟩
    have B8 : Hid (Below w.heap.size w w8) := B7.out.trans (hb.mono B7.out.size)
    have X8 : Hid (BoxAt w8 X x0 x1 x2 x3 x4) := X7.out.below hb X7.out.lt
    have Y8 : Hid (BoxAt w8 Y x0 x1 x2 x3 x4) := Y7.out.below hb Y7.out.lt
    clear hb B7 X7 Y7
    rw [eV_zeroP]
    obtain ⟨c0, c1, c2, c3, c4, cf⟩ := X8.out
    obtain ⟨d0, d1, d2, d3, d4, df⟩ := Y8.out
    have hq := eql_cells x0 x1 x2 x3 x4
    have hgd := eqGuard_en
    go_wp2_with fail
    go_ret
    exact ⟨rfl, B8.out⟩
  · rw [eV_errP hm]
    go_wp2_with fail
    go_ret
    exact ⟨rfl, B4.out⟩
end Go.Proofs.Ythpcogpbgjkiaai
