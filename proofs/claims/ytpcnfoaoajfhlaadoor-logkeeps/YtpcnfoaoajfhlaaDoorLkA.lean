/-
  LogKeeps: has a log what a store has?
-/
import Derived.Test.YtpcnfoaoajfhlaaDoorLkC
import Derived.Test.YtpcnfoaoajfhlaaDoorCaS
import Derived.Deep.DeepCutAuto
import Derived.Deep.CutBlock
import Derived.WalkSmall
namespace Go.Proofs.YtpcnfoaoajfhlaaDoor
set_option linter.unusedVariables false
set_option linter.unusedSimpArgs false
open Go.RowKit

theorem old_cellK {w w' : World} {a : Addr} {v : Value} (hb : Below w.heap.size w w') (h : w.cell? a = some v) : w'.cell? a = some v := (hb.cell (p := a) (World.block_lt_of_cell? w a h)).trans h
theorem refRead_v {b : Nat} {k : Int} {l : List Deed} {G : Nat → Prop} {w : World} (h : RefIs w b l G) {x0 x1 x2 : Int} {x3 : Bool} {x4 : ByteArray} (hx : entAt l k l.length = ⟨x0, x1, x2, x3, x4⟩) :
    Calls Tryd.prog 54 #[.pointer (some ⟨b, 0, none⟩), .int .i64 k] w fun e w' => e = .returned (.agg #[.int .i64 x0, .int .i64 x1, .int .i64 x2, .bool x3, .string x4]) ∧ Below w.heap.size w w' := by
  have h1 := refRead_c b k l G w h
  rw [hx] at h1
  exact h1
set_option maxRecDepth 100000 in
set_option maxHeartbeats 16000000 in
theorem alike_c {S G : Nat → Prop} {w : World} {j b : Nat} {l : List Deed} {p : List Nat} {sf : Nat} {lf : Int} {st : Bool} (h : LgAt S w j l p sf lf st) (hr : RefIs w b l G) (hg : HasErr w) :
    Calls Tryd.prog 29 #[.pointer (some ⟨j, 0, none⟩), .pointer (some ⟨b, 0, none⟩)] w fun e w' => e = .returned (.bool true) ∧ Below w.heap.size w w' := by
  have HL : Hid (LgAt S w j l p sf lf st) := h
  have HR : Hid (RefIs w b l G) := hr
  have HG : Hid (HasErr w) := hg
  obtain ⟨n, HN⟩ : ∃ n, Hid (l.length = n) := ⟨_, rfl⟩
  obtain ⟨a, cap, c0, _⟩ := hr.slice
  rw [HN.out] at c0
  clear h hr hg
  go_enter Tryd.func29, Tryd.ntmps29
  go_upto_region 1 with fail
  go_cut [17] (fun c wd => c = .bool false ∧ Hid (Below w.heap.size w wd))
  case first =>
    refine wp_region_noPanic ?_
    go_region_with (go_at_call 20; refine Calls.mono (lgSeq_c (LgAt.grown HL.out (by go_grown)) HN.out) ?_; rintro e w' ⟨rfl, rfl⟩)
    all_goals refine NoPanic.normal ?_
    all_goals go_wp2_with fail
    all_goals go_meet
    all_goals exact ⟨rfl, show Below _ _ _ from ⟨rfl, rfl, rfl, Nat.le_refl _, fun _ _ => rfl⟩⟩
  case rest =>
  obtain ⟨h17, HB⟩ := hcut
  obtain ⟨w1, hren⟩ : ∃ y, y = wc := ⟨_, rfl⟩
  subst hren
  subst h17
  clear c0
  go_wp2_with fail
  go_loopw [5] (fun c5 wr => ∃ K : Int, -1 ≤ K ∧ K ≤ 9 ∧ c5 = .int .i64 K ∧ Hid (Below w.heap.size w wr)) (fun c5 _ => (9 - intOf c5).toNat)
  case atStart => exact ⟨-1, by omega, by omega, rfl, HB⟩
  case round =>
    obtain ⟨K, hK1, hK2, rfl, HBr⟩ := hrel
    clear HB
    by_cases hlt : K ≤ 8
    · have HLr : Hid (LgAt S wr j l p sf lf st) := HL.out.grown HBr.out
      have HRr : Hid (RefIs wr b l G) := HR.out.below HBr.out
      have HGr : Hid (HasErr wr) := HG.out.below HG.out.lt HBr.out
      by_cases hs : stK K = true
      · obtain ⟨⟨x0, x1, x2, x3, x4⟩, HX⟩ : ∃ x, Hid (entAt l K l.length = x) := ⟨_, rfl⟩
        have HA1 : Hid ((atO l K l.length).1 = ⟨x0, x1, x2, x3, x4⟩ ∧ (atO l K l.length).2 = 0) := by
          show _ ∧ _
          rw [atO, if_pos ⟨hs, by omega, Int.le_refl _⟩, Int.toNat_natCast, HX.out]
          exact ⟨rfl, rfl⟩
        have HKey : Hid (stK K = true) := hs
        clear hs
        go_wp2_with fail
        refine (lgRead_c HLr.out HA1.out.1 HA1.out.2).mono ?_
        rw [errZ]
        rintro e w2 ⟨rfl, hb⟩
        obtain ⟨w3, HW3⟩ : ∃ w3, w3 = w2.alloc (.cells #[.int .i64 x0, .int .i64 x1, .int .i64 x2, .bool x3, .string x4] 38) := ⟨_, rfl⟩
        have hb3 : Below wr.heap.size wr w3 := by rw [HW3]; exact hb.alloc hb.size _
        have HB3 : Hid (Below w.heap.size w w3) := HBr.out.trans (hb3.mono HBr.out.size)
        have HR3 : Hid (RefIs w3 b l G) := HRr.out.below hb3
        have HY3 : Hid (BoxAt w3 w2.heap.size x0 x1 x2 x3 x4) := by rw [HW3]; exact box_new w2 _ _ _ _ _ _ rfl
        obtain ⟨Y, HYe⟩ : ∃ Y, Y = w2.heap.size := ⟨_, rfl⟩
        rw [← HYe] at HY3
        clear hb hb3 HLr HRr HBr
        go_upto_region 7 with fail
        rw [← HW3, ← HYe]
        clear HW3 HYe
        go_wp2_with fail
        refine (refKey_b K true _ HKey.out).mono ?_
        rintro e w4 ⟨rfl, rfl⟩
        go_upto_region 12 with fail
        go_cut [44] (fun c wd => c = .bool false ∧ Hid (Below w3.heap.size w3 wd))
        case first =>
          obtain ⟨c0, c1, c2, c3, c4, cf⟩ := HY3.out
          have lY := HY3.out.lt
          have hq := neq_cellsS x0 x1 x2 x3 x4 x0 x1 x2 x3 x4 true (by simp [En.same])
          have hgd := eqGuard_en
          have KP : Hid (∀ w', Below w3.heap.size w3 w' → w'.cell? ⟨Y, 0, none⟩ = some (.int .i64 x0) ∧ w'.cell? ⟨Y, 1, none⟩ = some (.int .i64 x1) ∧ w'.cell? ⟨Y, 2, none⟩ = some (.int .i64 x2) ∧ w'.cell? ⟨Y, 3, none⟩ = some (.bool x3) ∧ w'.cell? ⟨Y, 4, none⟩ = some (.string x4)) := fun w' hb => by
            have hx := HY3.out.below hb HY3.out.lt
            exact ⟨hx.c0, hx.c1, hx.c2, hx.c3, hx.c4⟩
          go_region_held3 (fun w' => w'.cell? ⟨Y, 0, none⟩ = some (.int .i64 x0) ∧ w'.cell? ⟨Y, 1, none⟩ = some (.int .i64 x1) ∧ w'.cell? ⟨Y, 2, none⟩ = some (.int .i64 x2) ∧ w'.cell? ⟨Y, 3, none⟩ = some (.bool x3) ∧ w'.cell? ⟨Y, 4, none⟩ = some (.string x4)) (first | go_keep | (exact KP.out _ HB7.out)) (first | (go_at_call 54; refine Calls.mono (refRead_v (RefIs.below HR3.out (by go_grown)) HX.out) ?_; rintro e w7 ⟨rfl, hb⟩; have HB7 : Hid (Below w3.heap.size w3 w7) := Below.trans (by go_grown) (hb.mono (by simp)); clear hb))
          all_goals go_wp2_with fail
          all_goals go_meet
          all_goals exact ⟨rfl, HB7.out⟩
        case rest =>
        obtain ⟨h44, HB4⟩ := hcut
        subst h44
        have HB5 : Hid (Below w.heap.size w wc) := HB3.out.trans (HB4.out.mono HB3.out.size)
        clear HB4 HY3 HR3 HX HA1
        go_wp2_with fail
        go_roundw
        case rel => exact ⟨K + 1, by omega, by omega, by go_num, HB5⟩
        case measure => simp [intOf]; omega
      · have HA1 : Hid ((atO l K l.length).1 = ⟨0, 0, 0, false, ⟨#[]⟩⟩ ∧ (atO l K l.length).2 = 1) := by
          show _ ∧ _
          rw [atO, if_neg (fun h => hs h.1)]
          exact ⟨rfl, rfl⟩
        have HKey : Hid (stK K = false) := by show stK K = false; simpa using hs
        clear hs
        go_wp2_with fail
        refine (lgRead_c HLr.out HA1.out.1 HA1.out.2).mono ?_
        rw [errN (by omega)]
        rintro e w2 ⟨rfl, hb⟩
        obtain ⟨w3, HW3⟩ : ∃ w3, w3 = w2.alloc (.cells #[.int .i64 0, .int .i64 0, .int .i64 0, .bool false, .string ⟨#[]⟩] 38) := ⟨_, rfl⟩
        have hb3 : Below wr.heap.size wr w3 := by rw [HW3]; exact hb.alloc hb.size _
        have HB3 : Hid (Below w.heap.size w w3) := HBr.out.trans (hb3.mono HBr.out.size)
        have HG3 : Hid (HasErr w3) := HGr.out.below HGr.out.lt hb3
        clear hb hb3 HLr HRr HBr HGr
        go_upto_region 7 with fail
        rw [← HW3]
        clear HW3
        go_wp2_with fail
        refine (refKey_b K false _ HKey.out).mono ?_
        rintro e w4 ⟨rfl, rfl⟩
        go_wp2_with fail
        refine (error_err 1 1 _ HG3.out).mono ?_
        rintro e w5 ⟨rfl, hb⟩
        rw [show ((1 : Int) == 1) = true from rfl]
        have HB5 : Hid (Below w.heap.size w w5) := HB3.out.trans (hb.mono HB3.out.size)
        clear hb HB3 HG3
        go_wp2_with fail
        go_roundw
        case rel => exact ⟨K + 1, by omega, by omega, by go_num, HB5⟩
        case measure => simp [intOf]; omega
    · go_wp2_with fail
      go_ret
      exact ⟨rfl, HBr.out⟩
end Go.Proofs.YtpcnfoaoajfhlaaDoor
