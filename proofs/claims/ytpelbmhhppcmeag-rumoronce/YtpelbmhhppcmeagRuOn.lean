/-
  RumorOnce: what is not newer is no rumor.
-/
import Derived.Test.YtpelbmhhppcmeagRuA
import Derived.Test.YtpelbmhhppcmeagRuB
import Derived.Deep.RegionHeld3
namespace Go.Proofs.Ytpelbmhhppcmeag
set_option linter.unusedVariables false
set_option linter.unusedSimpArgs false
open Go.RowKit

theorem eql_mm (x0 x1 x2 y0 y1 y2 : Int) (b : Bool) (h : Mm.same ⟨x0, x1, x2⟩ ⟨y0, y1, y2⟩ = b) (w : World) : (binOp .eql 23 (.agg #[.int .i64 x0, .int .i64 x1, .int .i64 x2]) (.agg #[.int .i64 y0, .int .i64 y1, .int .i64 y2])).run Try.prog w = .ok (.bool b) w := by
  have h1 := eql_mmIn ⟨x0, x1, x2⟩ ⟨y0, y1, y2⟩ w
  rw [h] at h1
  unfold Mm.val at h1
  rw [run_eql_struct, h1]
  rfl
theorem oneR_good {m : Mm} (h : m.ok = true) : GoodR [⟨m, 0⟩] := ⟨List.pairwise_singleton _ _, fun x hx => by rw [List.mem_singleton.1 hx, Ru.ok, h]; rfl⟩
theorem oneR_first {m : Mm} (h : m.ok = true) : addR [] m = ([⟨m, 0⟩], true, 0) := addR_ok rfl h
theorem oneR_bad {m : Mm} (h : m.ok = false) : addR [] m = ([], false, 1) := addR_mem rfl h
theorem nwB_self (m : Mm) : nwB m m = false := by simp [nwB]
theorem oneR_again {m : Mm} (h : m.ok = true) : addR [⟨m, 0⟩] m = ([⟨m, 0⟩], false, 0) := by
  rw [addR_ok (good_badR (oneR_good h)) h]
  have hg : getU [(⟨m, 0⟩ : Ru)] m.n = some ⟨m, 0⟩ := by rw [getU_cons, if_pos rfl]
  rw [hearU_self (oneR_good h).1 hg (nwB_self m), isU_some hg, nwB_self m]
theorem oneR_pick {m : Mm} (h : m.ok = true) : pickR [⟨m, 0⟩] 6 1 = ([m], [], 0) := by
  rw [pickR_ok (good_badR (oneR_good h)) rfl]
  have hg : gotR [(⟨m, 0⟩ : Ru)] (Int.toNat 6) ⟨m, 0⟩ = true := got_all (show 1 ≤ 6 by omega) (by simp)
  unfold toldR leftR
  rw [List.filter_cons_of_pos hg, List.filterMap_cons, hg]
  rfl
set_option maxRecDepth 100000 in
set_option maxHeartbeats 8000000 in
theorem rumorOnce_w (n f s : Int) (w : World) :
    Calls Try.prog 3 #[.agg #[.int .i64 n, .int .i64 f, .int .i64 s]] w fun e w' => e = .returned (.bool true) ∧ Below w.heap.size w w' := by
  have HB0 : Hid (Below w.heap.size w (w.alloc (.cells #[.int .i64 n, .int .i64 f, .int .i64 s] 23))) := (Below.refl _ _).alloc (Nat.le_refl _) _
  have HX0 : Hid (BoxM (w.alloc (.cells #[.int .i64 n, .int .i64 f, .int .i64 s] 23)) w.heap.size n f s) := boxM_new w n f s _ rfl
  cases hok : Mm.ok ⟨n, f, s⟩
  · have HA : Hid (addR [] ⟨n, f, s⟩ = ([], false, 1)) := oneR_bad hok
    clear hok
    go_enter Try.func3, Try.ntmps3
    go_wp2_with fail
    refine (addR_o HA.out _ _ (RusIs.nil _)).mono ?_
    rintro e w1 ⟨v1, rfl, ho, hb⟩
    rw [eV_err (by omega)]
    have B1 : Hid (Below w.heap.size w w1) := HB0.out.trans (hb.mono HB0.out.size)
    clear hb ho
    go_wp2_with fail
    go_ret
    exact ⟨rfl, B1.out⟩
  · have HA : Hid (addR [] ⟨n, f, s⟩ = ([⟨⟨n, f, s⟩, 0⟩], true, 0)) := oneR_first hok
    have HA2 : Hid (addR [⟨⟨n, f, s⟩, 0⟩] ⟨n, f, s⟩ = ([⟨⟨n, f, s⟩, 0⟩], false, 0)) := oneR_again hok
    have HP : Hid (pickR [⟨⟨n, f, s⟩, 0⟩] 6 1 = ([⟨n, f, s⟩], [], 0)) := oneR_pick hok
    clear hok
    go_enter Try.func3, Try.ntmps3
    go_wp2_with fail
    refine (addR_o HA.out _ _ (RusIs.nil _)).mono ?_
    rintro e w1 ⟨v1, rfl, ho, hb⟩
    rw [eV_zero]
    have B1 : Hid (Below w.heap.size w w1) := HB0.out.trans (hb.mono HB0.out.size)
    have M1 : Hid (RusIs w1 v1 [⟨⟨n, f, s⟩, 0⟩]) := ho.rus
    have X1 : Hid (BoxM w1 w.heap.size n f s) := HX0.out.below hb HX0.out.lt
    clear hb ho HX0 HB0 HA
    obtain ⟨a0, a1, a2, af⟩ := X1.out
    go_wp2_with fail
    refine (addR_o HA2.out _ _ M1.out).mono ?_
    rintro e w2 ⟨v2, rfl, ho, hb⟩
    rw [eV_zero]
    have B2 : Hid (Below w.heap.size w w2) := B1.out.trans (hb.mono B1.out.size)
    have M2 : Hid (RusIs w2 v2 [⟨⟨n, f, s⟩, 0⟩]) := ho.rus
    have M2a : Hid (RusIs w2 v1 [⟨⟨n, f, s⟩, 0⟩]) := M1.out.below hb
    have X2 : Hid (BoxM w2 w.heap.size n f s) := X1.out.below hb X1.out.lt
    clear hb ho HA2 B1 M1 X1 a0 a1 a2 af
    go_wp2_with fail
    refine (pick_o HP.out _ _ M2.out).mono ?_
    rintro e w3 ⟨v3, v4, rfl, ho1, ho2, hb⟩
    rw [eV_zero]
    have B3 : Hid (Below w.heap.size w w3) := B2.out.trans (hb.mono B2.out.size)
    have M3 : Hid (RusIs w3 v2 [⟨⟨n, f, s⟩, 0⟩]) := M2.out.below hb
    have M3a : Hid (RusIs w3 v1 [⟨⟨n, f, s⟩, 0⟩]) := M2a.out.below hb
    have X3 : Hid (BoxM w3 w.heap.size n f s) := X2.out.below hb X2.out.lt
    have M4 : Hid (MmsIs w3 v3 [⟨n, f, s⟩]) := ho1.mms
    obtain ⟨_, p4, cap4, rfl, _⟩ := ho2.rus
    obtain ⟨_, p3, cap3, rfl, h3⟩ := M4.out
    obtain ⟨G, o, rfl, hGw, hat⟩ := h3 (by simp)
    have A3 : Hid (MmAt w3 G o ⟨n, f, s⟩) := hat 0 (by simp)
    clear hb ho1 ho2 HP B2 M2 M2a X2 h3 hat M4
    obtain ⟨a0, a1, a2, af⟩ := X3.out
    obtain ⟨c0, c1, c2⟩ := A3.out
    dsimp only at c0 c1 c2
    have hq := eql_mm n f s n f s true (by simp [Mm.same])
    have hgd := eqGuard_mm
    go_upto_region 6 with fail
    go_region_held3 (fun w' => w'.cell? ⟨w.heap.size, 0, none⟩ = some (.int .i64 n) ∧ w'.cell? ⟨w.heap.size, 1, none⟩ = some (.int .i64 f) ∧ w'.cell? ⟨w.heap.size, 2, none⟩ = some (.int .i64 s) ∧ w'.cell? ⟨G, o, none⟩ = some (.int .i64 n) ∧ w'.cell? ⟨G, o + 1, none⟩ = some (.int .i64 f) ∧ w'.cell? ⟨G, o + 2, none⟩ = some (.int .i64 s)) (first | go_keep | (exact ⟨a0, a1, a2, c0, c1, c2⟩) | (obtain ⟨e0, e1, e2, _⟩ := X3.out.below hb4 X3.out.lt; obtain ⟨f0, f1, f2⟩ := A3.out.of_block (hb4.block G hGw); exact ⟨e0, e1, e2, f0, f1, f2⟩)) (first | (go_at_call 6; refine (sameRu_c v2 v1 _ _ M3.out.drew M3a.out.drew).mono ?_; rintro e w4 ⟨rfl, hb4'⟩; have hb4 : Below w3.heap.size w3 w4 := below_undrew hb4'; clear hb4'))
    go_wp2_with fail
    go_ret
    exact ⟨rfl, B3.out.trans (hb4.mono B3.out.size)⟩
end Go.Proofs.Ytpelbmhhppcmeag
