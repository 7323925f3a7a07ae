/-
  The document's mail: Send, by its contract.
-/
import Derived.Test.YthpcogpbgjkiaahDoorRmO
import Derived.BigQuiet
import Derived.Deep.RegionLaw
import Derived.BigRegion
import Derived.Deep.AppendLies
import Derived.Deep.DrawnRows
namespace Go.Proofs.YthpcogpbgjkiaahDoor
set_option linter.unusedVariables false
set_option linter.unusedSimpArgs false
open Go.RowKit
attribute [local go_sem ↓] Go.wp_at_zero Go.wp_at_succ

theorem rEntryM_b {k v a : Int} {g : Bool} {t : ByteArray} {n : Int} (h : bad k v a g t = n) (w : World) :
    Calls Tryd.prog 23 #[.agg #[.int .i64 k, .int .i64 v, .int .i64 a, .bool g, .string t]] w fun e w' => e = .returned (.int .i64 n) ∧ Below w.heap.size w w' := by
  subst h
  exact rEntry_c k v a g t w
set_option maxHeartbeats 4000000 in
theorem rSend_ends {f d k v a : Int} {g : Bool} {t : ByteArray} {m : Int} (h : endsE f d = m) (hm : m ≠ 0) (b : Nat) (w : World) :
    Calls Tryd.prog 6 #[.pointer (some ⟨b, 0, none⟩), .agg #[.int .i64 f, .int .i64 d, .int .i64 k, .int .i64 v, .int .i64 a, .bool g, .string t]] w fun e w' => e = .returned (.int .i64 m) ∧ Below w.heap.size w w' := by
  have H : Hid (endsE f d = m) := h
  have hm0 : (m == 0) = false := by simpa using hm
  clear h hm
  go_enter Tryd.func6, Tryd.ntmps6
  go_wp2_with fail
  refine (rEnds_b H.out _).mono ?_
  rintro e w1 ⟨rfl, rfl⟩
  go_upto_region 6 with fail
  go_quiet (fail)
  go_wp2_with fail
  go_ret
  have hb0 : Below w.heap.size w (w.alloc (.cells #[.int .i64 f, .int .i64 d, .int .i64 k, .int .i64 v, .int .i64 a, .bool g, .string t] 37)) := by go_grown
  exact ⟨rfl, hb0.trans ⟨rfl, rfl, rfl, Nat.le_refl _, fun _ _ => rfl⟩⟩
set_option maxHeartbeats 4000000 in
theorem rSend_bad {f d k v a : Int} {g : Bool} {t : ByteArray} {m : Int} (h : endsE f d = 0) (hb : bad k v a g t = m) (hm : m ≠ 0) (b : Nat) (w : World) :
    Calls Tryd.prog 6 #[.pointer (some ⟨b, 0, none⟩), .agg #[.int .i64 f, .int .i64 d, .int .i64 k, .int .i64 v, .int .i64 a, .bool g, .string t]] w fun e w' => e = .returned (.int .i64 m) ∧ Below w.heap.size w w' := by
  have H : Hid (endsE f d = 0) := h
  have HB : Hid (bad k v a g t = m) := hb
  have hm0 : (m == 0) = false := by simpa using hm
  clear h hm hb
  go_enter Tryd.func6, Tryd.ntmps6
  go_wp2_with fail
  refine (rEnds_b H.out _).mono ?_
  rintro e w1 ⟨rfl, rfl⟩
  go_wp2_with fail
  refine (rEntryM_b HB.out _).mono ?_
  rintro e w1 ⟨rfl, hb⟩
  have B1 : Hid (Below w.heap.size w w1) := Below.trans (by go_grown) (hb.mono (by simp))
  clear hb
  go_upto_region 6 with fail
  go_quiet (fail)
  go_wp2_with fail
  go_ret
  exact ⟨rfl, B1.out.trans ⟨rfl, rfl, rfl, Nat.le_refl _, fun _ _ => rfl⟩⟩
set_option maxHeartbeats 4000000 in
theorem rSend_full {S : Nat → Prop} {w : World} {b : Nat} {l : List Lt} {q : Nat → Nat → Bool} (hml : RmAt S w b l q) {f d k v a : Int} {g : Bool} {t : ByteArray} (h : endsE f d = 0) (hb : bad k v a g t = 0) (hl : 40 ≤ l.length) :
    Calls Tryd.prog 6 #[.pointer (some ⟨b, 0, none⟩), .agg #[.int .i64 f, .int .i64 d, .int .i64 k, .int .i64 v, .int .i64 a, .bool g, .string t]] w fun e w' => e = .returned (.int .i64 4) ∧ Below w.heap.size w w' := by
  have H : Hid (endsE f d = 0) := h
  have HB : Hid (bad k v a g t = 0) := hb
  obtain ⟨vv, hml⟩ := hml
  obtain ⟨p, cap, rfl⟩ := hml.own.slice
  obtain ⟨n, HN⟩ : ∃ n, Hid (l.length = n) := ⟨_, rfl⟩
  have HC0 : Hid (w.cell? ⟨b, 0, none⟩ = some (.slice p n cap)) := by have := hml.c0; rw [HN.out] at this; exact this
  have hF : (40 : Int) ≤ (n : Int) := by rw [HN.out] at hl; omega
  have lb : b < w.heap.size := hml.lt b hml.s0
  clear h hb hml hl
  go_enter Tryd.func6, Tryd.ntmps6
  go_wp2_with fail
  refine (rEnds_b H.out _).mono ?_
  rintro e w1 ⟨rfl, rfl⟩
  go_wp2_with fail
  refine (rEntryM_b HB.out _).mono ?_
  rintro e w1 ⟨rfl, hb⟩
  have B1 : Hid (Below w.heap.size w w1) := Below.trans (by go_grown) (hb.mono (by simp))
  clear hb
  have c0 := (Turn.of_below (S := fun _ => False) B1.out).cell HC0.out id
  have lb1 : b < w1.heap.size := Nat.lt_of_lt_of_le lb B1.out.size
  go_upto_region 6 with fail
  go_quiet (fail)
  go_wp2_with fail
  go_ret
  exact ⟨rfl, B1.out.trans ⟨rfl, rfl, rfl, Nat.le_refl _, fun _ _ => rfl⟩⟩
set_option maxRecDepth 100000 in
set_option maxHeartbeats 8000000 in
theorem rSend_lost {S : Nat → Prop} {w : World} {b : Nat} {l : List Lt} {q : Nat → Nat → Bool} (hml : RmAt S w b l q) {f d : Nat} {k v a : Int} {g : Bool} {t : ByteArray} (h : endsE f d = 0) (hf : f < 6) (hd : d < 6) (hb : bad k v a g t = 0) (hl : ¬ 40 ≤ l.length) (hq : q f d = true) :
    Calls Tryd.prog 6 #[.pointer (some ⟨b, 0, none⟩), .agg #[.int .i64 f, .int .i64 d, .int .i64 k, .int .i64 v, .int .i64 a, .bool g, .string t]] w fun e w' => e = .returned (.int .i64 0) ∧ Below w.heap.size w w' := by
  have H : Hid (endsE f d = 0) := h
  have HB : Hid (bad k v a g t = 0) := hb
  obtain ⟨vv, hml⟩ := hml
  obtain ⟨p, cap, rfl⟩ := hml.own.slice
  obtain ⟨i0, hi0, hz0, hz1, hz2⟩ := info_parts infoLt
  obtain ⟨n, HN⟩ : ∃ n, Hid (l.length = n) := ⟨_, rfl⟩
  have HM : Hid (Rm S w b (.slice p l.length cap) l q) := hml
  have hF : ¬ (40 : Int) ≤ (n : Int) := by rw [HN.out] at hl; omega
  have hl40 : n < 40 := by omega
  have lb : b < w.heap.size := hml.lt b hml.s0
  have HQ : Hid (q f d = true) := hq
  have hfi : (f : Int) < 6 := by omega
  have hdi : (d : Int) < 6 := by omega
  clear h hb hml hl hq
  go_enter Tryd.func6, Tryd.ntmps6
  go_wp2_with fail
  refine (rEnds_b H.out _).mono ?_
  rintro e w1 ⟨rfl, rfl⟩
  go_wp2_with fail
  refine (rEntryM_b HB.out _).mono ?_
  rintro e w1 ⟨rfl, hb⟩
  have B1 : Hid (Below w.heap.size w w1) := Below.trans (by go_grown) (hb.mono (by simp))
  have X1 : Hid (BoxL w1 w.heap.size f d k v a g t) := (boxL_new w f d k v a g t w.heap.size rfl).below hb (by simp)
  clear hb
  have M1 : Hid (Rm S w1 b (.slice p l.length cap) l q) := HM.out.blocks B1.out.size (fun c hc => B1.out.block c (HM.out.lt c hc))
  have c0 := M1.out.c0
  rw [HN.out] at c0
  have cq := M1.out.cq f d hf hd
  rw [HQ.out] at cq
  have lb1 : b < w1.heap.size := Nat.lt_of_lt_of_le lb B1.out.size
  have lx1 := X1.out.lt
  obtain ⟨x0, x1, x2, x3, x4, x5, x6, xf⟩ := X1.out
  go_upto_region 6 with fail
  go_quiet (fail)
  go_wp2_with fail
  go_ret
  exact ⟨rfl, B1.out.trans ⟨rfl, rfl, rfl, Nat.le_refl _, fun _ _ => rfl⟩⟩
set_option maxRecDepth 100000 in
set_option maxHeartbeats 8000000 in
theorem rSend_ok {S : Nat → Prop} {w : World} {b : Nat} {l : List Lt} {q : Nat → Nat → Bool} (hml : RmAt S w b l q) {f d : Nat} {k v a : Int} {g : Bool} {t : ByteArray} (h : endsE f d = 0) (hf : f < 6) (hd : d < 6) (hb : bad k v a g t = 0) (hl : ¬ 40 ≤ l.length) (hq : q f d = false) :
    Calls Tryd.prog 6 #[.pointer (some ⟨b, 0, none⟩), .agg #[.int .i64 f, .int .i64 d, .int .i64 k, .int .i64 v, .int .i64 a, .bool g, .string t]] w fun e w' => e = .returned (.int .i64 0) ∧ RmTo S w w' b (l ++ [⟨f, d, ⟨k, v, a, g, t⟩⟩]) q := by
  have H : Hid (endsE f d = 0) := h
  have HB : Hid (bad k v a g t = 0) := hb
  obtain ⟨vv, hml⟩ := hml
  obtain ⟨p, cap, rfl⟩ := hml.own.slice
  obtain ⟨i0, hi0, hz0, hz1, hz2⟩ := info_parts infoLt
  obtain ⟨n, HN⟩ : ∃ n, Hid (l.length = n) := ⟨_, rfl⟩
  have HM : Hid (Rm S w b (.slice p l.length cap) l q) := hml
  have hF : ¬ (40 : Int) ≤ (n : Int) := by rw [HN.out] at hl; omega
  have hl40 : n < 40 := by omega
  have lb : b < w.heap.size := hml.lt b hml.s0
  have HQ : Hid (q f d = false) := hq
  have hfi : (f : Int) < 6 := by omega
  have hdi : (d : Int) < 6 := by omega
  clear h hb hml hl hq
  go_enter Tryd.func6, Tryd.ntmps6
  go_wp2_with fail
  refine (rEnds_b H.out _).mono ?_
  rintro e w1 ⟨rfl, rfl⟩
  go_wp2_with fail
  refine (rEntryM_b HB.out _).mono ?_
  rintro e w1 ⟨rfl, hb⟩
  have B1 : Hid (Below w.heap.size w w1) := Below.trans (by go_grown) (hb.mono (by simp))
  have X1 : Hid (BoxL w1 w.heap.size f d k v a g t) := (boxL_new w f d k v a g t w.heap.size rfl).below hb (by simp)
  clear hb
  have M1 : Hid (Rm S w1 b (.slice p l.length cap) l q) := HM.out.blocks B1.out.size (fun c hc => B1.out.block c (HM.out.lt c hc))
  have c0 := M1.out.c0
  rw [HN.out] at c0
  have cq := M1.out.cq f d hf hd
  rw [HQ.out] at cq
  have lb1 : b < w1.heap.size := Nat.lt_of_lt_of_le lb B1.out.size
  have lx1 := X1.out.lt
  obtain ⟨x0, x1, x2, x3, x4, x5, x6, xf⟩ := X1.out
  go_upto_region 6 with fail
  go_quiet (fail)
  go_upto_region 7 with fail
  generalize hW : w1.drewN nq = W
  have M3 : Hid (Rm S W b (.slice p l.length cap) l q) := by rw [← hW]; exact M1.out.blocks (Nat.le_refl _) (fun _ _ => rfl)
  have X3 : Hid (BoxL W w.heap.size f d k v a g t) := by rw [← hW]; exact X1.out.of_block rfl
  have B3 : Hid (Below w.heap.size w W) := by rw [← hW]; exact B1.out.trans ⟨rfl, rfl, rfl, Nat.le_refl _, fun _ _ => rfl⟩
  clear hW c0 cq lb1 lx1 x0 x1 x2 x3 x4 x5 x6 xf M1 X1 B1
  have c0 := M3.out.c0
  rw [HN.out] at c0
  have fz := M3.out.fz 0
  have lb3 : b < W.heap.size := World.block_lt_of_cell? W _ c0
  have lx3 := X3.out.lt
  obtain ⟨x0, x1, x2, x3, x4, x5, x6, xf⟩ := X3.out
  clear xf
  have OW : Hid (W.ownsRow 0 37 7 (.slice p n cap) n (rowL l)) := by have := M3.out.own; unfold OwnL at this; rw [HN.out] at this; exact this
  have hne : (Value.slice p n cap).ownBlock ≠ some b := by have := M3.out.n0; rw [HN.out] at this; exact this
  go_region_law
    ((refine step_append_lies _ (by rfl) _ _ _ (by rfl) 0 37 i0 _ 7 64 Tryd.underlying27 hi0 hz0 hz1 hz2 rfl (by omega) (.slice p n cap) n (rowL l) (by rfl) ((OW.out.alloc _).drew)
        ⟨W.heap.size, 0, none⟩ 1 1 [.int .i64 (f : Int), .int .i64 (d : Int), .int .i64 k, .int .i64 v, .int .i64 a, .bool g, .string t] (by rfl) (by rfl) (World.news_of_block (cs := #[.int .i64 (f : Int), .int .i64 (d : Int), .int .i64 k, .int .i64 v, .int .i64 a, .bool g, .string t]) (t := 37) (fr := (0, 0)) (heap_alloc_new W _)) (by simp [Value.oneCell'])
        (by omega) (by unfold maxLen; omega) (by omega) (by simp) (W.heap.size + 1) (by simp) ?_; intro G cap' w4 hown1 hgrow hat hlt; have fz4 : w4.frozen? ⟨b, 0, none⟩ = false := (hgrow.frozen_far _ (by simp; omega) (Ne.symm hne)).trans ((World.frozen?_alloc_old _ _ ⟨b, 0, none⟩ (Nat.ne_of_lt lb3)).trans fz); have cz : w4.cell? ⟨b, 0, none⟩ = some (.slice p n cap) := (hgrow.cell_far _ (by simp; omega) (Ne.symm hne)).trans ((World.cell?_alloc_lt _ _ ⟨b, 0, none⟩ lb3).trans c0)))
  all_goals go_wp2
  all_goals go_ret
  all_goals exact ⟨rfl, RmTo.after B3.out (M3.out.sent (x := ⟨f, d, ⟨k, v, a, g, t⟩⟩) HN.out (by rw [HN.out]; exact hgrow) hown1 (by rw [HN.out]; simpa using hat) hlt)⟩
/-- Send, whatever comes in -/
theorem rSend_c {S : Nat → Prop} {w : World} {b : Nat} {l : List Lt} {q : Nat → Nat → Bool} (h : RmAt S w b l q) (f d k v a : Int) (g : Bool) (t : ByteArray) :
    Calls Tryd.prog 6 #[.pointer (some ⟨b, 0, none⟩), .agg #[.int .i64 f, .int .i64 d, .int .i64 k, .int .i64 v, .int .i64 a, .bool g, .string t]] w fun e w' => e = .returned (.int .i64 (sendE l.length ⟨f, d, ⟨k, v, a, g, t⟩⟩)) ∧ RmTo S w w' b (sendL l q ⟨f, d, ⟨k, v, a, g, t⟩⟩) q := by
  by_cases h0 : endsE f d = 0
  · by_cases h1 : bad k v a g t = 0
    · by_cases h2 : 40 ≤ l.length
      · refine (rSend_full h h0 h1 h2).mono ?_
        rintro e w' ⟨rfl, hb⟩
        have he : sendE l.length ⟨f, d, ⟨k, v, a, g, t⟩⟩ = 4 := sendE_full h0 h1 h2
        rw [sendL, he, if_neg (by omega)]
        exact ⟨rfl, h.to hb⟩
      · have he : sendE l.length ⟨f, d, ⟨k, v, a, g, t⟩⟩ = 0 := sendE_ok h0 h1 h2
        obtain ⟨x, y, rfl, rfl, hx, hy, _⟩ := endsE_ok h0
        rw [sendL, he]
        cases hq : q x y
        · rw [if_pos ⟨rfl, by simpa using hq⟩]
          exact rSend_ok h h0 hx hy h1 h2 hq
        · rw [if_neg (by simp [hq])]
          refine (rSend_lost h h0 hx hy h1 h2 hq).mono ?_
          rintro e w' ⟨rfl, hb⟩
          exact ⟨rfl, h.to hb⟩
    · refine (rSend_bad h0 rfl h1 b w).mono ?_
      rintro e w' ⟨rfl, hb⟩
      have he : sendE l.length ⟨f, d, ⟨k, v, a, g, t⟩⟩ = bad k v a g t := sendE_bad h0 rfl h1
      rw [sendL, he, if_neg (fun e => h1 e.1)]
      exact ⟨rfl, h.to hb⟩
  · refine (rSend_ends rfl h0 b w).mono ?_
    rintro e w' ⟨rfl, hb⟩
    have he : sendE l.length ⟨f, d, ⟨k, v, a, g, t⟩⟩ = endsE f d := sendE_ends rfl h0
    rw [sendL, he, if_neg (fun e => h0 e.1)]
    exact ⟨rfl, h.to hb⟩
theorem rSend_n {S : Nat → Prop} {w : World} {b : Nat} {l l' : List Lt} {q : Nat → Nat → Bool} {f d k v a : Int} {g : Bool} {t : ByteArray} {m : Int} (h : RmAt S w b l q) (hm : sendE l.length ⟨f, d, ⟨k, v, a, g, t⟩⟩ = m) (hl : sendL l q ⟨f, d, ⟨k, v, a, g, t⟩⟩ = l') :
    Calls Tryd.prog 6 #[.pointer (some ⟨b, 0, none⟩), .agg #[.int .i64 f, .int .i64 d, .int .i64 k, .int .i64 v, .int .i64 a, .bool g, .string t]] w fun e w' => e = .returned (.int .i64 m) ∧ RmTo S w w' b l' q := by
  subst hm hl
  exact rSend_c h f d k v a g t
end Go.Proofs.YthpcogpbgjkiaahDoor
