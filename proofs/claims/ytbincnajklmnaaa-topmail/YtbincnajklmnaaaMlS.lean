/-
  Package mail by its contracts: Send.
-/
import Derived.Test.YtbincnajklmnaaaMlK
import Derived.Deep.RegionLaw
import Derived.BigRegion
import Derived.Deep.AppendLies
import Derived.Deep.DrawnRows
namespace Go.Proofs.Ytbincnajklmnaaa
set_option linter.unusedVariables false
set_option linter.unusedSimpArgs false
open Go.RowKit
attribute [local go_sem ↓] Go.wp_at_zero Go.wp_at_succ

/-- a letter more in the row, and the row's new value stored -/
theorem Ml.sent {S : Nat → Prop} {W w4 : World} {b bm n cap' G : Nat} {v : Value} {l : List Lt} {q : Nat → Nat → Bool} {o : Obj} {x : Lt} (h : Ml S W b bm v l q) (hn : l.length = n) (hgrow : (W.alloc o).drew.grownBy w4 v.ownBlock)
    (hown : w4.ownsRow 0 42 7 (.slice (some ⟨G, 0, none⟩) (n + 1) cap') (n + 1) (rowL l ++ x.cells)) (hat : v.ownBlock = some G ∨ G = W.heap.size + 1) (hlt : G < w4.heap.size) :
    MlTo S W (w4.setCell ⟨b, 0, none⟩ (.slice (some ⟨G, 0, none⟩) (n + 1) cap')) b (l ++ [x]) q := by
  have hsz : (W.alloc o).drew.heap.size = W.heap.size + 1 := by simp
  have hs4 : W.heap.size + 1 ≤ w4.heap.size := by have := hgrow.size; omega
  have hb : ∀ c, c < W.heap.size → v.ownBlock ≠ some c → w4.heap[c]? = W.heap[c]? := fun c hc hv => (hgrow.block c (by omega) (fun e => hv e.symm)).trans (Below.heap_alloc _ _ _ hc)
  have lb := h.lt b h.s0
  have lm := h.lt bm h.s1
  have b4 := hb b lb h.n0
  have m4 := hb bm lm h.n1
  have hGb : G ≠ b := fun e => by
    rcases hat with h1 | h1
    · exact h.n0 (by rw [← e]; exact h1)
    · omega
  have hGm : G ≠ bm := fun e => by
    rcases hat with h1 | h1
    · exact h.n1 (by rw [← e]; exact h1)
    · omega
  have hG : ∀ c, (Value.slice (some ⟨G, 0, none⟩) (n + 1) cap').ownBlock = some c → G = c := fun c hc => by simpa [Value.ownBlock] using hc
  have ho : OwnL w4 (.slice (some ⟨G, 0, none⟩) (n + 1) cap') (l ++ [x]) := by
    show World.ownsRow _ _ _ _ _ _ _
    rw [rowL_append, List.length_append, hn]
    simpa [rowL] using hown
  refine ⟨⟨hgrow.os, hgrow.tape, hgrow.output, by rw [World.size_setCell]; omega, fun c hc hs => ?_⟩, fun c => S c ∨ c = G, ⟨bm, _, World.cell?_setCell_same _ _ _ ((World.cell?_of_block (a := ⟨b, 0, none⟩) b4).trans h.c0), ?_, fun j => ?_, ?_, ?_, fun e => hGb (hG _ e), fun e => hGm (hG _ e), h.n2, .inl h.s0, .inl h.s1, fun c hc => .inr (hG c hc).symm, fun c hc => ?_⟩, fun c hc => ?_⟩
  · rw [Below.heap_setCell _ _ _ c (fun e => hs (by rw [e]; exact h.s0))]
    exact hb c hc (fun e => hs (h.s2 c e))
  · rw [World.cell?_setCell_other _ _ _ _ (by simp)]
    exact (World.cell?_of_block (a := ⟨b, 1, none⟩) b4).trans h.c1
  · rw [World.frozen?_setCell]
    exact (World.frozen?_of_block (a := ⟨b, j, none⟩) b4).trans (h.fz j)
  · exact ho.blocks (fun c hc => Below.heap_setCell _ _ _ c (fun e => hGb ((hG c hc).trans e)))
  · exact h.cut.of_block ((Below.heap_setCell _ _ _ bm h.n2).trans m4)
  · rw [World.size_setCell]
    rcases hc with hc | hc
    · have := h.lt c hc
      omega
    · omega
  · rcases hc with hc | hc
    · exact .inl hc
    · rcases hat with h1 | h1
      · exact .inl (h.s2 c (by rw [hc]; exact h1))
      · exact .inr (by omega)
theorem sendE_ends {n : Nat} {x : Lt} {m : Int} (h : endsE x.f x.d = m) (hm : m ≠ 0) : sendE n x = m := by
  rw [sendE, h, if_pos hm]
theorem sendE_bad {n : Nat} {x : Lt} {m : Int} (h : endsE x.f x.d = 0) (hb : x.e.bad = m) (hm : m ≠ 0) : sendE n x = m := by
  rw [sendE, h, if_neg (by simp), hb, if_pos hm]
theorem sendE_full {n : Nat} {x : Lt} (h : endsE x.f x.d = 0) (hb : x.e.bad = 0) (hn : 40 ≤ n) : sendE n x = 4 := by
  rw [sendE, h, if_neg (by simp), hb, if_neg (by simp), if_pos hn]
theorem sendE_ok {n : Nat} {x : Lt} (h : endsE x.f x.d = 0) (hb : x.e.bad = 0) (hn : ¬ 40 ≤ n) : sendE n x = 0 := by
  rw [sendE, h, if_neg (by simp), hb, if_neg (by simp), if_neg hn]
theorem mlSend_ends {f d k v a : Int} {g : Bool} {t : ByteArray} {m : Int} (h : endsE f d = m) (hm : m ≠ 0) (b : Nat) (w : World) :
    Calls Try.prog 11 #[.pointer (some ⟨b, 0, none⟩), .agg #[.int .i64 f, .int .i64 d, .int .i64 k, .int .i64 v, .int .i64 a, .bool g, .string t]] w fun e w' => e = .returned (.iface 65 (.int .i64 m)) ∧ Below w.heap.size w w' := by
  have H : Hid (endsE f d = m) := h
  clear h
  go_enter Try.func11, Try.ntmps11
  go_wp2_with fail
  refine (checkWay_err H.out hm _).mono ?_
  rintro e w1 ⟨rfl, hb⟩
  have B1 : Hid (Below w.heap.size w w1) := Below.trans (by go_grown) (hb.mono (by simp; omega))
  clear hb
  go_wp2_with fail
  go_ret
  exact ⟨rfl, B1.out⟩
theorem mlSend_bad {f d k v a : Int} {g : Bool} {t : ByteArray} {m : Int} (h : endsE f d = 0) (hb : bad k v a g t = m) (hm : m ≠ 0) (b : Nat) (w : World) :
    Calls Try.prog 11 #[.pointer (some ⟨b, 0, none⟩), .agg #[.int .i64 f, .int .i64 d, .int .i64 k, .int .i64 v, .int .i64 a, .bool g, .string t]] w fun e w' => e = .returned (.iface 65 (.int .i64 m)) ∧ Below w.heap.size w w' := by
  have H : Hid (endsE f d = 0) := h
  have HB : Hid (bad k v a g t = m) := hb
  clear h hb
  go_enter Try.func11, Try.ntmps11
  go_wp2_with fail
  refine (checkWay_ok H.out _).mono ?_
  rintro e w1 ⟨rfl, hb⟩
  have B1 : Hid (Below w.heap.size w w1) := Below.trans (by go_grown) (hb.mono (by simp; omega))
  obtain ⟨x0, x1, x2, x3, x4, x5, x6, xf⟩ := ((boxL_new w f d k v a g t w.heap.size rfl).alloc _).below hb (by simp; omega)
  clear hb
  go_wp2_with fail
  refine (check_err HB.out hm _).mono ?_
  rintro e w2 ⟨rfl, hb⟩
  have B2 : Hid (Below w.heap.size w w2) := B1.out.trans (hb.mono B1.out.size)
  clear hb
  go_wp2_with fail
  go_ret
  exact ⟨rfl, B2.out⟩
set_option maxHeartbeats 4000000 in
theorem mlSend_full {S : Nat → Prop} {w : World} {b : Nat} {l : List Lt} {q : Nat → Nat → Bool} (hml : MlAt S w b l q) {f d k v a : Int} {g : Bool} {t : ByteArray} (h : endsE f d = 0) (hb : bad k v a g t = 0) (hl : 40 ≤ l.length) :
    Calls Try.prog 11 #[.pointer (some ⟨b, 0, none⟩), .agg #[.int .i64 f, .int .i64 d, .int .i64 k, .int .i64 v, .int .i64 a, .bool g, .string t]] w fun e w' => e = .returned (.iface 65 (.int .i64 4)) ∧ Below w.heap.size w w' := by
  have H : Hid (endsE f d = 0) := h
  have HB : Hid (bad k v a g t = 0) := hb
  obtain ⟨bm, vv, hml⟩ := hml
  obtain ⟨p, cap, rfl⟩ := hml.own.slice
  have HC0 : Hid (w.cell? ⟨b, 0, none⟩ = some (.slice p l.length cap)) := hml.c0
  have HF : Hid (decide (40 ≤ l.length) = true) := by show _ = true; simpa using hl
  clear h hb hml hl
  go_enter Try.func11, Try.ntmps11
  go_wp2_with fail
  refine (checkWay_ok H.out _).mono ?_
  rintro e w1 ⟨rfl, hb⟩
  have B1 : Hid (Below w.heap.size w w1) := Below.trans (by go_grown) (hb.mono (by simp; omega))
  obtain ⟨x0, x1, x2, x3, x4, x5, x6, xf⟩ := ((boxL_new w f d k v a g t w.heap.size rfl).alloc _).below hb (by simp; omega)
  clear hb
  go_wp2_with fail
  refine (check_ok HB.out _).mono ?_
  rintro e w2 ⟨rfl, hb⟩
  have B2 : Hid (Below w.heap.size w w2) := B1.out.trans (hb.mono B1.out.size)
  clear hb x0 x1 x2 x3 x4 x5 x6 xf
  go_wp2_with fail
  refine (mlFull_b ((Turn.of_below (S := fun _ => False) B2.out).cell HC0.out id) HF.out).mono ?_
  rintro e w3 ⟨rfl, rfl⟩
  go_wp2_with fail
  go_ret
  exact ⟨rfl, B2.out⟩
set_option maxHeartbeats 4000000 in
theorem mlSend_lost {S : Nat → Prop} {w : World} {b : Nat} {l : List Lt} {q : Nat → Nat → Bool} (hml : MlAt S w b l q) {f d : Nat} {k v a : Int} {g : Bool} {t : ByteArray} (h : endsE f d = 0) (hf : f < 6) (hd : d < 6) (hb : bad k v a g t = 0) (hl : ¬ 40 ≤ l.length) (hq : q f d = true) :
    Calls Try.prog 11 #[.pointer (some ⟨b, 0, none⟩), .agg #[.int .i64 f, .int .i64 d, .int .i64 k, .int .i64 v, .int .i64 a, .bool g, .string t]] w fun e w' => e = .returned .nilIface ∧ Below w.heap.size w w' := by
  have H : Hid (endsE f d = 0) := h
  have HB : Hid (bad k v a g t = 0) := hb
  obtain ⟨bm, vv, hml⟩ := hml
  obtain ⟨p, cap, rfl⟩ := hml.own.slice
  have HM : Hid (Ml S w b bm (.slice p l.length cap) l q) := hml
  have lb : b < w.heap.size := hml.lt b hml.s0
  have HF : Hid (decide (40 ≤ l.length) = false) := by show _ = false; simpa using hl
  have HQ : Hid (q f d = true) := hq
  clear h hb hml hl hq
  go_enter Try.func11, Try.ntmps11
  go_wp2_with fail
  refine (checkWay_ok H.out _).mono ?_
  rintro e w1 ⟨rfl, hb⟩
  have B1 : Hid (Below w.heap.size w w1) := Below.trans (by go_grown) (hb.mono (by simp; omega))
  obtain ⟨x0, x1, x2, x3, x4, x5, x6, xf⟩ := ((boxL_new w f d k v a g t w.heap.size rfl).alloc _).below hb (by simp; omega)
  have y0 : w1.cell? ⟨w.heap.size + 1, 0, none⟩ = some (.int .i64 f) := (Turn.of_below (S := fun _ => False) hb).cell (by rw [show w.heap.size + 1 = (w.alloc (.cells #[.int .i64 (f : Int), .int .i64 (d : Int), .int .i64 k, .int .i64 v, .int .i64 a, .bool g, .string t] 42)).heap.size by simp]; simp) id
  have y1 : w1.cell? ⟨w.heap.size + 1, 1, none⟩ = some (.int .i64 d) := (Turn.of_below (S := fun _ => False) hb).cell (by rw [show w.heap.size + 1 = (w.alloc (.cells #[.int .i64 (f : Int), .int .i64 (d : Int), .int .i64 k, .int .i64 v, .int .i64 a, .bool g, .string t] 42)).heap.size by simp]; simp) id
  clear hb
  go_wp2_with fail
  refine (check_ok HB.out _).mono ?_
  rintro e w2 ⟨rfl, hb⟩
  have B2 : Hid (Below w.heap.size w w2) := B1.out.trans (hb.mono B1.out.size)
  have z0 := (Turn.of_below (S := fun _ => False) hb).cell y0 id
  have z1 := (Turn.of_below (S := fun _ => False) hb).cell y1 id
  clear hb x0 x1 x2 x3 x4 x5 x6 xf y0 y1
  have M2 : Hid (Ml S w2 b bm (.slice p l.length cap) l q) := HM.out.blocks B2.out.size (fun c hc => B2.out.block c (HM.out.lt c hc))
  go_wp2_with fail
  refine (mlFull_b M2.out.c0 HF.out).mono ?_
  rintro e w3 ⟨rfl, rfl⟩
  have hlk := (M2.out.cut.of_block (w' := w2.drew) rfl).look f d hf hd
  rw [HQ.out] at hlk
  have hlk2 := (M2.out.cut.of_block (w' := (w2.alloc (.cells #[] 84)).drew) (Below.heap_alloc _ _ _ M2.out.cut.lt)).look f d hf hd
  rw [HQ.out] at hlk2
  have c1 := M2.out.c1
  have lW : w.heap.size + 1 < w2.heap.size := World.block_lt_of_cell? w2 _ z0
  have lb2 : b < w2.heap.size := World.block_lt_of_cell? w2 _ c1
  go_wp2_with fail
  go_region
  all_goals go_wp2
  all_goals go_ret
  all_goals exact ⟨rfl, by have hb := B2.out; have hs := B2.out.size; go_grown⟩
set_option maxHeartbeats 4000000 in
theorem mlSend_ok {S : Nat → Prop} {w : World} {b : Nat} {l : List Lt} {q : Nat → Nat → Bool} (hml : MlAt S w b l q) {f d : Nat} {k v a : Int} {g : Bool} {t : ByteArray} (h : endsE f d = 0) (hf : f < 6) (hd : d < 6) (hb : bad k v a g t = 0) (hl : ¬ 40 ≤ l.length) (hq : q f d = false) :
    Calls Try.prog 11 #[.pointer (some ⟨b, 0, none⟩), .agg #[.int .i64 f, .int .i64 d, .int .i64 k, .int .i64 v, .int .i64 a, .bool g, .string t]] w fun e w' => e = .returned .nilIface ∧ MlTo S w w' b (l ++ [⟨f, d, ⟨k, v, a, g, t⟩⟩]) q := by
  have H : Hid (endsE f d = 0) := h
  have HB : Hid (bad k v a g t = 0) := hb
  obtain ⟨bm, vv, hml⟩ := hml
  obtain ⟨p, cap, rfl⟩ := hml.own.slice
  obtain ⟨i0, hi0, hz0, hz1, hz2⟩ := info_parts infoLt
  have hl40 : l.length < 40 := by omega
  have HM : Hid (Ml S w b bm (.slice p l.length cap) l q) := hml
  have lb : b < w.heap.size := hml.lt b hml.s0
  have HF : Hid (decide (40 ≤ l.length) = false) := by show _ = false; simpa using hl
  have HQ : Hid (q f d = false) := hq
  clear h hb hml hl hq
  go_enter Try.func11, Try.ntmps11
  go_wp2_with fail
  refine (checkWay_ok H.out _).mono ?_
  rintro e w1 ⟨rfl, hb⟩
  have B1 : Hid (Below w.heap.size w w1) := Below.trans (by go_grown) (hb.mono (by simp; omega))
  obtain ⟨x0, x1, x2, x3, x4, x5, x6, xf⟩ := ((boxL_new w f d k v a g t w.heap.size rfl).alloc _).below hb (by simp; omega)
  have y0 : w1.cell? ⟨w.heap.size + 1, 0, none⟩ = some (.int .i64 f) := (Turn.of_below (S := fun _ => False) hb).cell (by rw [show w.heap.size + 1 = (w.alloc (.cells #[.int .i64 (f : Int), .int .i64 (d : Int), .int .i64 k, .int .i64 v, .int .i64 a, .bool g, .string t] 42)).heap.size by simp]; simp) id
  have y1 : w1.cell? ⟨w.heap.size + 1, 1, none⟩ = some (.int .i64 d) := (Turn.of_below (S := fun _ => False) hb).cell (by rw [show w.heap.size + 1 = (w.alloc (.cells #[.int .i64 (f : Int), .int .i64 (d : Int), .int .i64 k, .int .i64 v, .int .i64 a, .bool g, .string t] 42)).heap.size by simp]; simp) id
  have hb1 : Hid _ := hb
  clear hb
  go_wp2_with fail
  refine (check_ok HB.out _).mono ?_
  rintro e w2 ⟨rfl, hb⟩
  have B2 : Hid (Below w.heap.size w w2) := B1.out.trans (hb.mono B1.out.size)
  have z0 := (Turn.of_below (S := fun _ => False) hb).cell y0 id
  have z1 := (Turn.of_below (S := fun _ => False) hb).cell y1 id
  have X2 : Hid (BoxL w2 w.heap.size f d k v a g t) := ((((boxL_new w f d k v a g t w.heap.size rfl).alloc _).below hb1.out (by simp; omega)).grown hb)
  clear hb x0 x1 x2 x3 x4 x5 x6 xf y0 y1
  have M2 : Hid (Ml S w2 b bm (.slice p l.length cap) l q) := HM.out.blocks B2.out.size (fun c hc => B2.out.block c (HM.out.lt c hc))
  go_wp2_with fail
  refine (mlFull_b M2.out.c0 HF.out).mono ?_
  rintro e w3 ⟨rfl, rfl⟩
  have hlk := (M2.out.cut.of_block (w' := w2.drew) rfl).look f d hf hd
  rw [HQ.out] at hlk
  have hlk2 := (M2.out.cut.of_block (w' := (w2.alloc (.cells #[] 84)).drew) (Below.heap_alloc _ _ _ M2.out.cut.lt)).look f d hf hd
  rw [HQ.out] at hlk2
  have c1 := M2.out.c1
  have lW : w.heap.size + 1 < w2.heap.size := World.block_lt_of_cell? w2 _ z0
  have lb2 : b < w2.heap.size := World.block_lt_of_cell? w2 _ c1
  go_upto_region 10 with fail
  go_cut [9] (fun c9 wc => c9 = .bool false ∧ Hid (Ml S wc b bm (.slice p l.length cap) l q) ∧ Hid (BoxL wc w.heap.size f d k v a g t) ∧ Hid (Below w.heap.size w wc))
  case first =>
    go_region
    all_goals go_wp2_with fail
    all_goals go_meet
    all_goals exact ⟨rfl, M2.out.blocks (by simp) (fun c hc => Below.heap_alloc _ _ _ (M2.out.lt c hc)), X2.out.of_block (Below.heap_alloc _ _ _ X2.out.lt), B2.out.trans ⟨rfl, rfl, rfl, by simp, fun c hc => Below.heap_alloc _ _ _ (Nat.lt_of_lt_of_le hc B2.out.size)⟩⟩
  case rest =>
    obtain ⟨rfl, M3, X3, B3⟩ := hcut
    obtain ⟨W, hren⟩ : ∃ x, x = wc := ⟨_, rfl⟩
    subst hren
    clear M2 X2 B2 hlk hlk2 c1 lW lb2 z0 z1 hb1 B1
    have c0 := M3.out.c0
    have fz := M3.out.fz 0
    have lb3 : b < W.heap.size := World.block_lt_of_cell? W _ c0
    have lx3 := X3.out.lt
    obtain ⟨x0, x1, x2, x3, x4, x5, x6, xf⟩ := X3.out
    obtain ⟨n, HN⟩ : ∃ n, Hid (l.length = n) := ⟨_, rfl⟩
    have OW : Hid (W.ownsRow 0 42 7 (.slice p n cap) n (rowL l)) := by have := M3.out.own; unfold OwnL at this; rw [HN.out] at this; exact this
    rw [HN.out] at c0 hl40
    have hne : (Value.slice p n cap).ownBlock ≠ some b := by have := M3.out.n0; rw [HN.out] at this; exact this
    clear HF xf
    go_upto_region 12 with fail
    go_region_law
      ((refine step_append_lies _ (by rfl) _ _ _ (by rfl) 0 42 i0 _ 7 64 Try.underlying72 hi0 hz0 hz1 hz2 rfl (by omega) (.slice p n cap) n (rowL l) (by rfl) ((OW.out.alloc _).drew)
          ⟨W.heap.size, 0, none⟩ 1 1 [.int .i64 (f : Int), .int .i64 (d : Int), .int .i64 k, .int .i64 v, .int .i64 a, .bool g, .string t] (by rfl) (by rfl) (World.news_of_block (cs := #[.int .i64 (f : Int), .int .i64 (d : Int), .int .i64 k, .int .i64 v, .int .i64 a, .bool g, .string t]) (t := 42) (fr := (0, 0)) (heap_alloc_new W _)) (by simp [Value.oneCell'])
          (by omega) (by unfold maxLen; omega) (by omega) (by simp) (W.heap.size + 1) (by simp) ?_; intro G cap' w4 hown1 hgrow hat hlt; have fz4 : w4.frozen? ⟨b, 0, none⟩ = false := (hgrow.frozen_far _ (by simp; omega) (Ne.symm hne)).trans ((World.frozen?_alloc_old _ _ ⟨b, 0, none⟩ (Nat.ne_of_lt lb3)).trans fz); have cz : w4.cell? ⟨b, 0, none⟩ = some (.slice p n cap) := (hgrow.cell_far _ (by simp; omega) (Ne.symm hne)).trans ((World.cell?_alloc_lt _ _ ⟨b, 0, none⟩ lb3).trans c0)))
    all_goals go_wp2
    all_goals go_ret
    all_goals exact ⟨rfl, MlTo.after B3.out (M3.out.sent (x := ⟨f, d, ⟨k, v, a, g, t⟩⟩) HN.out (by rw [HN.out]; exact hgrow) hown1 (by rw [HN.out]; simpa using hat) hlt)⟩
/-- Send, whatever comes in -/
theorem mlSend_c {S : Nat → Prop} {w : World} {b : Nat} {l : List Lt} {q : Nat → Nat → Bool} (h : MlAt S w b l q) (f d k v a : Int) (g : Bool) (t : ByteArray) :
    Calls Try.prog 11 #[.pointer (some ⟨b, 0, none⟩), .agg #[.int .i64 f, .int .i64 d, .int .i64 k, .int .i64 v, .int .i64 a, .bool g, .string t]] w fun e w' => e = .returned (eV (sendE l.length ⟨f, d, ⟨k, v, a, g, t⟩⟩)) ∧ MlTo S w w' b (sendL l q ⟨f, d, ⟨k, v, a, g, t⟩⟩) q := by
  by_cases h0 : endsE f d = 0
  · by_cases h1 : bad k v a g t = 0
    · by_cases h2 : 40 ≤ l.length
      · refine (mlSend_full h h0 h1 h2).mono ?_
        rintro e w' ⟨rfl, hb⟩
        have he : sendE l.length ⟨f, d, ⟨k, v, a, g, t⟩⟩ = 4 := sendE_full h0 h1 h2
        rw [sendL, he, if_neg (by omega), eV, if_neg (by omega)]
        exact ⟨rfl, h.to hb⟩
      · have he : sendE l.length ⟨f, d, ⟨k, v, a, g, t⟩⟩ = 0 := sendE_ok h0 h1 h2
        obtain ⟨x, y, rfl, rfl, hx, hy, _⟩ := endsE_ok h0
        rw [sendL, he, eV, if_pos rfl]
        cases hq : q x y
        · rw [if_pos ⟨rfl, by simpa using hq⟩]
          exact mlSend_ok h h0 hx hy h1 h2 hq
        · rw [if_neg (by simp [hq])]
          refine (mlSend_lost h h0 hx hy h1 h2 hq).mono ?_
          rintro e w' ⟨rfl, hb⟩
          exact ⟨rfl, h.to hb⟩
    · refine (mlSend_bad h0 rfl h1 b w).mono ?_
      rintro e w' ⟨rfl, hb⟩
      have he : sendE l.length ⟨f, d, ⟨k, v, a, g, t⟩⟩ = bad k v a g t := sendE_bad h0 rfl h1
      rw [sendL, he, if_neg (fun e => h1 e.1), eV, if_neg h1]
      exact ⟨rfl, h.to hb⟩
  · refine (mlSend_ends rfl h0 b w).mono ?_
    rintro e w' ⟨rfl, hb⟩
    have he : sendE l.length ⟨f, d, ⟨k, v, a, g, t⟩⟩ = endsE f d := sendE_ends rfl h0
    rw [sendL, he, if_neg (fun e => h0 e.1), eV, if_neg h0]
    exact ⟨rfl, h.to hb⟩
end Go.Proofs.Ytbincnajklmnaaa
