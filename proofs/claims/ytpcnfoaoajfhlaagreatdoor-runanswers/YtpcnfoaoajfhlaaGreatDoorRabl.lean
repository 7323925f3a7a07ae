/-
  The document's mesh by its contracts: Get.
  The document's number of an entry and of two numbers, by their contracts.
-/
import Derived.Test.YtpcnfoaoajfhlaaGreatDoorRabk
import Derived.Test.YtpcnfoaoajfhlaaGreatDoorRaal
import Derived.Test.YtpcnfoaoajfhlaaGreatDoorRaau
import Derived.Test.YtpcnfoaoajfhlaaGreatDoorRaam
namespace Go.Proofs.YtpcnfoaoajfhlaaGreatDoor
set_option linter.unusedVariables false
set_option linter.unusedSimpArgs false
set_option linter.unusedVariables false
set_option linter.unusedSimpArgs false
open Go.RowKit

theorem rget_end {S : Nat → Prop} {w w1 w2 w3 : World} {m P : Nat} {l : List Deed} {cs : List (List En)} (hS : ∀ x, S x → x < w.heap.size) (hw : w.heap.size ≤ P) (hP : P < w1.heap.size) (hb : Below w.heap.size w w1) (h : RkTo S w1 w2 m l cs) (hb2 : Below w2.heap.size w2 w3) (x0 x1 x2 x3 x4 : Value) :
    RkTo S w (((((w3.setCell ⟨P, 0, none⟩ x0).setCell ⟨P, 1, none⟩ x1).setCell ⟨P, 2, none⟩ x2).setCell ⟨P, 3, none⟩ x3).setCell ⟨P, 4, none⟩ x4) m l cs := by
  obtain ⟨hk, S', h1, h2⟩ := h.below hb2
  have hs := hb.size
  have hk' : Kept S w w3 := (Kept.of_below (F := S) hb).trans hk (fun _ _ h => h)
  refine ⟨((((hk'.setC P 0 (.inr hw) x0).setC P 1 (.inr hw) x1).setC P 2 (.inr hw) x2).setC P 3 (.inr hw) x3).setC P 4 (.inr hw) x4, S', h1.blocks (by simp only [World.size_setCell]; exact Nat.le_refl _) (fun y hy => heap_setE _ P y (fun e => ?_) _ _ _ _ _), fun x hx => ?_⟩
  · subst e
    rcases h2 y hy with h' | h'
    · have := hS y h'
      omega
    · omega
  · rcases h2 x hx with h' | h'
    · exact .inl h'
    · exact .inr (by omega)
theorem nodeB_no {n : Nat} {node : Int} (h : nodeB n node = false) : node < 0 ∨ (n : Int) ≤ node := by
  unfold nodeB at h
  simp only [Bool.and_eq_false_iff, decide_eq_false_iff_not] at h
  omega
set_option maxHeartbeats 4000000 in
theorem rGet_bad {S : Nat → Prop} {w : World} {m : Nat} {l : List Deed} {cs : List (List En)} (h : RkAt S w m l cs) (node key floor : Int) (hb : nodeB cs.length node = false ∨ stK key = false ∨ floor < 0 ∨ (l.length : Int) < floor) :
    Calls Tryz.prog 12 #[.pointer (some ⟨m, 0, none⟩), .int .i64 node, .int .i64 key, .int .i64 floor] w fun e w' => e = .returned (.tuple #[.agg #[.int .i64 0, .int .i64 0, .int .i64 0, .bool false, .string ⟨#[]⟩], .bool false, .int .i64 1]) ∧ Below w.heap.size w w' := by
  obtain ⟨b, c, c0, c1, ⟨aa, cap, cb, hl1000⟩, _⟩ := h.slots
  have hml := World.block_lt_of_cell? w _ c0
  have hbl := World.block_lt_of_cell? w _ cb
  obtain ⟨kb, HK⟩ : ∃ kb, Hid (stK key = kb) := ⟨_, rfl⟩
  obtain ⟨nc, HNc⟩ : ∃ nc, Hid (cs.length = nc) := ⟨_, rfl⟩
  have hlen6 : nc ≤ 6 := by have := h.len; have := HNc.out; omega
  rw [HNc.out] at c1
  obtain ⟨ln, HLn⟩ : ∃ ln, Hid (l.length = ln) := ⟨_, rfl⟩
  rw [HLn.out] at cb hl1000
  rw [HNc.out, HLn.out, HK.out] at hb
  clear h HNc HLn
  by_cases hn0 : node < 0
  · have hd0 : decide (node < 0) = true := by simpa using hn0
    clear hb hn0
    go_enter Tryz.func12, Tryz.ntmps12
    go_wp2_with (go_at_call 47; refine (refKey_b _ kb _ HK.out).mono ?_; rintro e w' ⟨rfl, hw⟩; rw [← hw]; clear hw w')
    refine bodyPost_ret (v := .tuple #[.agg #[.int .i64 0, .int .i64 0, .int .i64 0, .bool false, .string ⟨#[]⟩], .bool false, .int .i64 1]) (by simp [results, Tryz.results12, go_sem]) rfl ?_
    exact ⟨rfl, by go_grown⟩
  have hd0 : decide (node < 0) = false := by simpa using hn0
  by_cases hn1 : (nc : Int) ≤ node
  · have hd1 : decide ((nc : Int) ≤ node) = true := by simpa using hn1
    clear hb hn0 hn1
    go_enter Tryz.func12, Tryz.ntmps12
    go_wp2_with (go_at_call 47; refine (refKey_b _ kb _ HK.out).mono ?_; rintro e w' ⟨rfl, hw⟩; rw [← hw]; clear hw w')
    refine bodyPost_ret (v := .tuple #[.agg #[.int .i64 0, .int .i64 0, .int .i64 0, .bool false, .string ⟨#[]⟩], .bool false, .int .i64 1]) (by simp [results, Tryz.results12, go_sem]) rfl ?_
    exact ⟨rfl, by go_grown⟩
  have hd1 : decide ((nc : Int) ≤ node) = false := by simpa using hn1
  replace hb := hb.resolve_left (fun h => by rcases nodeB_no h with h' | h' <;> omega)
  clear hn0 hn1
  cases kb with
  | false =>
    clear hb
    go_enter Tryz.func12, Tryz.ntmps12
    go_wp2_with (go_at_call 47; refine (refKey_b _ false _ HK.out).mono ?_; rintro e w' ⟨rfl, hw⟩; rw [← hw]; clear hw w')
    refine bodyPost_ret (v := .tuple #[.agg #[.int .i64 0, .int .i64 0, .int .i64 0, .bool false, .string ⟨#[]⟩], .bool false, .int .i64 1]) (by simp [results, Tryz.results12, go_sem]) rfl ?_
    exact ⟨rfl, by go_grown⟩
  | true =>
    replace hb := hb.resolve_left (by simp)
    by_cases hf : floor < 0
    · have hd2 : decide (floor < 0) = true := by simpa using hf
      clear hb hf
      go_enter Tryz.func12, Tryz.ntmps12
      go_wp2_with (go_at_call 47; refine (refKey_b _ true _ HK.out).mono ?_; rintro e w' ⟨rfl, hw⟩; rw [← hw]; clear hw w')
      refine bodyPost_ret (v := .tuple #[.agg #[.int .i64 0, .int .i64 0, .int .i64 0, .bool false, .string ⟨#[]⟩], .bool false, .int .i64 1]) (by simp [results, Tryz.results12, go_sem]) rfl ?_
      exact ⟨rfl, by go_grown⟩
    · have hd2 : decide (floor < 0) = false := by simpa using hf
      have hd3 : decide ((ln : Int) < floor) = true := by simpa using hb.resolve_left hf
      clear hb hf
      go_enter Tryz.func12, Tryz.ntmps12
      go_wp2_with (go_at_call 47; refine (refKey_b _ true _ HK.out).mono ?_; rintro e w' ⟨rfl, hw⟩; rw [← hw]; clear hw w')
      refine bodyPost_ret (v := .tuple #[.agg #[.int .i64 0, .int .i64 0, .int .i64 0, .bool false, .string ⟨#[]⟩], .bool false, .int .i64 1]) (by simp [results, Tryz.results12, go_sem]) rfl ?_
      exact ⟨rfl, by go_grown⟩
/-- the road to R.Get: what all right calls share -/
structure GtAt (w : World) (m b c nc ln : Nat) (aa : Option Addr) (cap i : Nat) (v : Value) (y : List En) : Prop where
  c0 : w.cell? ⟨m, 0, none⟩ = some (.pointer (some ⟨b, 0, none⟩))
  c1 : w.cell? ⟨m, 1, none⟩ = some (.slice (some ⟨c, 0, none⟩) nc nc)
  cb : w.cell? ⟨b, 0, none⟩ = some (.slice aa ln cap)
  cv : w.cell? ⟨c, i, none⟩ = some v
  row : RowIs w v y
theorem Rc.gt {S F : Nat → Prop} {w : World} {m b c : Nat} {l : List Deed} {cs : List (List En)} (h : Rc S F w m b c l cs) {i : Nat} (hi : i < cs.length) : ∃ aa cap v, GtAt w m b c cs.length l.length aa cap i v cs[i] ∧ l.length ≤ 1000 := by
  obtain ⟨aa, cap, cb, hl⟩ := h.st.slice
  obtain ⟨v, h1, h2, _⟩ := h.rows i hi
  exact ⟨aa, cap, v, ⟨h.c0, h.c1, cb, h1, h2⟩, hl⟩
set_option maxHeartbeats 8000000 in
theorem rGet_own {S : Nat → Prop} {w : World} {m : Nat} {l : List Deed} {cs : List (List En)} (h : RkAt S w m l cs) (node key floor : Int) (hn : nodeB cs.length node = true) (hk : stK key = true) (h0 : 0 ≤ floor) (h1 : floor ≤ l.length) {x0 x1 x2 : Int} {x3 : Bool} {x4 : ByteArray} (hg : getE (cacheN cs node) key = some ⟨x0, x1, x2, x3, x4⟩) (hf : floor ≤ x2) :
    Calls Tryz.prog 12 #[.pointer (some ⟨m, 0, none⟩), .int .i64 node, .int .i64 key, .int .i64 floor] w fun e w' => e = .returned (.tuple #[.agg #[.int .i64 x0, .int .i64 x1, .int .i64 x2, .bool x3, .string x4], .bool true, .int .i64 0]) ∧ Below w.heap.size w w' := by
  have hc6 := h.len
  obtain ⟨F, b, c, h⟩ := h
  obtain ⟨i, rfl, hi⟩ := node_nat hn
  rw [cacheN_at hi] at hg
  obtain ⟨aa, cap, v, hgt, hl1000⟩ := h.gt hi
  obtain ⟨c0, c1, cb, cv, hr⟩ := hgt
  have hml := World.block_lt_of_cell? w _ c0
  have hbl := World.block_lt_of_cell? w _ cb
  have hcl := World.block_lt_of_cell? w _ cv
  have HGe : Hid (getE cs[i] key = some ⟨x0, x1, x2, x3, x4⟩) := hg
  have HR : Hid (RowIs (w.alloc (.cells #[.int .i64 0, .int .i64 0, .int .i64 0, .bool false, .string ⟨#[]⟩] 46)) v cs[i]) := hr.below ((Below.refl _ _).alloc (Nat.le_refl _) _)
  have HK : Hid (stK key = true) := hk
  have X0 : Hid (BoxAt (w.alloc (.cells #[.int .i64 0, .int .i64 0, .int .i64 0, .bool false, .string ⟨#[]⟩] 46)) w.heap.size 0 0 0 false ⟨#[]⟩) := box_new w 0 0 0 false ⟨#[]⟩ _ rfl
  have HB0 : Hid (Below w.heap.size w (w.alloc (.cells #[.int .i64 0, .int .i64 0, .int .i64 0, .bool false, .string ⟨#[]⟩] 46))) := (Below.refl _ _).alloc (Nat.le_refl _) _
  generalize cs[i] = y at HGe HR
  obtain ⟨nc, HNc⟩ : ∃ nc, Hid (cs.length = nc) := ⟨_, rfl⟩
  obtain ⟨ln, HLn⟩ : ∃ ln, Hid (l.length = ln) := ⟨_, rfl⟩
  rw [HNc.out] at c1 hi hc6
  rw [HLn.out] at cb hl1000 h1
  have hd0 : decide ((i : Int) < 0) = false := by simp
  have hd1 : decide ((nc : Int) ≤ (i : Int)) = false := by simp; omega
  have hi2 : (i : Int) < (nc : Int) := by omega
  have hd2 : decide (floor < 0) = false := by simp; omega
  have hd3 : decide ((ln : Int) < floor) = false := by simp; omega
  have hd4 : decide (floor ≤ x2) = true := by simpa using hf
  clear h hn hk h0 h1 hg hf hr hi HNc HLn
  go_enter Tryz.func12, Tryz.ntmps12
  go_wp2_with (go_at_call 47; refine (refKey_b _ true _ HK.out).mono ?_; rintro e w' ⟨rfl, hw⟩; rw [← hw]; clear hw w')
  refine (rGet_some HGe.out _ _ HR.out).mono ?_
  rintro e w1 ⟨rfl, hb⟩
  have B1 : Hid (Below w.heap.size w w1) := HB0.out.trans (hb.mono (by simp))
  have X1 : Hid (BoxAt w1 w.heap.size 0 0 0 false ⟨#[]⟩) := X0.out.below hb X0.out.lt
  have p1 : ¬ w.heap.size = w1.heap.size := by have := hb.size; simp at this; omega
  clear hb cv c0 c1 cb X0 HB0 HR HGe
  go_upto_region 5 with fail
  obtain ⟨w2, HW2⟩ : ∃ w2, w2 = w1.alloc (.cells #[.int .i64 x0, .int .i64 x1, .int .i64 x2, .bool x3, .string x4] 46) := ⟨_, rfl⟩
  rw [← HW2]
  have B2 : Hid (Below w.heap.size w w2) := by rw [HW2]; exact B1.out.alloc B1.out.size _
  have E2 : Hid (BoxAt w2 w.heap.size 0 0 0 false ⟨#[]⟩) := by rw [HW2]; exact X1.out.alloc _
  have F2 : Hid (BoxAt w2 w1.heap.size x0 x1 x2 x3 x4) := by rw [HW2]; exact box_new w1 x0 x1 x2 x3 x4 _ rfl
  clear HW2 B1 X1
  obtain ⟨e0, e1, e2, e3, e4, ef⟩ := E2.out
  obtain ⟨f0, f1, f2, f3, f4, ff⟩ := F2.out
  obtain ⟨z0, z1, z2, z3, z4, zf⟩ := (E2.out.set x0 x1 x2 x3 x4)
  go_wp2_with fail
  refine bodyPost_ret (v := .tuple #[.agg #[.int .i64 x0, .int .i64 x1, .int .i64 x2, .bool x3, .string x4], .bool true, .int .i64 0]) (by simp [results, Tryz.results12, go_sem, z0, z1, z2, z3, z4]) rfl ?_
  refine ⟨rfl, ?_⟩
  have hle := B2.out.size
  have hb := B2.out
  go_grown
set_option maxHeartbeats 8000000 in
theorem rGet_learn {S : Nat → Prop} {w : World} {m : Nat} {l : List Deed} {cs : List (List En)} (h : RkAt S w m l cs) (hG : GoodM l cs) (node key floor : Int) (hn : nodeB cs.length node = true) (hk : stK key = true) (h0 : 0 ≤ floor) (h1 : floor ≤ l.length) {x0 x1 x2 : Int} {x3 : Bool} {x4 : ByteArray} (hg : ∀ x, getE (cacheN cs node) key = some x → x.a < floor) (hx : wasE l key l.length = ⟨x0, x1, x2, x3, x4⟩) :
    Calls Tryz.prog 12 #[.pointer (some ⟨m, 0, none⟩), .int .i64 node, .int .i64 key, .int .i64 floor] w fun e w' => e = .returned (.tuple #[.agg #[.int .i64 x0, .int .i64 x1, .int .i64 x2, .bool x3, .string x4], .bool false, .int .i64 0]) ∧ RkTo S w w' m l (learnM l cs node key) := by
  have hc6 := h.len
  obtain ⟨F, b, c, h⟩ := h
  obtain ⟨i, rfl, hi⟩ := node_nat hn
  rw [cacheN_at hi] at hg
  obtain ⟨aa, cap, v, hgt, hl1000⟩ := h.gt hi
  obtain ⟨c0, c1, cb, cv, hr⟩ := hgt
  have hml := World.block_lt_of_cell? w _ c0
  have hbl := World.block_lt_of_cell? w _ cb
  have hcl := World.block_lt_of_cell? w _ cv
  obtain ⟨⟨y0, y1, y2, y3, y4⟩, had, hgc, hhad⟩ : ∃ (q : En) (had : Bool), (∀ w', RowIs w' v cs[i] → Calls Tryz.prog 48 #[v, .int .i64 key] w' fun e w2 => e = .returned (.tuple #[.agg #[.int .i64 q.k, .int .i64 q.v, .int .i64 q.a, .bool q.g, .string q.t], .bool had]) ∧ Below w'.heap.size w' w2) ∧ (had = true → q.a < floor) := by
    cases he : getE cs[i] key with
    | none => exact ⟨⟨0, 0, 0, false, ⟨#[]⟩⟩, false, fun w' hr' => rGet_none he v w' hr', fun h' => by cases h'⟩
    | some q => exact ⟨q, true, fun w' hr' => rGet_some he v w' hr', fun _ => hg q he⟩
  dsimp only at hgc hhad
  have HGc : Hid (∀ w', RowIs w' v cs[i] → Calls Tryz.prog 48 #[v, .int .i64 key] w' fun e w2 => e = .returned (.tuple #[.agg #[.int .i64 y0, .int .i64 y1, .int .i64 y2, .bool y3, .string y4], .bool had]) ∧ Below w'.heap.size w' w2) := hgc
  have HB0 : Hid (Below w.heap.size w (w.alloc (.cells #[.int .i64 0, .int .i64 0, .int .i64 0, .bool false, .string ⟨#[]⟩] 46))) := (Below.refl _ _).alloc (Nat.le_refl _) _
  have HMw : Hid (Rc S F w m b c l cs) := h
  have HG : Hid (GoodM l cs) := hG
  have HI : Hid (i < cs.length) := hi
  have HX : Hid (wasE l key l.length = ⟨x0, x1, x2, x3, x4⟩) := hx
  have HR : Hid (RowIs (w.alloc (.cells #[.int .i64 0, .int .i64 0, .int .i64 0, .bool false, .string ⟨#[]⟩] 46)) v cs[i]) := hr.below HB0.out
  have HK : Hid (stK key = true) := hk
  have X0 : Hid (BoxAt (w.alloc (.cells #[.int .i64 0, .int .i64 0, .int .i64 0, .bool false, .string ⟨#[]⟩] 46)) w.heap.size 0 0 0 false ⟨#[]⟩) := box_new w 0 0 0 false ⟨#[]⟩ _ rfl
  generalize cs[i] = y at HGc HR
  obtain ⟨nc, HNc⟩ : ∃ nc, Hid (cs.length = nc) := ⟨_, rfl⟩
  obtain ⟨ln, HLn⟩ : ∃ ln, Hid (l.length = ln) := ⟨_, rfl⟩
  rw [HNc.out] at c1 hi hc6
  rw [HLn.out] at cb hl1000 h1
  have hd0 : decide ((i : Int) < 0) = false := by simp
  have hd1 : decide ((nc : Int) ≤ (i : Int)) = false := by simp; omega
  have hi2 : (i : Int) < (nc : Int) := by omega
  have hd2 : decide (floor < 0) = false := by simp; omega
  have hd3 : decide ((ln : Int) < floor) = false := by simp; omega
  obtain ⟨fb, hfb⟩ : ∃ fb, decide (floor ≤ y2) = fb := ⟨_, rfl⟩
  have hno : (had && fb) = false := by
    cases had with
    | false => rfl
    | true =>
      have := hhad rfl
      rw [← hfb]
      simp
      omega
  clear h hn hk h0 h1 hg hr hG hi hx hgc hhad
  go_enter Tryz.func12, Tryz.ntmps12
  go_wp2_with (go_at_call 47; refine (refKey_b _ true _ HK.out).mono ?_; rintro e w' ⟨rfl, hw⟩; rw [← hw]; clear hw w')
  refine (HGc.out _ HR.out).mono ?_
  rintro e w1 ⟨rfl, hb⟩
  have B1 : Hid (Below w.heap.size w (w1.alloc (.cells #[.int .i64 y0, .int .i64 y1, .int .i64 y2, .bool y3, .string y4] 46))) := (HB0.out.trans (hb.mono (by simp))).alloc (by have := hb.size; simp at this; omega) _
  have X1 : Hid (BoxAt (w1.alloc (.cells #[.int .i64 y0, .int .i64 y1, .int .i64 y2, .bool y3, .string y4] 46)) w.heap.size 0 0 0 false ⟨#[]⟩) := (X0.out.below hb X0.out.lt).alloc _
  have Y1 : Hid (BoxAt (w1.alloc (.cells #[.int .i64 y0, .int .i64 y1, .int .i64 y2, .bool y3, .string y4] 46)) w1.heap.size y0 y1 y2 y3 y4) := box_new w1 y0 y1 y2 y3 y4 _ rfl
  clear hb cv c0 c1 cb X0 HB0 HR HGc
  go_upto_region 5 with fail
  obtain ⟨w2, HW2⟩ : ∃ w2, w2 = w1.alloc (.cells #[.int .i64 y0, .int .i64 y1, .int .i64 y2, .bool y3, .string y4] 46) := ⟨_, rfl⟩
  obtain ⟨P, HP⟩ : ∃ z, Hid (z = w.heap.size) := ⟨_, rfl⟩
  obtain ⟨Y, HY⟩ : ∃ z, z = w1.heap.size := ⟨_, rfl⟩
  rw [← HW2] at B1 X1 Y1
  rw [← HP.out] at X1
  rw [← HY] at Y1
  rw [← HW2, ← HP.out, ← HY]
  clear HW2 HY
  have M2 : Hid (Rc S F w2 m b c l cs) := HMw.out.blocks B1.out.size (fun z hz => B1.out.block z (HMw.out.lt z hz))
  go_cut [66] (fun t wd => wd = w2 ∧ t = .bool false)
  case first =>
    obtain ⟨f0, f1, f2, f3, f4, ff⟩ := Y1.out
    cases had with
    | false =>
      go_wp2_with fail
      go_meet
      case rel => exact ⟨rfl, rfl⟩
    | true =>
      have hfb2 : decide (floor ≤ y2) = false := by rw [hfb]; simpa using hno
      go_wp2_with fail
      go_meet
      case rel => exact ⟨rfl, rfl⟩
  case rest =>
  obtain ⟨hwd, rfl⟩ := hcut
  rw [hwd]
  clear hwd wc hfb hno Y1
  go_wp2_with fail
  refine (rLearn_c M2.out HG.out i HI.out HK.out HX.out).mono ?_
  rintro e w3 ⟨rfl, hto⟩
  have T3 : Hid (RkTo S w2 w3 m l (learnM l cs i key)) := hto
  have hPlt := X1.out.lt
  have X3 : Hid (BoxAt w3 P 0 0 0 false ⟨#[]⟩) := X1.out.of_block (hto.1.block P hPlt (fun hs => by have h1 := HMw.out.lt P hs; have h2 := HP.out; omega))
  clear hto
  have hEnd : Hid (RkTo S w (((((w3.setCell ⟨P, 0, none⟩ (.int .i64 x0)).setCell ⟨P, 1, none⟩ (.int .i64 x1)).setCell ⟨P, 2, none⟩ (.int .i64 x2)).setCell ⟨P, 3, none⟩ (.bool x3)).setCell ⟨P, 4, none⟩ (.string x4)) m l (learnM l cs i key)) :=
    rget_end HMw.out.lt (by have := HP.out; omega) hPlt B1.out T3.out (Below.refl _ _) _ _ _ _ _
  clear B1 X1 M2 T3
  obtain ⟨z0, z1, z2, z3, z4, zf⟩ := (X3.out.set x0 x1 x2 x3 x4)
  obtain ⟨e0, e1, e2, e3, e4, ef⟩ := X3.out
  go_wp2_with fail
  refine bodyPost_ret (v := .tuple #[.agg #[.int .i64 x0, .int .i64 x1, .int .i64 x2, .bool x3, .string x4], .bool false, .int .i64 0]) (by simp [results, Tryz.results12, go_sem, z0, z1, z2, z3, z4]) rfl ?_
  exact ⟨rfl, hEnd.out⟩
/-- Get, with letters -/
theorem rMGet_o {S : Nat → Prop} {w : World} {m : Nat} {l : List Deed} {cs cs' : List (List En)} (h : RkAt S w m l cs) (hG : GoodM l cs) {node key floor x0 x1 x2 n : Int} {x3 had : Bool} {x4 : ByteArray} (hx : mGet l cs node key floor = (cs', ⟨x0, x1, x2, x3, x4⟩, had, n)) :
    Calls Tryz.prog 12 #[.pointer (some ⟨m, 0, none⟩), .int .i64 node, .int .i64 key, .int .i64 floor] w fun e w' => e = .returned (.tuple #[.agg #[.int .i64 x0, .int .i64 x1, .int .i64 x2, .bool x3, .string x4], .bool had, .int .i64 n]) ∧ RkTo S w w' m l cs' := by
  by_cases hb : nodeB cs.length node = false ∨ stK key = false ∨ floor < 0 ∨ (l.length : Int) < floor
  · rw [mGet, if_pos hb] at hx
    injection hx with e1 hx
    injection hx with e2 hx
    injection hx with e3 e4
    injection e2 with a0 a1 a2 a3 a4
    subst e1 e3 e4 a0 a1 a2 a3 a4
    refine (rGet_bad h node key floor hb).mono ?_
    rintro e w' ⟨rfl, hw⟩
    exact ⟨rfl, h.to hw⟩
  · rw [mGet, if_neg hb] at hx
    have hn : nodeB cs.length node = true := by
      cases hq : nodeB cs.length node
      · exact absurd (.inl hq) hb
      · rfl
    have hk : stK key = true := by
      cases hq : stK key
      · exact absurd (.inr (.inl hq)) hb
      · rfl
    have h0 : 0 ≤ floor := by
      rcases Int.lt_or_le floor 0 with h' | h'
      · exact absurd (.inr (.inr (.inl h'))) hb
      · exact h'
    have h1 : floor ≤ l.length := by
      rcases Int.lt_or_le l.length floor with h' | h'
      · exact absurd (.inr (.inr (.inr h'))) hb
      · exact h'
    have other : (∀ x, getE (cacheN cs node) key = some x → x.a < floor) → ((learnM l cs node key, wasE l key l.length, false, (0 : Int)) = (cs', (⟨x0, x1, x2, x3, x4⟩ : En), had, n)) → Calls Tryz.prog 12 #[.pointer (some ⟨m, 0, none⟩), .int .i64 node, .int .i64 key, .int .i64 floor] w fun e w' => e = .returned (.tuple #[.agg #[.int .i64 x0, .int .i64 x1, .int .i64 x2, .bool x3, .string x4], .bool had, .int .i64 n]) ∧ RkTo S w w' m l cs' := by
      intro hg he
      injection he with e1 he
      injection he with e2 he
      injection he with e3 e4
      subst e1 e3 e4
      exact rGet_learn h hG node key floor hn hk h0 h1 hg e2
    cases hg : getE (cacheN cs node) key with
    | none =>
      rw [hg] at hx
      exact other (fun x hx' => by rw [hg] at hx'; cases hx') hx
    | some x =>
      rw [hg] at hx
      dsimp only at hx
      by_cases hf : floor ≤ x.a
      · rw [if_pos hf] at hx
        injection hx with e1 hx
        injection hx with e2 hx
        injection hx with e3 e4
        subst e1 e2 e3 e4
        refine (rGet_own h node key floor hn hk h0 h1 hg hf).mono ?_
        rintro e w' ⟨rfl, hw⟩
        exact ⟨rfl, h.to hw⟩
      · rw [if_neg hf] at hx
        exact other (fun y hy => by rw [hg] at hy; obtain rfl := Option.some.inj hy; omega) hx
end Go.Proofs.YtpcnfoaoajfhlaaGreatDoor

namespace Go.Proofs.YtpcnfoaoajfhlaaGreatDoor
set_option linter.unusedVariables false
set_option linter.unusedSimpArgs false
open Go.RowKit

set_option maxHeartbeats 4000000 in
theorem rPair_c (a b : Nat) (ha : a ≤ 9223372036854775807) (hb : b ≤ 9223372036854775807) (w : World) :
    Calls Tryz.prog 133 #[.int .i64 (a : Nat), .int .i64 (b : Nat)] w fun e w' => e = .returned (.int .i64 (hashL (byN (str2 a b)) : Nat)) ∧ Below w.heap.size w w' := by
  have hsa := digS_size a ha
  have hsb := digS_size b hb
  have HE : str2 a b = digS a ++ ⟨#[47]⟩ ++ digS b := rfl
  have hz1 : (⟨#[47]⟩ : ByteArray).size = 1 := rfl
  have HS3 : Hid ((digS a ++ ⟨#[47]⟩ ++ digS b).size ≤ 9223372036854775807) := by
    show _ ≤ _
    rw [ByteArray.size_append, ByteArray.size_append, hz1]
    omega
  clear hz1
  rw [HE]
  clear HE
  have HA : Hid (a ≤ 9223372036854775807) := ha
  have HB : Hid (b ≤ 9223372036854775807) := hb
  obtain ⟨x, HX⟩ : ∃ x, Hid (digS a = x) := ⟨_, rfl⟩
  obtain ⟨y, HY⟩ : ∃ y, Hid (digS b = y) := ⟨_, rfl⟩
  have HDa : Hid (∀ w, Calls Tryz.prog 87 #[.int .i64 (a : Nat)] w fun e w' => e = .returned (.string x) ∧ w' = w) := by
    rw [← HX.out]
    exact digits_c a ha
  have HDb : Hid (∀ w, Calls Tryz.prog 87 #[.int .i64 (b : Nat)] w fun e w' => e = .returned (.string y) ∧ w' = w) := by
    rw [← HY.out]
    exact digits_c b hb
  rw [HX.out] at hsa
  rw [HY.out] at hsb
  rw [HX.out, HY.out] at HS3 ⊢
  have hs1 : ¬ 9223372036854775807 < x.size + 1 := by omega
  have hs2 : ¬ 9223372036854775807 < x.size + 1 + y.size := by omega
  go_enter Tryz.func133, Tryz.ntmps133
  go_wp2_with fail
  refine (HDa.out _).mono ?_
  rintro e w1 ⟨rfl, rfl⟩
  go_wp2_with fail
  refine (HDb.out _).mono ?_
  rintro e w1 ⟨rfl, rfl⟩
  go_wp2_with fail
  refine (rHash_c _ _ HS3.out).mono ?_
  rintro e w2 ⟨rfl, hb2⟩
  have HB2 := hb2
  go_wp2_with fail
  go_ret
  exact ⟨rfl, HB2⟩

set_option maxHeartbeats 4000000 in
theorem rOne_c (k v : Nat) (a : Int) (g : Bool) (t : ByteArray) (hk : k ≤ 1000) (hv : v ≤ 1000) (ht : t.size ≤ 12) (w : World) :
    Calls Tryz.prog 180 #[.agg #[.int .i64 (k : Nat), .int .i64 (v : Nat), .int .i64 a, .bool g, .string t]] w fun e w' => e = .returned (.int .i64 (hashL (byN (strE k v g t)) : Nat)) ∧ Below w.heap.size w w' := by
  have hsk := digS_size k (by omega)
  have hsv := digS_size v (by omega)
  obtain ⟨x, HX⟩ : ∃ x, Hid (digS k = x) := ⟨_, rfl⟩
  obtain ⟨y, HY⟩ : ∃ y, Hid (digS v = y) := ⟨_, rfl⟩
  have HDk : Hid (∀ w, Calls Tryz.prog 87 #[.int .i64 (k : Nat)] w fun e w' => e = .returned (.string x) ∧ w' = w) := by
    rw [← HX.out]
    exact digits_c k (by omega)
  have HDv : Hid (∀ w, Calls Tryz.prog 87 #[.int .i64 (v : Nat)] w fun e w' => e = .returned (.string y) ∧ w' = w) := by
    rw [← HY.out]
    exact digits_c v (by omega)
  rw [HX.out] at hsk
  rw [HY.out] at hsv
  have hs1 : ¬ 9223372036854775807 < x.size + 1 := by omega
  have hs2 : ¬ 9223372036854775807 < x.size + 1 + y.size := by omega
  have hs3 : ¬ 9223372036854775807 < x.size + 1 + y.size + 1 := by omega
  have hs4 : ¬ 9223372036854775807 < x.size + 1 + y.size + 1 + 1 := by omega
  have hs5 : ¬ 9223372036854775807 < x.size + 1 + y.size + 1 + 1 + 1 := by omega
  have hs6 : ¬ 9223372036854775807 < x.size + 1 + y.size + 1 + 1 + 1 + t.size := by omega
  cases g with
  | false =>
    have hsz := str3_size k v 0 (by omega) (by omega) (by omega)
    have HE0 : strE k v false t = digS k ++ ⟨#[47]⟩ ++ digS v ++ ⟨#[47]⟩ ++ ⟨#[48]⟩ ++ ⟨#[47]⟩ ++ t := by
      rw [show strE k v false t = digS k ++ ⟨#[47]⟩ ++ digS v ++ ⟨#[47]⟩ ++ digS 0 ++ ⟨#[47]⟩ ++ t from rfl, digS_one (u := 0) (by omega)]
      rfl
    have HS3 : Hid ((digS k ++ ⟨#[47]⟩ ++ digS v ++ ⟨#[47]⟩ ++ ⟨#[48]⟩ ++ ⟨#[47]⟩ ++ t).size ≤ 9223372036854775807) := by
      show _ ≤ _
      rw [← HE0, show strE k v false t = str3 k v 0 ++ ⟨#[47]⟩ ++ t from rfl, ByteArray.size_append, ByteArray.size_append, show (⟨#[47]⟩ : ByteArray).size = 1 from rfl]
      omega
    rw [HE0]
    clear HE0
    rw [HX.out, HY.out] at HS3 ⊢
    go_enter Tryz.func180, Tryz.ntmps180
    go_upto_region 1 with fail
    obtain ⟨a0, a1, a2, a3, a4, af⟩ := box_new w k v a false t w.heap.size rfl
    go_wp2_with fail
    refine (HDk.out _).mono ?_
    rintro e w1 ⟨rfl, rfl⟩
    go_wp2_with fail
    refine (HDv.out _).mono ?_
    rintro e w1 ⟨rfl, rfl⟩
    go_wp2_with fail
    refine (rHash_c _ _ HS3.out).mono ?_
    rintro e w2 ⟨rfl, hb2⟩
    have HB2 : Hid (Below w.heap.size w w2) := Below.trans (by go_grown) (hb2.mono (by simp))
    clear hb2
    go_wp2_with fail
    go_ret
    exact ⟨rfl, HB2.out⟩
  | true =>
    have hsz := str3_size k v 1 (by omega) (by omega) (by omega)
    have HE0 : strE k v true t = digS k ++ ⟨#[47]⟩ ++ digS v ++ ⟨#[47]⟩ ++ ⟨#[49]⟩ ++ ⟨#[47]⟩ ++ t := by
      rw [show strE k v true t = digS k ++ ⟨#[47]⟩ ++ digS v ++ ⟨#[47]⟩ ++ digS 1 ++ ⟨#[47]⟩ ++ t from rfl, digS_one (u := 1) (by omega)]
      rfl
    have HS3 : Hid ((digS k ++ ⟨#[47]⟩ ++ digS v ++ ⟨#[47]⟩ ++ ⟨#[49]⟩ ++ ⟨#[47]⟩ ++ t).size ≤ 9223372036854775807) := by
      show _ ≤ _
      rw [← HE0, show strE k v true t = str3 k v 1 ++ ⟨#[47]⟩ ++ t from rfl, ByteArray.size_append, ByteArray.size_append, show (⟨#[47]⟩ : ByteArray).size = 1 from rfl]
      omega
    rw [HE0]
    clear HE0
    rw [HX.out, HY.out] at HS3 ⊢
    go_enter Tryz.func180, Tryz.ntmps180
    go_upto_region 1 with fail
    obtain ⟨a0, a1, a2, a3, a4, af⟩ := box_new w k v a true t w.heap.size rfl
    go_wp2_with fail
    refine (HDk.out _).mono ?_
    rintro e w1 ⟨rfl, rfl⟩
    go_wp2_with fail
    refine (HDv.out _).mono ?_
    rintro e w1 ⟨rfl, rfl⟩
    go_wp2_with fail
    refine (rHash_c _ _ HS3.out).mono ?_
    rintro e w2 ⟨rfl, hb2⟩
    have HB2 : Hid (Below w.heap.size w w2) := Below.trans (by go_grown) (hb2.mono (by simp))
    clear hb2
    go_wp2_with fail
    go_ret
    exact ⟨rfl, HB2.out⟩
end Go.Proofs.YtpcnfoaoajfhlaaGreatDoor
