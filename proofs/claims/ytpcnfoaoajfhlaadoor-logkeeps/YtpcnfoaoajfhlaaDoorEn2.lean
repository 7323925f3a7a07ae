/-
  Package entry by its contracts: what two entries know.
-/
import Derived.Test.YtpcnfoaoajfhlaaDoorEn
namespace Go.Proofs.YtpcnfoaoajfhlaaDoor
set_option linter.unusedVariables false
set_option linter.unusedSimpArgs false
open Go.RowKit
def newerB (va aa vb ab : Int) : Bool := if va = vb then decide (ab < aa) else decide (vb < va)
def clashB (v1 a1 : Int) (g1 : Bool) (t1 : ByteArray) (v2 : Int) (g2 : Bool) (t2 : ByteArray) : Bool := if v1 = v2 then (!(g1 == g2)) || !(t1.toList == t2.toList) else decide (v2 ≤ a1)
theorem isNewer_c (ka va aa : Int) (ga : Bool) (ta : ByteArray) (kb vb ab : Int) (gb : Bool) (tb : ByteArray) (w : World) :
    Calls Tryd.prog 113 #[.agg #[.int .i64 ka, .int .i64 va, .int .i64 aa, .bool ga, .string ta], .agg #[.int .i64 kb, .int .i64 vb, .int .i64 ab, .bool gb, .string tb]] w fun e w' => e = .returned (.bool (newerB va aa vb ab)) ∧ Below w.heap.size w w' := by
  go_enter Tryd.func113, Tryd.ntmps113
  go_wp2
  · go_ret
    rename_i h
    refine ⟨?_, by go_grown⟩
    simp_all [newerB]
  · go_ret
    rename_i h
    refine ⟨?_, by go_grown⟩
    simp_all [newerB]
theorem clash_c (ka va aa : Int) (ga : Bool) (ta : ByteArray) (kb vb ab : Int) (gb : Bool) (tb : ByteArray) (w : World) :
    Calls Tryd.prog 114 #[.agg #[.int .i64 ka, .int .i64 va, .int .i64 aa, .bool ga, .string ta], .agg #[.int .i64 kb, .int .i64 vb, .int .i64 ab, .bool gb, .string tb]] w fun e w' => e = .returned (.bool (clashB va aa ga ta vb gb tb)) ∧ Below w.heap.size w w' := by
  go_enter Tryd.func114, Tryd.ntmps114
  go_wp2
  · go_ret
    refine ⟨?_, by go_grown⟩
    simp_all [clashB]
  · go_ret
    refine ⟨?_, by go_grown⟩
    simp_all [clashB]
  · go_ret
    refine ⟨?_, by go_grown⟩
    simp_all [clashB]
theorem check_ok {k v a : Int} {g : Bool} {t : ByteArray} (h : bad k v a g t = 0) (w : World) :
    Calls Tryd.prog 67 #[.agg #[.int .i64 k, .int .i64 v, .int .i64 a, .bool g, .string t]] w fun e w' => e = .returned .nilIface ∧ Below w.heap.size w w' := by
  have c := check_c k v a g t w
  rw [h] at c
  exact c
theorem check_err {k v a : Int} {g : Bool} {t : ByteArray} {n : Int} (h : bad k v a g t = n) (hn : n ≠ 0) (w : World) :
    Calls Tryd.prog 67 #[.agg #[.int .i64 k, .int .i64 v, .int .i64 a, .bool g, .string t]] w fun e w' => e = .returned (.iface 71 (.int .i64 n)) ∧ Below w.heap.size w w' := by
  have c := check_c k v a g t w
  rw [h, eV, if_neg hn] at c
  exact c
/-- the fault of the first of two that has one -/
def bad2 (m n : Int) : Int := if m = 0 then n else m
theorem two_cells {b : Nat} {ka va aa : Int} {ga : Bool} {ta : ByteArray} {kb vb ab : Int} {gb : Bool} {tb : ByteArray} {w : World} (h : w.heap[b]? = some (.cells #[.int .i64 ka, .int .i64 va, .int .i64 aa, .bool ga, .string ta, .int .i64 kb, .int .i64 vb, .int .i64 ab, .bool gb, .string tb] 38)) :
    w.cell? ⟨b, 0, none⟩ = some (.int .i64 ka) ∧ w.cell? ⟨b, 1, none⟩ = some (.int .i64 va) ∧ w.cell? ⟨b, 2, none⟩ = some (.int .i64 aa) ∧ w.cell? ⟨b, 3, none⟩ = some (.bool ga) ∧ w.cell? ⟨b, 4, none⟩ = some (.string ta) ∧
    w.cell? ⟨b, 5, none⟩ = some (.int .i64 kb) ∧ w.cell? ⟨b, 6, none⟩ = some (.int .i64 vb) ∧ w.cell? ⟨b, 7, none⟩ = some (.int .i64 ab) ∧ w.cell? ⟨b, 8, none⟩ = some (.bool gb) ∧ w.cell? ⟨b, 9, none⟩ = some (.string tb) := by
  unfold World.cell?
  simp only [h]
  simp
set_option maxHeartbeats 4000000 in
theorem all_c (b : Nat) (ka va aa : Int) (ga : Bool) (ta : ByteArray) (kb vb ab : Int) (gb : Bool) (tb : ByteArray) (w : World)
    (h : w.heap[b]? = some (.cells #[.int .i64 ka, .int .i64 va, .int .i64 aa, .bool ga, .string ta, .int .i64 kb, .int .i64 vb, .int .i64 ab, .bool gb, .string tb] 38)) :
    Calls Tryd.prog 112 #[.slice (some ⟨b, 0, none⟩) 2 2] w fun e w' => e = .returned (eV (bad2 (bad ka va aa ga ta) (bad kb vb ab gb tb))) ∧ Below w.heap.size w w' := by
  have HH : Hid (w.heap[b]? = some (.cells #[.int .i64 ka, .int .i64 va, .int .i64 aa, .bool ga, .string ta, .int .i64 kb, .int .i64 vb, .int .i64 ab, .bool gb, .string tb] 38)) := h
  have HL : b < w.heap.size := (Array.getElem?_eq_some_iff.mp h).1
  obtain ⟨m, HM⟩ : ∃ m, Hid (bad ka va aa ga ta = m) := ⟨_, rfl⟩
  obtain ⟨n, HN⟩ : ∃ n, Hid (bad kb vb ab gb tb = n) := ⟨_, rfl⟩
  rw [HM.out, HN.out]
  clear h
  obtain ⟨z0, z1, z2, z3, z4, z5, z6, z7, z8, z9⟩ := two_cells HH.out
  go_enter Tryd.func112, Tryd.ntmps112
  go_wp2_with fail
  refine wp_loop_rounds 3 ?_
  rw [rounds_succ]
  go_wp2_with fail
  by_cases hm : m = 0
  · subst hm
    refine (check_ok HM.out _).mono ?_
    rintro e w1 ⟨rfl, hb⟩
    have B1 : Hid (Below w.heap.size w w1) := Below.trans (by go_grown) (hb.mono (by simp))
    have H1 : Hid (w1.heap[b]? = some (.cells #[.int .i64 ka, .int .i64 va, .int .i64 aa, .bool ga, .string ta, .int .i64 kb, .int .i64 vb, .int .i64 ab, .bool gb, .string tb] 38)) := (B1.out.block b HL).trans HH.out
    clear z0 z1 z2 z3 z4 z5 z6 z7 z8 z9 hb
    obtain ⟨z0, z1, z2, z3, z4, z5, z6, z7, z8, z9⟩ := two_cells H1.out
    go_wp2_with fail
    rw [rounds_succ]
    go_wp2_with fail
    by_cases hn : n = 0
    · subst hn
      refine (check_ok HN.out _).mono ?_
      rintro e w2 ⟨rfl, hb⟩
      have B2 : Hid (Below w.heap.size w w2) := (B1.out.alloc B1.out.size _).trans (hb.mono (by have := B1.out.size; simp; omega))
      clear hb
      go_wp2_with fail
      rw [rounds_succ]
      go_wp2_with fail
      go_ret
      exact ⟨by simp [bad2, eV], B2.out⟩
    · refine (check_err HN.out hn _).mono ?_
      rintro e w2 ⟨rfl, hb⟩
      have B2 : Hid (Below w.heap.size w w2) := (B1.out.alloc B1.out.size _).trans (hb.mono (by have := B1.out.size; simp; omega))
      clear hb
      go_wp2_with fail
      go_ret
      exact ⟨by simp [bad2, eV, hn], B2.out⟩
  · refine (check_err HM.out hm _).mono ?_
    rintro e w1 ⟨rfl, hb⟩
    have B1 : Hid (Below w.heap.size w w1) := Below.trans (by go_grown) (hb.mono (by simp))
    clear hb
    go_wp2_with fail
    go_ret
    refine ⟨?_, B1.out⟩
    simp [bad2, eV, hm]
/-- the result of Join -/
def joinE (x y : En) : En × Int :=
  if bad2 (bad x.k x.v x.a x.g x.t) (bad y.k y.v y.a y.g y.t) ≠ 0 then (⟨0, 0, 0, false, ⟨#[]⟩⟩, bad2 (bad x.k x.v x.a x.g x.t) (bad y.k y.v y.a y.g y.t))
  else if x.k ≠ y.k then (⟨0, 0, 0, false, ⟨#[]⟩⟩, 3)
  else if newerB x.v x.a y.v y.a = true then (if clashB y.v y.a y.g y.t x.v x.g x.t = true then (⟨0, 0, 0, false, ⟨#[]⟩⟩, 7) else (x, 0))
  else if clashB x.v x.a x.g x.t y.v y.g y.t = true then (⟨0, 0, 0, false, ⟨#[]⟩⟩, 7) else (y, 0)
/-- an entry's five cells at a block -/
structure BoxAt (w : World) (b : Nat) (k v a : Int) (g : Bool) (t : ByteArray) : Prop where
  c0 : w.cell? ⟨b, 0, none⟩ = some (.int .i64 k)
  c1 : w.cell? ⟨b, 1, none⟩ = some (.int .i64 v)
  c2 : w.cell? ⟨b, 2, none⟩ = some (.int .i64 a)
  c3 : w.cell? ⟨b, 3, none⟩ = some (.bool g)
  c4 : w.cell? ⟨b, 4, none⟩ = some (.string t)
  fz : ∀ j, w.frozen? ⟨b, j, none⟩ = false
theorem BoxAt.of_block {w w' : World} {b : Nat} {k v a : Int} {g : Bool} {t : ByteArray} (h : BoxAt w b k v a g t) (hb : w'.heap[b]? = w.heap[b]?) : BoxAt w' b k v a g t :=
  ⟨(World.cell?_of_block (a := ⟨b, 0, none⟩) hb).trans h.c0, (World.cell?_of_block (a := ⟨b, 1, none⟩) hb).trans h.c1, (World.cell?_of_block (a := ⟨b, 2, none⟩) hb).trans h.c2, (World.cell?_of_block (a := ⟨b, 3, none⟩) hb).trans h.c3, (World.cell?_of_block (a := ⟨b, 4, none⟩) hb).trans h.c4, fun j => (World.frozen?_of_block (a := ⟨b, j, none⟩) hb).trans (h.fz j)⟩
theorem BoxAt.below {w w' : World} {b B : Nat} {k v a : Int} {g : Bool} {t : ByteArray} (h : BoxAt w b k v a g t) (hb : Below B w w') (hB : b < B) : BoxAt w' b k v a g t := h.of_block (hb.block b hB)
theorem box_new (w : World) (k v a : Int) (g : Bool) (t : ByteArray) (b : Nat) (h : b = w.heap.size) : BoxAt (w.alloc (.cells #[.int .i64 k, .int .i64 v, .int .i64 a, .bool g, .string t] 38)) b k v a g t := by
  subst h
  exact ⟨by simp, by simp, by simp, by simp, by simp, fun j => by simp⟩
theorem BoxAt.alloc {w : World} {b : Nat} {k v a : Int} {g : Bool} {t : ByteArray} (h : BoxAt w b k v a g t) (o : Obj) : BoxAt (w.alloc o) b k v a g t :=
  h.of_block (Below.heap_alloc _ _ _ (World.block_lt_of_cell? w _ h.c0))
theorem BoxAt.lt {w : World} {b : Nat} {k v a : Int} {g : Bool} {t : ByteArray} (h : BoxAt w b k v a g t) : b < w.heap.size := World.block_lt_of_cell? w _ h.c0
theorem BoxAt.drew {w : World} {b : Nat} {k v a : Int} {g : Bool} {t : ByteArray} (h : BoxAt w b k v a g t) : BoxAt w.drew b k v a g t := h.of_block rfl
theorem BoxAt.set {w : World} {b : Nat} {k v a : Int} {g : Bool} {t : ByteArray} (h : BoxAt w b k v a g t) (x0 x1 x2 : Int) (x3 : Bool) (x4 : ByteArray) :
    BoxAt (((((w.setCell ⟨b, 0, none⟩ (.int .i64 x0)).setCell ⟨b, 1, none⟩ (.int .i64 x1)).setCell ⟨b, 2, none⟩ (.int .i64 x2)).setCell ⟨b, 3, none⟩ (.bool x3)).setCell ⟨b, 4, none⟩ (.string x4)) b x0 x1 x2 x3 x4 := by
  obtain ⟨h0, h1, h2, h3, h4, hf⟩ := h
  refine ⟨?_, ?_, ?_, ?_, ?_, fun j => by simp only [World.frozen?_setCell]; exact hf j⟩
  · rw [World.cell?_setCell_other _ _ _ _ (by simp), World.cell?_setCell_other _ _ _ _ (by simp), World.cell?_setCell_other _ _ _ _ (by simp), World.cell?_setCell_other _ _ _ _ (by simp), World.cell?_setCell_same _ _ _ h0]
  · rw [World.cell?_setCell_other _ _ _ _ (by simp), World.cell?_setCell_other _ _ _ _ (by simp), World.cell?_setCell_other _ _ _ _ (by simp)]
    exact World.cell?_setCell_same _ _ _ ((World.cell?_setCell_other _ _ _ _ (by simp)).trans h1)
  · rw [World.cell?_setCell_other _ _ _ _ (by simp), World.cell?_setCell_other _ _ _ _ (by simp)]
    exact World.cell?_setCell_same _ _ _ ((World.cell?_setCell_other _ _ _ _ (by simp)).trans ((World.cell?_setCell_other _ _ _ _ (by simp)).trans h2))
  · rw [World.cell?_setCell_other _ _ _ _ (by simp)]
    exact World.cell?_setCell_same _ _ _ ((World.cell?_setCell_other _ _ _ _ (by simp)).trans ((World.cell?_setCell_other _ _ _ _ (by simp)).trans ((World.cell?_setCell_other _ _ _ _ (by simp)).trans h3)))
  · exact World.cell?_setCell_same _ _ _ ((World.cell?_setCell_other _ _ _ _ (by simp)).trans ((World.cell?_setCell_other _ _ _ _ (by simp)).trans ((World.cell?_setCell_other _ _ _ _ (by simp)).trans ((World.cell?_setCell_other _ _ _ _ (by simp)).trans h4))))
theorem BoxAt.other {w : World} {b c : Nat} {k v a : Int} {g : Bool} {t : ByteArray} (h : BoxAt w b k v a g t) (hc : b ≠ c) (x0 x1 x2 x3 x4 : Value) :
    BoxAt (((((w.setCell ⟨c, 0, none⟩ x0).setCell ⟨c, 1, none⟩ x1).setCell ⟨c, 2, none⟩ x2).setCell ⟨c, 3, none⟩ x3).setCell ⟨c, 4, none⟩ x4) b k v a g t :=
  h.of_block (by rw [Below.heap_setCell _ _ _ b hc, Below.heap_setCell _ _ _ b hc, Below.heap_setCell _ _ _ b hc, Below.heap_setCell _ _ _ b hc, Below.heap_setCell _ _ _ b hc])
theorem alloc_at (w : World) (o : Obj) (b : Nat) (h : b = w.heap.size) : (w.alloc o).heap[b]? = some o := by
  subst h
  exact Array.getElem?_push_size
set_option maxHeartbeats 4000000 in
theorem join_bad (ka va aa : Int) (ga : Bool) (ta : ByteArray) (kb vb ab : Int) (gb : Bool) (tb : ByteArray) (w : World) (n : Int) (hn : n ≠ 0) (h : bad2 (bad ka va aa ga ta) (bad kb vb ab gb tb) = n) :
    Calls Tryd.prog 106 #[.agg #[.int .i64 ka, .int .i64 va, .int .i64 aa, .bool ga, .string ta], .agg #[.int .i64 kb, .int .i64 vb, .int .i64 ab, .bool gb, .string tb]] w fun e w' => e = .returned (.tuple #[.agg #[.int .i64 0, .int .i64 0, .int .i64 0, .bool false, .string ⟨#[]⟩], .iface 71 (.int .i64 n)]) ∧ Below w.heap.size w w' := by
  have H : Hid (bad2 (bad ka va aa ga ta) (bad kb vb ab gb tb) = n) := h
  clear h
  go_enter Tryd.func106, Tryd.ntmps106
  go_wp2_with fail
  refine (all_c (w.heap.size + 1 + 1 + 1) ka va aa ga ta kb vb ab gb tb _ (alloc_at _ _ _ (by simp))).mono ?_
  rintro e w1 ⟨rfl, hb⟩
  rw [H.out, eV, if_neg hn]
  have B1 : Hid (Below w.heap.size w w1) := Below.trans (by go_grown) (hb.mono (by simp; omega))
  obtain ⟨e0, e1, e2, e3, e4, ef⟩ := ((box_new _ 0 0 0 false ⟨#[]⟩ (w.heap.size + 1 + 1) (by simp)).alloc _).below hb (by simp)
  clear hb
  go_wp2_with fail
  refine bodyPost_ret (v := .tuple #[.agg #[.int .i64 0, .int .i64 0, .int .i64 0, .bool false, .string ⟨#[]⟩], .iface 71 (.int .i64 n)]) (by simp [results, Tryd.results106, go_sem, e0, e1, e2, e3, e4]) rfl ?_
  refine ⟨rfl, ?_⟩
  have hb := B1.out
  go_grown
set_option maxHeartbeats 4000000 in
theorem join_key (ka va aa : Int) (ga : Bool) (ta : ByteArray) (kb vb ab : Int) (gb : Bool) (tb : ByteArray) (w : World) (h : bad2 (bad ka va aa ga ta) (bad kb vb ab gb tb) = 0) (hk : ka ≠ kb) :
    Calls Tryd.prog 106 #[.agg #[.int .i64 ka, .int .i64 va, .int .i64 aa, .bool ga, .string ta], .agg #[.int .i64 kb, .int .i64 vb, .int .i64 ab, .bool gb, .string tb]] w fun e w' => e = .returned (.tuple #[.agg #[.int .i64 0, .int .i64 0, .int .i64 0, .bool false, .string ⟨#[]⟩], .iface 71 (.int .i64 3)]) ∧ Below w.heap.size w w' := by
  have H : Hid (bad2 (bad ka va aa ga ta) (bad kb vb ab gb tb) = 0) := h
  clear h
  go_enter Tryd.func106, Tryd.ntmps106
  go_wp2_with fail
  refine (all_c (w.heap.size + 1 + 1 + 1) ka va aa ga ta kb vb ab gb tb _ (alloc_at _ _ _ (by simp))).mono ?_
  rintro e w1 ⟨rfl, hb⟩
  rw [H.out, eV, if_pos rfl]
  have B1 : Hid (Below w.heap.size w w1) := Below.trans (by go_grown) (hb.mono (by simp; omega))
  obtain ⟨e0, e1, e2, e3, e4, ef⟩ := ((box_new _ 0 0 0 false ⟨#[]⟩ (w.heap.size + 1 + 1) (by simp)).alloc _).below hb (by simp)
  obtain ⟨a0, a1, a2, a3, a4, af⟩ := ((((box_new w ka va aa ga ta w.heap.size rfl).alloc _).alloc _).alloc _).below hb (by simp; omega)
  obtain ⟨b0, b1, b2, b3, b4, bf⟩ := (((box_new _ kb vb ab gb tb (w.heap.size + 1) (by simp)).alloc _).alloc _).below hb (by simp)
  clear hb
  go_wp2_with fail
  refine bodyPost_ret (v := .tuple #[.agg #[.int .i64 0, .int .i64 0, .int .i64 0, .bool false, .string ⟨#[]⟩], .iface 71 (.int .i64 3)]) (by simp [results, Tryd.results106, go_sem, e0, e1, e2, e3, e4]) rfl ?_
  refine ⟨rfl, ?_⟩
  have hb := B1.out
  go_grown
end Go.Proofs.YtpcnfoaoajfhlaaDoor
