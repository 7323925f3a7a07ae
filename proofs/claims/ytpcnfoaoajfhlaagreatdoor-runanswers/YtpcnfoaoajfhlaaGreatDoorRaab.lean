/-
  Package entry by its contracts: what two entries know.
  Package entry by its contracts: what two entries of one key know; whether one is true at a number.
  Package entry by its contracts: Join of any two entries; True.
-/
import Derived.Test.YtpcnfoaoajfhlaaGreatDoorRaaa
import Derived.BigRegion
namespace Go.Proofs.YtpcnfoaoajfhlaaGreatDoor
set_option linter.unusedVariables false
set_option linter.unusedSimpArgs false
set_option linter.unusedVariables false
set_option linter.unusedSimpArgs false
open Go.RowKit
def newerB (va aa vb ab : Int) : Bool := if va = vb then decide (ab < aa) else decide (vb < va)
def clashB (v1 a1 : Int) (g1 : Bool) (t1 : ByteArray) (v2 : Int) (g2 : Bool) (t2 : ByteArray) : Bool := if v1 = v2 then (!(g1 == g2)) || !(t1.toList == t2.toList) else decide (v2 ≤ a1)
theorem isNewer_c (ka va aa : Int) (ga : Bool) (ta : ByteArray) (kb vb ab : Int) (gb : Bool) (tb : ByteArray) (w : World) :
    Calls Tryz.prog 164 #[.agg #[.int .i64 ka, .int .i64 va, .int .i64 aa, .bool ga, .string ta], .agg #[.int .i64 kb, .int .i64 vb, .int .i64 ab, .bool gb, .string tb]] w fun e w' => e = .returned (.bool (newerB va aa vb ab)) ∧ Below w.heap.size w w' := by
  go_enter Tryz.func164, Tryz.ntmps164
  go_wp2
  · go_ret
    rename_i h
    refine ⟨?_, by go_grown⟩
    simp_all [newerB]
  · go_ret
    rename_i h
    refine ⟨?_, by go_grown⟩
    simp_all [newerB]
theorem clash_c (ka va aa : Int) (ga : Bool) (ta : ByteArray) (kb vb ab : Int) (gb : Bool) (tb : ByteArray) (w : World) :
    Calls Tryz.prog 165 #[.agg #[.int .i64 ka, .int .i64 va, .int .i64 aa, .bool ga, .string ta], .agg #[.int .i64 kb, .int .i64 vb, .int .i64 ab, .bool gb, .string tb]] w fun e w' => e = .returned (.bool (clashB va aa ga ta vb gb tb)) ∧ Below w.heap.size w w' := by
  go_enter Tryz.func165, Tryz.ntmps165
  go_wp2
  · go_ret
    refine ⟨?_, by go_grown⟩
    simp_all [clashB]
  · go_ret
    refine ⟨?_, by go_grown⟩
    simp_all [clashB]
  · go_ret
    refine ⟨?_, by go_grown⟩
    simp_all [clashB]
theorem check_ok {k v a : Int} {g : Bool} {t : ByteArray} (h : bad k v a g t = 0) (w : World) :
    Calls Tryz.prog 27 #[.agg #[.int .i64 k, .int .i64 v, .int .i64 a, .bool g, .string t]] w fun e w' => e = .returned .nilIface ∧ Below w.heap.size w w' := by
  have c := check_c k v a g t w
  rw [h] at c
  exact c
theorem check_err {k v a : Int} {g : Bool} {t : ByteArray} {n : Int} (h : bad k v a g t = n) (hn : n ≠ 0) (w : World) :
    Calls Tryz.prog 27 #[.agg #[.int .i64 k, .int .i64 v, .int .i64 a, .bool g, .string t]] w fun e w' => e = .returned (.iface 85 (.int .i64 n)) ∧ Below w.heap.size w w' := by
  have c := check_c k v a g t w
  rw [h, eV, if_neg hn] at c
  exact c
/-- the fault of the first of two that has one -/
def bad2 (m n : Int) : Int := if m = 0 then n else m
theorem two_cells {b : Nat} {ka va aa : Int} {ga : Bool} {ta : ByteArray} {kb vb ab : Int} {gb : Bool} {tb : ByteArray} {w : World} (h : w.heap[b]? = some (.cells #[.int .i64 ka, .int .i64 va, .int .i64 aa, .bool ga, .string ta, .int .i64 kb, .int .i64 vb, .int .i64 ab, .bool gb, .string tb] 46)) :
    w.cell? ⟨b, 0, none⟩ = some (.int .i64 ka) ∧ w.cell? ⟨b, 1, none⟩ = some (.int .i64 va) ∧ w.cell? ⟨b, 2, none⟩ = some (.int .i64 aa) ∧ w.cell? ⟨b, 3, none⟩ = some (.bool ga) ∧ w.cell? ⟨b, 4, none⟩ = some (.string ta) ∧
    w.cell? ⟨b, 5, none⟩ = some (.int .i64 kb) ∧ w.cell? ⟨b, 6, none⟩ = some (.int .i64 vb) ∧ w.cell? ⟨b, 7, none⟩ = some (.int .i64 ab) ∧ w.cell? ⟨b, 8, none⟩ = some (.bool gb) ∧ w.cell? ⟨b, 9, none⟩ = some (.string tb) := by
  unfold World.cell?
  simp only [h]
  simp
set_option maxHeartbeats 4000000 in
theorem all_c (b : Nat) (ka va aa : Int) (ga : Bool) (ta : ByteArray) (kb vb ab : Int) (gb : Bool) (tb : ByteArray) (w : World)
    (h : w.heap[b]? = some (.cells #[.int .i64 ka, .int .i64 va, .int .i64 aa, .bool ga, .string ta, .int .i64 kb, .int .i64 vb, .int .i64 ab, .bool gb, .string tb] 46)) :
    Calls Tryz.prog 163 #[.slice (some ⟨b, 0, none⟩) 2 2] w fun e w' => e = .returned (eV (bad2 (bad ka va aa ga ta) (bad kb vb ab gb tb))) ∧ Below w.heap.size w w' := by
  have HH : Hid (w.heap[b]? = some (.cells #[.int .i64 ka, .int .i64 va, .int .i64 aa, .bool ga, .string ta, .int .i64 kb, .int .i64 vb, .int .i64 ab, .bool gb, .string tb] 46)) := h
  have HL : b < w.heap.size := (Array.getElem?_eq_some_iff.mp h).1
  obtain ⟨m, HM⟩ : ∃ m, Hid (bad ka va aa ga ta = m) := ⟨_, rfl⟩
  obtain ⟨n, HN⟩ : ∃ n, Hid (bad kb vb ab gb tb = n) := ⟨_, rfl⟩
  rw [HM.out, HN.out]
  clear h
  obtain ⟨z0, z1, z2, z3, z4, z5, z6, z7, z8, z9⟩ := two_cells HH.out
  go_enter Tryz.func163, Tryz.ntmps163
  go_wp2_with fail
  refine wp_loop_rounds 3 ?_
  rw [rounds_succ]
  go_wp2_with fail
  by_cases hm : m = 0
  · subst hm
    refine (check_ok HM.out _).mono ?_
    rintro e w1 ⟨rfl, hb⟩
    have B1 : Hid (Below w.heap.size w w1) := Below.trans (by go_grown) (hb.mono (by simp))
    have H1 : Hid (w1.heap[b]? = some (.cells #[.int .i64 ka, .int .i64 va, .int .i64 aa, .bool ga, .string ta, .int .i64 kb, .int .i64 vb, .int .i64 ab, .bool gb, .string tb] 46)) := (B1.out.block b HL).trans HH.out
    clear z0 z1 z2 z3 z4 z5 z6 z7 z8 z9 hb
    obtain ⟨z0, z1, z2, z3, z4, z5, z6, z7, z8, z9⟩ := two_cells H1.out
    go_wp2_with fail
    rw [rounds_succ]
    go_wp2_with fail
    by_cases hn : n = 0
    · subst hn
      refine (check_ok HN.out _).mono ?_
      rintro e w2 ⟨rfl, hb⟩
      have B2 : Hid (Below w.heap.size w w2) := (B1.out.alloc B1.out.size _).trans (hb.mono (by have := B1.out.size; simp; omega))
      clear hb
      go_wp2_with fail
      rw [rounds_succ]
      go_wp2_with fail
      go_ret
      exact ⟨by simp [bad2, eV], B2.out⟩
    · refine (check_err HN.out hn _).mono ?_
      rintro e w2 ⟨rfl, hb⟩
      have B2 : Hid (Below w.heap.size w w2) := (B1.out.alloc B1.out.size _).trans (hb.mono (by have := B1.out.size; simp; omega))
      clear hb
      go_wp2_with fail
      go_ret
      exact ⟨by simp [bad2, eV, hn], B2.out⟩
  · refine (check_err HM.out hm _).mono ?_
    rintro e w1 ⟨rfl, hb⟩
    have B1 : Hid (Below w.heap.size w w1) := Below.trans (by go_grown) (hb.mono (by simp))
    clear hb
    go_wp2_with fail
    go_ret
    refine ⟨?_, B1.out⟩
    simp [bad2, eV, hm]
/-- the result of Join -/
def joinE (x y : En) : En × Int :=
  if bad2 (bad x.k x.v x.a x.g x.t) (bad y.k y.v y.a y.g y.t) ≠ 0 then (⟨0, 0, 0, false, ⟨#[]⟩⟩, bad2 (bad x.k x.v x.a x.g x.t) (bad y.k y.v y.a y.g y.t))
  else if x.k ≠ y.k then (⟨0, 0, 0, false, ⟨#[]⟩⟩, 3)
  else if newerB x.v x.a y.v y.a = true then (if clashB y.v y.a y.g y.t x.v x.g x.t = true then (⟨0, 0, 0, false, ⟨#[]⟩⟩, 7) else (x, 0))
  else if clashB x.v x.a x.g x.t y.v y.g y.t = true then (⟨0, 0, 0, false, ⟨#[]⟩⟩, 7) else (y, 0)
/-- an entry's five cells at a block -/
structure BoxAt (w : World) (b : Nat) (k v a : Int) (g : Bool) (t : ByteArray) : Prop where
  c0 : w.cell? ⟨b, 0, none⟩ = some (.int .i64 k)
  c1 : w.cell? ⟨b, 1, none⟩ = some (.int .i64 v)
  c2 : w.cell? ⟨b, 2, none⟩ = some (.int .i64 a)
  c3 : w.cell? ⟨b, 3, none⟩ = some (.bool g)
  c4 : w.cell? ⟨b, 4, none⟩ = some (.string t)
  fz : ∀ j, w.frozen? ⟨b, j, none⟩ = false
theorem BoxAt.of_block {w w' : World} {b : Nat} {k v a : Int} {g : Bool} {t : ByteArray} (h : BoxAt w b k v a g t) (hb : w'.heap[b]? = w.heap[b]?) : BoxAt w' b k v a g t :=
  ⟨(World.cell?_of_block (a := ⟨b, 0, none⟩) hb).trans h.c0, (World.cell?_of_block (a := ⟨b, 1, none⟩) hb).trans h.c1, (World.cell?_of_block (a := ⟨b, 2, none⟩) hb).trans h.c2, (World.cell?_of_block (a := ⟨b, 3, none⟩) hb).trans h.c3, (World.cell?_of_block (a := ⟨b, 4, none⟩) hb).trans h.c4, fun j => (World.frozen?_of_block (a := ⟨b, j, none⟩) hb).trans (h.fz j)⟩
theorem BoxAt.below {w w' : World} {b B : Nat} {k v a : Int} {g : Bool} {t : ByteArray} (h : BoxAt w b k v a g t) (hb : Below B w w') (hB : b < B) : BoxAt w' b k v a g t := h.of_block (hb.block b hB)
theorem box_new (w : World) (k v a : Int) (g : Bool) (t : ByteArray) (b : Nat) (h : b = w.heap.size) : BoxAt (w.alloc (.cells #[.int .i64 k, .int .i64 v, .int .i64 a, .bool g, .string t] 46)) b k v a g t := by
  subst h
  exact ⟨by simp, by simp, by simp, by simp, by simp, fun j => by simp⟩
theorem BoxAt.alloc {w : World} {b : Nat} {k v a : Int} {g : Bool} {t : ByteArray} (h : BoxAt w b k v a g t) (o : Obj) : BoxAt (w.alloc o) b k v a g t :=
  h.of_block (Below.heap_alloc _ _ _ (World.block_lt_of_cell? w _ h.c0))
theorem BoxAt.lt {w : World} {b : Nat} {k v a : Int} {g : Bool} {t : ByteArray} (h : BoxAt w b k v a g t) : b < w.heap.size := World.block_lt_of_cell? w _ h.c0
theorem BoxAt.drew {w : World} {b : Nat} {k v a : Int} {g : Bool} {t : ByteArray} (h : BoxAt w b k v a g t) : BoxAt w.drew b k v a g t := h.of_block rfl
theorem BoxAt.set {w : World} {b : Nat} {k v a : Int} {g : Bool} {t : ByteArray} (h : BoxAt w b k v a g t) (x0 x1 x2 : Int) (x3 : Bool) (x4 : ByteArray) :
    BoxAt (((((w.setCell ⟨b, 0, none⟩ (.int .i64 x0)).setCell ⟨b, 1, none⟩ (.int .i64 x1)).setCell ⟨b, 2, none⟩ (.int .i64 x2)).setCell ⟨b, 3, none⟩ (.bool x3)).setCell ⟨b, 4, none⟩ (.string x4)) b x0 x1 x2 x3 x4 := by
  obtain ⟨h0, h1, h2, h3, h4, hf⟩ := h
  refine ⟨?_, ?_, ?_, ?_, ?_, fun j => by simp only [World.frozen?_setCell]; exact hf j⟩
  · rw [World.cell?_setCell_other _ _ _ _ (by simp), World.cell?_setCell_other _ _ _ _ (by simp), World.cell?_setCell_other _ _ _ _ (by simp), World.cell?_setCell_other _ _ _ _ (by simp), World.cell?_setCell_same _ _ _ h0]
  · rw [World.cell?_setCell_other _ _ _ _ (by simp), World.cell?_setCell_other _ _ _ _ (by simp), World.cell?_setCell_other _ _ _ _ (by simp)]
    exact World.cell?_setCell_same _ _ _ ((World.cell?_setCell_other _ _ _ _ (by simp)).trans h1)
  · rw [World.cell?_setCell_other _ _ _ _ (by simp), World.cell?_setCell_other _ _ _ _ (by simp)]
    exact World.cell?_setCell_same _ _ _ ((World.cell?_setCell_other _ _ _ _ (by simp)).trans ((World.cell?_setCell_other _ _ _ _ (by simp)).trans h2))
  · rw [World.cell?_setCell_other _ _ _ _ (by simp)]
    exact World.cell?_setCell_same _ _ _ ((World.cell?_setCell_other _ _ _ _ (by simp)).trans ((World.cell?_setCell_other _ _ _ _ (by simp)).trans ((World.cell?_setCell_other _ _ _ _ (by simp)).trans h3)))
  · exact World.cell?_setCell_same _ _ _ ((World.cell?_setCell_other _ _ _ _ (by simp)).trans ((World.cell?_setCell_other _ _ _ _ (by simp)).trans ((World.cell?_setCell_other _ _ _ _ (by simp)).trans ((World.cell?_setCell_other _ _ _ _ (by simp)).trans h4))))
theorem BoxAt.other {w : World} {b c : Nat} {k v a : Int} {g : Bool} {t : ByteArray} (h : BoxAt w b k v a g t) (hc : b ≠ c) (x0 x1 x2 x3 x4 : Value) :
    BoxAt (((((w.setCell ⟨c, 0, none⟩ x0).setCell ⟨c, 1, none⟩ x1).setCell ⟨c, 2, none⟩ x2).setCell ⟨c, 3, none⟩ x3).setCell ⟨c, 4, none⟩ x4) b k v a g t :=
  h.of_block (by rw [Below.heap_setCell _ _ _ b hc, Below.heap_setCell _ _ _ b hc, Below.heap_setCell _ _ _ b hc, Below.heap_setCell _ _ _ b hc, Below.heap_setCell _ _ _ b hc])
theorem alloc_at (w : World) (o : Obj) (b : Nat) (h : b = w.heap.size) : (w.alloc o).heap[b]? = some o := by
  subst h
  exact Array.getElem?_push_size
set_option maxHeartbeats 4000000 in
theorem join_bad (ka va aa : Int) (ga : Bool) (ta : ByteArray) (kb vb ab : Int) (gb : Bool) (tb : ByteArray) (w : World) (n : Int) (hn : n ≠ 0) (h : bad2 (bad ka va aa ga ta) (bad kb vb ab gb tb) = n) :
    Calls Tryz.prog 119 #[.agg #[.int .i64 ka, .int .i64 va, .int .i64 aa, .bool ga, .string ta], .agg #[.int .i64 kb, .int .i64 vb, .int .i64 ab, .bool gb, .string tb]] w fun e w' => e = .returned (.tuple #[.agg #[.int .i64 0, .int .i64 0, .int .i64 0, .bool false, .string ⟨#[]⟩], .iface 85 (.int .i64 n)]) ∧ Below w.heap.size w w' := by
  have H : Hid (bad2 (bad ka va aa ga ta) (bad kb vb ab gb tb) = n) := h
  clear h
  go_enter Tryz.func119, Tryz.ntmps119
  go_wp2_with fail
  refine (all_c (w.heap.size + 1 + 1 + 1) ka va aa ga ta kb vb ab gb tb _ (alloc_at _ _ _ (by simp))).mono ?_
  rintro e w1 ⟨rfl, hb⟩
  rw [H.out, eV, if_neg hn]
  have B1 : Hid (Below w.heap.size w w1) := Below.trans (by go_grown) (hb.mono (by simp; omega))
  obtain ⟨e0, e1, e2, e3, e4, ef⟩ := ((box_new _ 0 0 0 false ⟨#[]⟩ (w.heap.size + 1 + 1) (by simp)).alloc _).below hb (by simp)
  clear hb
  go_wp2_with fail
  refine bodyPost_ret (v := .tuple #[.agg #[.int .i64 0, .int .i64 0, .int .i64 0, .bool false, .string ⟨#[]⟩], .iface 85 (.int .i64 n)]) (by simp [results, Tryz.results119, go_sem, e0, e1, e2, e3, e4]) rfl ?_
  refine ⟨rfl, ?_⟩
  have hb := B1.out
  go_grown
set_option maxHeartbeats 4000000 in
theorem join_key (ka va aa : Int) (ga : Bool) (ta : ByteArray) (kb vb ab : Int) (gb : Bool) (tb : ByteArray) (w : World) (h : bad2 (bad ka va aa ga ta) (bad kb vb ab gb tb) = 0) (hk : ka ≠ kb) :
    Calls Tryz.prog 119 #[.agg #[.int .i64 ka, .int .i64 va, .int .i64 aa, .bool ga, .string ta], .agg #[.int .i64 kb, .int .i64 vb, .int .i64 ab, .bool gb, .string tb]] w fun e w' => e = .returned (.tuple #[.agg #[.int .i64 0, .int .i64 0, .int .i64 0, .bool false, .string ⟨#[]⟩], .iface 85 (.int .i64 3)]) ∧ Below w.heap.size w w' := by
  have H : Hid (bad2 (bad ka va aa ga ta) (bad kb vb ab gb tb) = 0) := h
  clear h
  go_enter Tryz.func119, Tryz.ntmps119
  go_wp2_with fail
  refine (all_c (w.heap.size + 1 + 1 + 1) ka va aa ga ta kb vb ab gb tb _ (alloc_at _ _ _ (by simp))).mono ?_
  rintro e w1 ⟨rfl, hb⟩
  rw [H.out, eV, if_pos rfl]
  have B1 : Hid (Below w.heap.size w w1) := Below.trans (by go_grown) (hb.mono (by simp; omega))
  obtain ⟨e0, e1, e2, e3, e4, ef⟩ := ((box_new _ 0 0 0 false ⟨#[]⟩ (w.heap.size + 1 + 1) (by simp)).alloc _).below hb (by simp)
  obtain ⟨a0, a1, a2, a3, a4, af⟩ := ((((box_new w ka va aa ga ta w.heap.size rfl).alloc _).alloc _).alloc _).below hb (by simp; omega)
  obtain ⟨b0, b1, b2, b3, b4, bf⟩ := (((box_new _ kb vb ab gb tb (w.heap.size + 1) (by simp)).alloc _).alloc _).below hb (by simp)
  clear hb
  go_wp2_with fail
  refine bodyPost_ret (v := .tuple #[.agg #[.int .i64 0, .int .i64 0, .int .i64 0, .bool false, .string ⟨#[]⟩], .iface 85 (.int .i64 3)]) (by simp [results, Tryz.results119, go_sem, e0, e1, e2, e3, e4]) rfl ?_
  refine ⟨rfl, ?_⟩
  have hb := B1.out
  go_grown
end Go.Proofs.YtpcnfoaoajfhlaaGreatDoor

namespace Go.Proofs.YtpcnfoaoajfhlaaGreatDoor
set_option linter.unusedVariables false
set_option linter.unusedSimpArgs false
open Go.RowKit
set_option maxHeartbeats 4000000 in
theorem join_same (ka va aa : Int) (ga : Bool) (ta : ByteArray) (kb vb ab : Int) (gb : Bool) (tb : ByteArray) (w : World) (h : bad2 (bad ka va aa ga ta) (bad kb vb ab gb tb) = 0) (hk : ka = kb) :
    Calls Tryz.prog 119 #[.agg #[.int .i64 ka, .int .i64 va, .int .i64 aa, .bool ga, .string ta], .agg #[.int .i64 kb, .int .i64 vb, .int .i64 ab, .bool gb, .string tb]] w fun e w' => e = .returned (.tuple #[(joinE ⟨ka, va, aa, ga, ta⟩ ⟨kb, vb, ab, gb, tb⟩).1.val, eV (joinE ⟨ka, va, aa, ga, ta⟩ ⟨kb, vb, ab, gb, tb⟩).2]) ∧ Below w.heap.size w w' := by
  have H : Hid (bad2 (bad ka va aa ga ta) (bad kb vb ab gb tb) = 0) := h
  clear h
  subst hk
  have HJ : Hid (joinE ⟨ka, va, aa, ga, ta⟩ ⟨ka, vb, ab, gb, tb⟩ = if newerB va aa vb ab = true then (if clashB vb ab gb tb va ga ta = true then (⟨0, 0, 0, false, ⟨#[]⟩⟩, 7) else (⟨ka, va, aa, ga, ta⟩, 0)) else if clashB va aa ga ta vb gb tb = true then (⟨0, 0, 0, false, ⟨#[]⟩⟩, 7) else (⟨ka, vb, ab, gb, tb⟩, 0)) := by
    show joinE _ _ = _
    unfold joinE
    rw [if_neg (by simpa using H.out), if_neg (by simp)]
  obtain ⟨nb, HN⟩ : ∃ b, Hid (newerB va aa vb ab = b) := ⟨_, rfl⟩
  obtain ⟨J, HE⟩ : ∃ J, Hid (joinE ⟨ka, va, aa, ga, ta⟩ ⟨ka, vb, ab, gb, tb⟩ = J) := ⟨_, rfl⟩
  rw [HE.out]
  go_enter Tryz.func119, Tryz.ntmps119
  go_wp2_with fail
  refine (all_c (w.heap.size + 1 + 1 + 1) ka va aa ga ta ka vb ab gb tb _ (alloc_at _ _ _ (by simp))).mono ?_
  rintro e w1 ⟨rfl, hb⟩
  rw [H.out, eV, if_pos rfl]
  have B1 : Hid (Below w.heap.size w w1) := Below.trans (by go_grown) (hb.mono (by simp; omega))
  obtain ⟨e0, e1, e2, e3, e4, ef⟩ := ((box_new _ 0 0 0 false ⟨#[]⟩ (w.heap.size + 1 + 1) (by simp)).alloc _).below hb (by simp)
  obtain ⟨a0, a1, a2, a3, a4, af⟩ := ((((box_new w ka va aa ga ta w.heap.size rfl).alloc _).alloc _).alloc _).below hb (by simp; omega)
  obtain ⟨b0, b1, b2, b3, b4, bf⟩ := (((box_new _ ka vb ab gb tb (w.heap.size + 1) (by simp)).alloc _).alloc _).below hb (by simp)
  have hz : w.heap.size + 4 ≤ w1.heap.size := by have := hb.size; simp at this; omega
  have p1 : w.heap.size < w1.heap.size := by omega
  have p2 : ¬ w.heap.size = w1.heap.size := by omega
  have p3 : w.heap.size < w1.heap.size + 1 := by omega
  have p4 : ¬ w.heap.size = w1.heap.size + 1 := by omega
  have q1 : w.heap.size + 1 < w1.heap.size := by omega
  have q2 : ¬ w.heap.size + 1 = w1.heap.size := by omega
  have q3 : w.heap.size + 1 < w1.heap.size + 1 := by omega
  have q4 : ¬ w.heap.size + 1 = w1.heap.size + 1 := by omega
  have r1 : w.heap.size + 1 + 1 < w1.heap.size := by omega
  have r2 : ¬ w.heap.size + 1 + 1 = w1.heap.size := by omega
  have r3 : w.heap.size + 1 + 1 < w1.heap.size + 1 := by omega
  have r4 : ¬ w.heap.size + 1 + 1 = w1.heap.size + 1 := by omega
  clear hb hz
  go_upto_region 6 with fail
  go_cut [7, 8] (fun v7 v8 wc => ∃ O N : Nat, v7 = .pointer (some ⟨O, 0, none⟩) ∧ v8 = .pointer (some ⟨N, 0, none⟩) ∧ O ≠ N ∧ w.heap.size + 3 ≤ O ∧ w.heap.size + 3 ≤ N ∧ BoxAt wc O ka va aa ga ta ∧ BoxAt wc N ka vb ab gb tb ∧ Hid (Below w1.heap.size w1 wc))
  case first =>
    as_aux_lemma =>
      go_region
      · go_wp2_with fail
        go_meet
        case rel => 
          refine ⟨_, _, rfl, rfl, by omega, by omega, by omega, ?_, ?_, ?_⟩
          · exact ((box_new _ _ _ _ _ _ _ rfl).alloc _).drew
          · exact (box_new _ _ _ _ _ _ _ (by simp)).drew
          · show Below _ _ _; go_grown
      · go_wp2_with fail
        go_meet
        case rel => 
          refine ⟨_, _, rfl, rfl, by omega, by omega, by omega, ?_, ?_, ?_⟩
          · exact (box_new _ _ _ _ _ _ _ (by simp)).drew
          · exact ((box_new _ _ _ _ _ _ _ rfl).alloc _).drew
          · show Below _ _ _; go_grown
  case rest =>
    obtain ⟨w2, h⟩ : ∃ x, x = wc := ⟨_, rfl⟩
    subst h
    obtain ⟨O, N, rfl, rfl, hON, hO, hN, bO, bN, HB2⟩ := hcut
    have A2 := (BoxAt.mk a0 a1 a2 a3 a4 af).below HB2.out p1
    have R2 := (BoxAt.mk e0 e1 e2 e3 e4 ef).below HB2.out r1
    have D2 := (BoxAt.mk b0 b1 b2 b3 b4 bf).below HB2.out q1
    clear a0 a1 a2 a3 a4 af b0 b1 b2 b3 b4 bf e0 e1 e2 e3 e4 ef
    have X2 : Hid (BoxAt w2 w.heap.size ka va aa ga ta) := A2
    have Y2 : Hid (BoxAt w2 (w.heap.size + 1) ka vb ab gb tb) := D2
    have Z2 : Hid (BoxAt w2 (w.heap.size + 1 + 1) 0 0 0 false ⟨#[]⟩) := R2
    have O2 : Hid (BoxAt w2 O ka va aa ga ta) := bO
    have N2 : Hid (BoxAt w2 N ka vb ab gb tb) := bN
    obtain ⟨a0, a1, a2, a3, a4, af⟩ := A2
    obtain ⟨b0, b1, b2, b3, b4, bf⟩ := D2
    clear R2 bO bN
    go_wp2_with fail
    refine (isNewer_c ka va aa ga ta ka vb ab gb tb _).mono ?_
    rintro e w3 ⟨rfl, hb⟩
    rw [HN.out]
    have hsz := hb.size
    have oL := O2.out.lt
    have nL := N2.out.lt
    have B3 : Hid (Below w.heap.size w w3) := (B1.out.trans (HB2.out.mono B1.out.size)).trans (hb.mono (by omega))
    obtain ⟨a0, a1, a2, a3, a4, af⟩ := X2.out.below hb X2.out.lt
    obtain ⟨b0, b1, b2, b3, b4, bf⟩ := Y2.out.below hb Y2.out.lt
    obtain ⟨e0, e1, e2, e3, e4, ef⟩ := Z2.out.below hb Z2.out.lt
    obtain ⟨o0, o1, o2, o3, o4, of⟩ := O2.out.below hb O2.out.lt
    obtain ⟨n0, n1, n2, n3, n4, nf⟩ := N2.out.below hb N2.out.lt
    clear hb
    have g1 : ¬ O = N := hON
    have g2 : ¬ N = O := fun h => hON h.symm
    have fO0 : ¬ O = w.heap.size := by omega
    have kO0 : ¬ w.heap.size = O := by omega
    have fO1 : ¬ O = w.heap.size + 1 := by omega
    have kO1 : ¬ w.heap.size + 1 = O := by omega
    have fO2 : ¬ O = w.heap.size + 1 + 1 := by omega
    have kO2 : ¬ w.heap.size + 1 + 1 = O := by omega
    have fN0 : ¬ N = w.heap.size := by omega
    have kN0 : ¬ w.heap.size = N := by omega
    have fN1 : ¬ N = w.heap.size + 1 := by omega
    have kN1 : ¬ w.heap.size + 1 = N := by omega
    have fN2 : ¬ N = w.heap.size + 1 + 1 := by omega
    have kN2 : ¬ w.heap.size + 1 + 1 = N := by omega
    cases nb
    · go_wp2_with fail
      obtain ⟨cb, HC⟩ : ∃ b, Hid (clashB va aa ga ta vb gb tb = b) := ⟨_, rfl⟩
      refine (clash_c ka va aa ga ta ka vb ab gb tb _).mono ?_
      rintro e w4 ⟨rfl, hb⟩
      rw [HC.out]
      have B4 : Hid (Below w.heap.size w w4) := B3.out.trans (hb.mono B3.out.size)
      obtain ⟨n0, n1, n2, n3, n4, nf⟩ := BoxAt.below (BoxAt.mk n0 n1 n2 n3 n4 nf) hb (BoxAt.mk n0 n1 n2 n3 n4 nf).lt
      obtain ⟨e0, e1, e2, e3, e4, ef⟩ := BoxAt.below (BoxAt.mk e0 e1 e2 e3 e4 ef) hb (BoxAt.mk e0 e1 e2 e3 e4 ef).lt
      clear hb
      cases cb
      · go_wp2_with fail
        refine bodyPost_ret (v := .tuple #[.agg #[.int .i64 ka, .int .i64 vb, .int .i64 ab, .bool gb, .string tb], .nilIface]) (by simp [results, Tryz.results119, go_sem, e0, e1, e2, e3, e4]) rfl ?_
        refine ⟨by rw [← HE.out, HJ.out, HN.out, HC.out]; rfl, ?_⟩
        have hb := B4.out
        go_grown
      · go_wp2_with fail
        refine bodyPost_ret (v := .tuple #[.agg #[.int .i64 0, .int .i64 0, .int .i64 0, .bool false, .string ⟨#[]⟩], .iface 85 (.int .i64 7)]) (by simp [results, Tryz.results119, go_sem, e0, e1, e2, e3, e4]) rfl ?_
        refine ⟨by rw [← HE.out, HJ.out, HN.out, HC.out]; rfl, ?_⟩
        have hb := B4.out
        go_grown
    · go_upto_region 8 with fail
      go_cut [7] (fun v7 wc => v7 = .pointer (some ⟨O, 0, none⟩) ∧ BoxAt wc O ka vb ab gb tb ∧ BoxAt wc N ka va aa ga ta ∧ BoxAt wc (w.heap.size + 1 + 1) 0 0 0 false ⟨#[]⟩ ∧ Hid (Below w.heap.size w wc))
      case first =>
        go_region
        go_wp2_with fail
        go_meet
        case rel =>
          have t1 := (((BoxAt.mk o0 o1 o2 o3 o4 of).set ka vb ab gb tb).other g1 (.int .i64 ka) (.int .i64 va) (.int .i64 aa) (.bool ga) (.string ta)).drew
          have t2 := (((BoxAt.mk n0 n1 n2 n3 n4 nf).other g2 (.int .i64 ka) (.int .i64 vb) (.int .i64 ab) (.bool gb) (.string tb)).set ka va aa ga ta).drew
          have t3 := (((BoxAt.mk e0 e1 e2 e3 e4 ef).other kO2 (.int .i64 ka) (.int .i64 vb) (.int .i64 ab) (.bool gb) (.string tb)).other kN2 (.int .i64 ka) (.int .i64 va) (.int .i64 aa) (.bool ga) (.string ta)).drew
          refine ⟨rfl, t1, t2, t3, ?_⟩
          have hb := B3.out
          have hO1 : w.heap.size ≤ O := by omega
          have hN1 : w.heap.size ≤ N := by omega
          show Below _ _ _
          exact ((((((((((hb.setCell hO1 _).setCell hO1 _).setCell hO1 _).setCell hO1 _).setCell hO1 _).setCell hN1 _).setCell hN1 _).setCell hN1 _).setCell hN1 _).setCell hN1 _).drew
      case rest =>
        obtain ⟨w5, h⟩ : ∃ x, x = wc := ⟨_, rfl⟩
        subst h
        obtain ⟨rfl, bO, bN, bR, B5⟩ := hcut
        have hN5 : Hid (BoxAt w5 N ka va aa ga ta) := bN
        have hR5 : Hid (BoxAt w5 (w.heap.size + 1 + 1) 0 0 0 false ⟨#[]⟩) := bR
        clear a0 a1 a2 a3 a4 af b0 b1 b2 b3 b4 bf e0 e1 e2 e3 e4 ef o0 o1 o2 o3 o4 of n0 n1 n2 n3 n4 nf bR
        obtain ⟨o0, o1, o2, o3, o4, of⟩ := bO
        obtain ⟨n0, n1, n2, n3, n4, nf⟩ := bN
        go_wp2_with fail
        obtain ⟨cb, HC⟩ : ∃ b, Hid (clashB vb ab gb tb va ga ta = b) := ⟨_, rfl⟩
        refine (clash_c ka vb ab gb tb ka va aa ga ta _).mono ?_
        rintro e w4 ⟨rfl, hb⟩
        rw [HC.out]
        have B4 : Hid (Below w.heap.size w w4) := B5.out.trans (hb.mono B5.out.size)
        obtain ⟨n0, n1, n2, n3, n4, nf⟩ := BoxAt.below (hN5.out) hb (hN5.out).lt
        obtain ⟨e0, e1, e2, e3, e4, ef⟩ := BoxAt.below (hR5.out) hb (hR5.out).lt
        clear hb
        cases cb
        · go_wp2_with fail
          refine bodyPost_ret (v := .tuple #[.agg #[.int .i64 ka, .int .i64 va, .int .i64 aa, .bool ga, .string ta], .nilIface]) (by simp [results, Tryz.results119, go_sem, e0, e1, e2, e3, e4]) rfl ?_
          refine ⟨by rw [← HE.out, HJ.out, HN.out, HC.out]; rfl, ?_⟩
          have hb := B4.out
          go_grown
        · go_wp2_with fail
          refine bodyPost_ret (v := .tuple #[.agg #[.int .i64 0, .int .i64 0, .int .i64 0, .bool false, .string ⟨#[]⟩], .iface 85 (.int .i64 7)]) (by simp [results, Tryz.results119, go_sem, e0, e1, e2, e3, e4]) rfl ?_
          refine ⟨by rw [← HE.out, HJ.out, HN.out, HC.out]; rfl, ?_⟩
          have hb := B4.out
          go_grown
end Go.Proofs.YtpcnfoaoajfhlaaGreatDoor

namespace Go.Proofs.YtpcnfoaoajfhlaaGreatDoor
set_option linter.unusedVariables false
set_option linter.unusedSimpArgs false
open Go.RowKit
theorem join_c (ka va aa : Int) (ga : Bool) (ta : ByteArray) (kb vb ab : Int) (gb : Bool) (tb : ByteArray) (w : World) :
    Calls Tryz.prog 119 #[.agg #[.int .i64 ka, .int .i64 va, .int .i64 aa, .bool ga, .string ta], .agg #[.int .i64 kb, .int .i64 vb, .int .i64 ab, .bool gb, .string tb]] w fun e w' => e = .returned (.tuple #[(joinE ⟨ka, va, aa, ga, ta⟩ ⟨kb, vb, ab, gb, tb⟩).1.val, eV (joinE ⟨ka, va, aa, ga, ta⟩ ⟨kb, vb, ab, gb, tb⟩).2]) ∧ Below w.heap.size w w' := by
  by_cases h : bad2 (bad ka va aa ga ta) (bad kb vb ab gb tb) = 0
  · by_cases hk : ka = kb
    · exact join_same ka va aa ga ta kb vb ab gb tb w h hk
    · refine (join_key ka va aa ga ta kb vb ab gb tb w h hk).mono ?_
      rintro e w' ⟨rfl, hb⟩
      refine ⟨?_, hb⟩
      have hj : joinE ⟨ka, va, aa, ga, ta⟩ ⟨kb, vb, ab, gb, tb⟩ = (⟨0, 0, 0, false, ⟨#[]⟩⟩, 3) := by
        unfold joinE
        rw [if_neg (by simpa using h), if_pos hk]
      rw [hj]
      rfl
  · refine (join_bad ka va aa ga ta kb vb ab gb tb w _ h rfl).mono ?_
    rintro e w' ⟨rfl, hb⟩
    refine ⟨?_, hb⟩
    have hj : joinE ⟨ka, va, aa, ga, ta⟩ ⟨kb, vb, ab, gb, tb⟩ = (⟨0, 0, 0, false, ⟨#[]⟩⟩, bad2 (bad ka va aa ga ta) (bad kb vb ab gb tb)) := by
      unfold joinE
      rw [if_pos h]
    rw [hj]
    show _ = Ending.returned (.tuple #[_, eV (bad2 (bad ka va aa ga ta) (bad kb vb ab gb tb))])
    rw [eV, if_neg h]
    rfl
/-- the result of Join, written out -/
theorem join_o {ka va aa : Int} {ga : Bool} {ta : ByteArray} {kb vb ab : Int} {gb : Bool} {tb : ByteArray} {k v a : Int} {g : Bool} {t : ByteArray} {n : Int} (h : joinE ⟨ka, va, aa, ga, ta⟩ ⟨kb, vb, ab, gb, tb⟩ = (⟨k, v, a, g, t⟩, n)) (w : World) :
    Calls Tryz.prog 119 #[.agg #[.int .i64 ka, .int .i64 va, .int .i64 aa, .bool ga, .string ta], .agg #[.int .i64 kb, .int .i64 vb, .int .i64 ab, .bool gb, .string tb]] w fun e w' => e = .returned (.tuple #[.agg #[.int .i64 k, .int .i64 v, .int .i64 a, .bool g, .string t], eV n]) ∧ Below w.heap.size w w' := by
  have c := join_c ka va aa ga ta kb vb ab gb tb w
  rw [h] at c
  exact c
theorem join_ok {ka va aa : Int} {ga : Bool} {ta : ByteArray} {kb vb ab : Int} {gb : Bool} {tb : ByteArray} {k v a : Int} {g : Bool} {t : ByteArray} (h : joinE ⟨ka, va, aa, ga, ta⟩ ⟨kb, vb, ab, gb, tb⟩ = (⟨k, v, a, g, t⟩, 0)) (w : World) :
    Calls Tryz.prog 119 #[.agg #[.int .i64 ka, .int .i64 va, .int .i64 aa, .bool ga, .string ta], .agg #[.int .i64 kb, .int .i64 vb, .int .i64 ab, .bool gb, .string tb]] w fun e w' => e = .returned (.tuple #[.agg #[.int .i64 k, .int .i64 v, .int .i64 a, .bool g, .string t], .nilIface]) ∧ Below w.heap.size w w' :=
  join_o h w
theorem join_err {ka va aa : Int} {ga : Bool} {ta : ByteArray} {kb vb ab : Int} {gb : Bool} {tb : ByteArray} {k v a : Int} {g : Bool} {t : ByteArray} {n : Int} (h : joinE ⟨ka, va, aa, ga, ta⟩ ⟨kb, vb, ab, gb, tb⟩ = (⟨k, v, a, g, t⟩, n)) (hn : n ≠ 0) (w : World) :
    Calls Tryz.prog 119 #[.agg #[.int .i64 ka, .int .i64 va, .int .i64 aa, .bool ga, .string ta], .agg #[.int .i64 kb, .int .i64 vb, .int .i64 ab, .bool gb, .string tb]] w fun e w' => e = .returned (.tuple #[.agg #[.int .i64 k, .int .i64 v, .int .i64 a, .bool g, .string t], .iface 85 (.int .i64 n)]) ∧ Below w.heap.size w w' := by
  have c := join_o h w
  rw [eV, if_neg hn] at c
  exact c
/-- two entries with the same cells -/
def En.same (x y : En) : Bool := (x.k == y.k) && ((x.v == y.v) && ((x.a == y.a) && ((x.g == y.g) && (x.t.toList == y.t.toList))))
theorem eql_enIn (x y : En) (w : World) : (Op.equalIn 10000 46 x.val y.val).run Tryz.prog w = .ok (x.same y) w := by
  unfold En.val
  rw [run_equalIn_agg w 9999 46 _ _ (by kernel_rfl) (by kernel_rfl)]
  simp [Op.eqFields, Program.fieldsOf, Tryz.underlying46, go_sem, Tryz.underlying3, Tryz.underlying4, Tryz.underlying9, En.same]
  by_cases h0 : x.k = y.k <;> by_cases h1 : x.v = y.v <;> by_cases h2 : x.a = y.a <;> by_cases h3 : x.g = y.g <;> by_cases h4 : x.t.toList = y.t.toList <;> simp [h0, h1, h2, h3, h4]
theorem eql_en (x y : En) (w : World) : (binOp .eql 46 x.val y.val).run Tryz.prog w = .ok (.bool (x.same y)) w := by
  have h := eql_enIn x y w
  unfold En.val at h ⊢
  rw [run_eql_struct, h]
  rfl
theorem En.same_self (x : En) : x.same x = true := by simp [En.same]
theorem eql_cells (x0 x1 x2 : Int) (x3 : Bool) (x4 : ByteArray) (w : World) : (binOp .eql 46 (.agg #[.int .i64 x0, .int .i64 x1, .int .i64 x2, .bool x3, .string x4]) (.agg #[.int .i64 x0, .int .i64 x1, .int .i64 x2, .bool x3, .string x4])).run Tryz.prog w = .ok (.bool true) w := by
  have h := eql_en ⟨x0, x1, x2, x3, x4⟩ ⟨x0, x1, x2, x3, x4⟩ w
  rw [En.same_self] at h
  exact h
theorem eqlIn_cells (x0 x1 x2 : Int) (x3 : Bool) (x4 : ByteArray) (w : World) : (Op.equalIn 10000 46 (.agg #[.int .i64 x0, .int .i64 x1, .int .i64 x2, .bool x3, .string x4]) (.agg #[.int .i64 x0, .int .i64 x1, .int .i64 x2, .bool x3, .string x4])).run Tryz.prog w = .ok true w := by
  have h := eql_enIn ⟨x0, x1, x2, x3, x4⟩ ⟨x0, x1, x2, x3, x4⟩ w
  rw [En.same_self] at h
  exact h
theorem eqGuard_en : Tryz.prog.eqGuardType Tryz.prog.depth 46 = false := by kernel_rfl
end Go.Proofs.YtpcnfoaoajfhlaaGreatDoor
