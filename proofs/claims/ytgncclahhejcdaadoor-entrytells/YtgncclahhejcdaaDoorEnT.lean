/-
  Package entry by its contracts: True.
-/
import Derived.Test.YtgncclahhejcdaaDoorEn2
namespace Go.Proofs.YtgncclahhejcdaaDoor
set_option linter.unusedVariables false
set_option linter.unusedSimpArgs false
open Go.RowKit
set_option maxHeartbeats 4000000 in
theorem true_bad {k v a : Int} {g : Bool} {t : ByteArray} {n : Int} (s : Int) (h : bad k v a g t = n) (hn : n ≠ 0) (w : World) :
    Calls Tryd.prog 23 #[.agg #[.int .i64 k, .int .i64 v, .int .i64 a, .bool g, .string t], .int .i64 s] w fun e w' => e = .returned (.tuple #[.bool false, .iface 67 (.int .i64 n)]) ∧ Below w.heap.size w w' := by
  have H : Hid (bad k v a g t = n) := h
  clear h
  go_enter Tryd.func23, Tryd.ntmps23
  go_wp2_with fail
  refine (check_err H.out hn _).mono ?_
  rintro e w1 ⟨rfl, hb⟩
  have B1 : Hid (Below w.heap.size w w1) := Below.trans (by go_grown) (hb.mono (by simp))
  obtain ⟨a0, a1, a2, a3, a4, af⟩ := (box_new w k v a g t w.heap.size rfl).below hb (by simp)
  clear hb
  go_wp2_with fail
  go_ret2
  exact ⟨rfl, B1.out⟩
theorem true_seq {k v a : Int} {g : Bool} {t : ByteArray} {s : Int} (h : bad k v a g t = 0) (hs : inR s 0 1000 = false) (w : World) :
    Calls Tryd.prog 23 #[.agg #[.int .i64 k, .int .i64 v, .int .i64 a, .bool g, .string t], .int .i64 s] w fun e w' => e = .returned (.tuple #[.bool false, .iface 67 (.int .i64 1)]) ∧ Below w.heap.size w w' := by
  have H : Hid (bad k v a g t = 0) := h
  have HS : Hid (inR s 0 1000 = false) := hs
  clear h hs
  go_enter Tryd.func23, Tryd.ntmps23
  go_wp2_with fail
  refine (check_ok H.out _).mono ?_
  rintro e w1 ⟨rfl, hb⟩
  have B1 : Hid (Below w.heap.size w w1) := Below.trans (by go_grown) (hb.mono (by simp))
  obtain ⟨a0, a1, a2, a3, a4, af⟩ := (box_new w k v a g t w.heap.size rfl).below hb (by simp)
  clear hb
  go_wp2_with (go_at_call 31; refine (within_c _ _ _ _).mono ?_; rintro e w' ⟨rfl, rfl⟩; rw [HS.out])
  go_ret2
  exact ⟨rfl, B1.out⟩
theorem true_ok {k v a : Int} {g : Bool} {t : ByteArray} {s : Int} {b : Bool} (h : bad k v a g t = 0) (hs : inR s 0 1000 = true) (hb : inR s v a = b) (w : World) :
    Calls Tryd.prog 23 #[.agg #[.int .i64 k, .int .i64 v, .int .i64 a, .bool g, .string t], .int .i64 s] w fun e w' => e = .returned (.tuple #[.bool b, .nilIface]) ∧ Below w.heap.size w w' := by
  have H : Hid (bad k v a g t = 0) := h
  have HS : Hid (inR s 0 1000 = true) := hs
  have HV : Hid (inR s v a = b) := hb
  clear h hs hb
  go_enter Tryd.func23, Tryd.ntmps23
  go_wp2_with fail
  refine (check_ok H.out _).mono ?_
  rintro e w1 ⟨rfl, hb⟩
  have B1 : Hid (Below w.heap.size w w1) := Below.trans (by go_grown) (hb.mono (by simp))
  obtain ⟨a0, a1, a2, a3, a4, af⟩ := (box_new w k v a g t w.heap.size rfl).below hb (by simp)
  clear hb
  go_wp2_with (go_at_call 31; refine (within_c _ _ _ _).mono ?_; rintro e w' ⟨rfl, rfl⟩; first | rw [HS.out] | rw [HV.out])
  go_ret2
  exact ⟨rfl, B1.out⟩
end Go.Proofs.YtgncclahhejcdaaDoor
