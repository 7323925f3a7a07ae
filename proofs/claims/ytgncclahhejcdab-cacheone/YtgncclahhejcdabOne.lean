/-
  merelaw4.CacheOne answers true, whatever the entry.
-/
import Derived.Test.YtgncclahhejcdabCaA
namespace Go.Proofs.Ytgncclahhejcdab
set_option linter.unusedVariables false
set_option linter.unusedSimpArgs false
open Go.RowKit Go.Lib

theorem add_o {l : List En} {k vv a : Int} {g : Bool} {t : ByteArray} {R1 : List En} {R2 : Bool} {R3 : Int} (h : cacheAdd l ⟨k, vv, a, g, t⟩ = (R1, R2, R3)) (v : Value) (w : World) (hr : RowIs w v l) :
    Calls Try.prog 13 #[v, .agg #[.int .i64 k, .int .i64 vv, .int .i64 a, .bool g, .string t]] w fun e w' => ∃ v', e = .returned (.tuple #[v', .bool R2, eV R3]) ∧ w'.ownsRow w.heap.size 23 5 v' R1.length (rowC R1) ∧ Below w.heap.size w w' := by
  have c := add_c v l k vv a g t w hr
  rw [h] at c
  exact c
theorem get_o {l : List En} {key k vv a : Int} {g : Bool} {t : ByteArray} {n : Int} (h : cacheGet l key = (⟨k, vv, a, g, t⟩, n)) (v : Value) (w : World) (hr : RowIs w v l) :
    Calls Try.prog 12 #[v, .int .i64 key] w fun e w' => e = .returned (.tuple #[.agg #[.int .i64 k, .int .i64 vv, .int .i64 a, .bool g, .string t], eV n]) ∧ Below w.heap.size w w' := by
  have c := get_c v l key w hr
  rw [h] at c
  exact c

theorem newer_self (e : En) : newerB e.v e.a e.v e.a = false := by simp [newerB]
theorem clash_self (e : En) : clashB e.v e.a e.g e.t e.v e.g e.t = false := by simp [clashB]
theorem join_self {e : En} (h : e.bad = 0) : joinE e e = (e, 0) := by
  have hb : bad e.k e.v e.a e.g e.t = 0 := h
  unfold joinE
  rw [hb, newer_self, clash_self]
  simp [bad2]
theorem bad_one {e : En} (h : e.bad = 0) : badL [e] = 0 := (GoodL.of (List.pairwise_singleton _ _) (by simpa using h)).bad
theorem add_first {e : En} (h : e.bad = 0) : cacheAdd [] e = ([e], true, 0) := by
  rw [cacheAdd, if_neg (by simp [goodL_nil.bad]), if_neg (by simpa using h)]
  simp [putE, getE, placeE]
theorem add_bad {e : En} {n : Int} (h : e.bad = n) (hn : n ≠ 0) : cacheAdd [] e = ([], false, n) := by
  rw [cacheAdd, if_neg (by simp [goodL_nil.bad]), if_pos (by rw [h]; exact hn), h]
theorem getE_one (e : En) : getE [e] e.k = some e := by simp [getE]
theorem add_again {e : En} (h : e.bad = 0) : cacheAdd [e] e = ([e], false, 0) := by
  rw [cacheAdd, if_neg (by simpa using bad_one h), if_neg (by simpa using h)]
  simp [putE, getE_one, join_self h, placeE, En.same_self]
theorem get_one {e : En} (h : e.bad = 0) : cacheGet [e] e.k = (e, 0) := by
  have hk := bad_key h
  have h1 : isKeyB e.k = true := by simp [isKeyB]; omega
  rw [cacheGet, if_neg (by simpa using bad_one h), h1, getE_one]
  rfl

set_option maxHeartbeats 4000000 in
theorem one_walk (k vv a : Int) (g : Bool) (t : ByteArray) (w : World) :
    Calls Try.prog 5 #[.agg #[.int .i64 k, .int .i64 vv, .int .i64 a, .bool g, .string t]] w fun e w' => e = .returned (.bool true) ∧ Below w.heap.size w w' := by
  have HB0 : Hid (Below w.heap.size w (w.alloc (.cells #[.int .i64 k, .int .i64 vv, .int .i64 a, .bool g, .string t] 23))) := by show Below _ _ _; go_grown
  by_cases hm : bad k vv a g t = 0
  · have HM : Hid (En.bad ⟨k, vv, a, g, t⟩ = 0) := hm
    clear hm
    have hgd := eqGuard_en
    have hq := eql_cells k vv a g t
    go_enter Try.func5, Try.ntmps5
    go_wp2_with fail
    refine (add_o (add_first HM.out) _ _ (RowIs.nil _)).mono ?_
    rintro e w1 ⟨v1, rfl, ho, hb⟩
    have ho1 : w1.ownsRow (w.heap.size + 1) 23 5 v1 1 (rowC [⟨k, vv, a, g, t⟩]) := by simpa using ho
    have HO1 : Hid (w1.ownsRow (w.heap.size + 1) 23 5 v1 1 (rowC [⟨k, vv, a, g, t⟩])) := ho1
    clear ho1
    have B1 : Hid (Below w.heap.size w w1) := HB0.out.trans (hb.mono (by simp))
    have E1 : Hid (BoxAt w1 w.heap.size k vv a g t) := (box_new w k vv a g t w.heap.size rfl).below hb (by simp)
    obtain ⟨G1, cap1, hv1, _⟩ := ho.form (by simp)
    simp at hv1
    subst hv1
    obtain ⟨a0, a1, a2, a3, a4, af⟩ := E1.out
    clear hb ho
    rw [eV, if_pos rfl]
    go_wp2_with fail
    refine (add_o (add_again HM.out) _ _ (RowIs.own (l := [⟨k, vv, a, g, t⟩]) HO1.out)).mono ?_
    rintro e w2 ⟨v2, rfl, ho, hb⟩
    have ho2 : w2.ownsRow w1.heap.size 23 5 v2 1 (rowC [⟨k, vv, a, g, t⟩]) := by simpa using ho
    have HO2 : Hid (w2.ownsRow w1.heap.size 23 5 v2 1 (rowC [⟨k, vv, a, g, t⟩])) := ho2
    clear ho2
    have B2 : Hid (Below w.heap.size w w2) := B1.out.trans (hb.mono B1.out.size)
    have E2 : Hid (BoxAt w2 w.heap.size k vv a g t) := E1.out.below hb E1.out.lt
    obtain ⟨G2, cap2, hv2, _⟩ := ho.form (by simp)
    simp at hv2
    subst hv2
    clear hb ho a0 a1 a2 a3 a4 af
    obtain ⟨a0, a1, a2, a3, a4, af⟩ := E2.out
    rw [eV, if_pos rfl]
    go_wp2_with fail
    refine (get_o (get_one HM.out) _ _ (RowIs.own (l := [⟨k, vv, a, g, t⟩]) HO2.out)).mono ?_
    rintro e w3 ⟨rfl, hb⟩
    have B3 : Hid (Below w.heap.size w w3) := B2.out.trans (hb.mono B2.out.size)
    have E3 : Hid (BoxAt w3 w.heap.size k vv a g t) := E2.out.below hb E2.out.lt
    have hs3 : w.heap.size < w3.heap.size := E3.out.lt
    have p1 : ¬ w.heap.size = w3.heap.size := by omega
    clear hb a0 a1 a2 a3 a4 af
    obtain ⟨a0, a1, a2, a3, a4, af⟩ := E3.out
    rw [eV, if_pos rfl]
    go_wp2_with fail
    go_ret
    refine ⟨rfl, ?_⟩
    have hb := B3.out
    go_grown
  · obtain ⟨m, HM⟩ : ∃ m, Hid (En.bad ⟨k, vv, a, g, t⟩ = m) := ⟨_, rfl⟩
    have hm0 : m ≠ 0 := by rw [← HM.out]; exact hm
    clear hm
    go_enter Try.func5, Try.ntmps5
    go_wp2_with fail
    refine (add_o (add_bad HM.out hm0) _ _ (RowIs.nil _)).mono ?_
    rintro e w1 ⟨v1, rfl, ho, hb⟩
    have B1 : Hid (Below w.heap.size w w1) := HB0.out.trans (hb.mono (by simp))
    obtain ⟨a0, a1, a2, a3, a4, af⟩ := (box_new w k vv a g t w.heap.size rfl).below hb (by simp)
    clear hb ho
    rw [eV, if_neg hm0]
    go_wp2_with fail
    refine (check_err HM.out hm0 _).mono ?_
    rintro e w2 ⟨rfl, hb⟩
    have B2 : Hid (Below w.heap.size w w2) := B1.out.trans (hb.mono B1.out.size)
    clear hb
    go_wp2_with fail
    go_ret
    exact ⟨rfl, B2.out⟩
end Go.Proofs.Ytgncclahhejcdab
