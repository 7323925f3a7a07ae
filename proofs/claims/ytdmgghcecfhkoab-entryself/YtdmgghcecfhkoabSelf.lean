/-
  The walk of merelaw4.EntrySelf: an entry with itself is itself.
-/
import Derived.Test.YtdmgghcecfhkoabEn4
import Derived.Test.YtdmgghcecfhkoabEnT
namespace Go.Proofs.Ytdmgghcecfhkoab.entrySelf
set_option linter.unusedVariables false
set_option linter.unusedSimpArgs false
open Go.RowKit
theorem joinE_self {k v a : Int} {g : Bool} {t : ByteArray} (h : bad k v a g t = 0) : joinE ⟨k, v, a, g, t⟩ ⟨k, v, a, g, t⟩ = (⟨k, v, a, g, t⟩, 0) := by
  unfold joinE
  rw [if_neg (by simp [bad2, h]), if_neg (by simp), if_neg (by simp [newerB]), if_neg (by simp [clashB])]
theorem joinE_bad {k v a : Int} {g : Bool} {t : ByteArray} {n : Int} (h : bad k v a g t = n) (hn : n ≠ 0) : joinE ⟨k, v, a, g, t⟩ ⟨k, v, a, g, t⟩ = (⟨0, 0, 0, false, ⟨#[]⟩⟩, n) := by
  unfold joinE
  have e : bad2 (bad k v a g t) (bad k v a g t) = n := by simp [bad2, h]
  rw [if_pos (by rw [e]; exact hn)]
  rw [e]
theorem bad_zero {k v a : Int} {g : Bool} {t : ByteArray} (h : bad k v a g t = 0) : inR k 0 7 = true ∧ inR v 0 1000 = true ∧ inR a v 1000 = true := by
  by_cases hx : (inR k 0 7 && inR v 0 1000 && inR a v 1000) = false
  · rw [bad_ver hx] at h
    exact absurd h (by decide)
  · simpa [and_assoc] using hx
set_option maxHeartbeats 4000000 in
theorem walk (k v a : Int) (g : Bool) (t : ByteArray) (w : World) :
    Calls Try.prog 3 #[.agg #[.int .i64 k, .int .i64 v, .int .i64 a, .bool g, .string t]] w fun e w' => e = .returned (.bool true) ∧ Below w.heap.size w w' := by
  obtain ⟨n, H⟩ : ∃ n, Hid (bad k v a g t = n) := ⟨_, rfl⟩
  by_cases hn : n = 0
  · subst hn
    have HS := bad_zero H.out
    have h1 : Hid (inR v 0 1000 = true) := HS.2.1
    have h2 : Hid (inR a 0 1000 = true) := by
      have p1 := HS.2.1; have p2 := HS.2.2
      show inR a 0 1000 = true
      simp [inR] at *
      omega
    have h3 : Hid (inR v v a = true) := by
      have := HS.2.2
      show inR v v a = true
      simp [inR] at *
      omega
    have h4 : Hid (inR a v a = true) := by
      have := HS.2.2
      show inR a v a = true
      simp [inR] at *
      omega
    clear HS
    go_enter Try.func3, Try.ntmps3
    go_wp2_with fail
    refine (join_ok (joinE_self H.out) _).mono ?_
    rintro e w1 ⟨rfl, hb⟩
    have B1 : Hid (Below w.heap.size w w1) := Below.trans (by go_grown) (hb.mono (by simp))
    obtain ⟨a0, a1, a2, a3, a4, af⟩ := (box_new w k v a g t w.heap.size rfl).below hb (by simp)
    have z1 : w.heap.size < w1.heap.size := by have := hb.size; simp at this; omega
    have z2 : ¬ w.heap.size = w1.heap.size := by omega
    have E1 : Hid (BoxAt w1 w.heap.size k v a g t) := ⟨a0, a1, a2, a3, a4, af⟩
    clear hb
    go_wp2_with fail
    refine (true_ok H.out h1.out h3.out _).mono ?_
    rintro e w2 ⟨rfl, hb⟩
    have B2 : Hid (Below w.heap.size w w2) := (B1.out.alloc B1.out.size _).trans (hb.mono (by simp; omega))
    have hs := hb.size
    have E2 : Hid (BoxAt w2 w.heap.size k v a g t) := (E1.out.alloc _).below hb (by simp; omega)
    have X2 : Hid (BoxAt w2 w1.heap.size k v a g t) := (box_new w1 k v a g t _ rfl).below hb (by simp)
    clear hb a0 a1 a2 a3 a4 af hs
    obtain ⟨a0, a1, a2, a3, a4, af⟩ := E2.out
    go_wp2_with fail
    refine (true_ok H.out h2.out h4.out _).mono ?_
    rintro e w3 ⟨rfl, hb⟩
    have B3 : Hid (Below w.heap.size w w3) := B2.out.trans (hb.mono B2.out.size)
    clear a0 a1 a2 a3 a4 af
    obtain ⟨a0, a1, a2, a3, a4, af⟩ := E2.out.below hb E2.out.lt
    obtain ⟨x0, x1, x2, x3, x4, xf⟩ := X2.out.below hb X2.out.lt
    clear hb
    have q1 := eql_cells k v a g t
    have q2 := eqlIn_cells k v a g t
    have q3 := eqGuard_en
    go_wp2_with fail
    go_ret
    exact ⟨rfl, B3.out⟩
  · go_enter Try.func3, Try.ntmps3
    go_wp2_with fail
    refine (join_err (joinE_bad H.out hn) hn _).mono ?_
    rintro e w1 ⟨rfl, hb⟩
    have B1 : Hid (Below w.heap.size w w1) := Below.trans (by go_grown) (hb.mono (by simp))
    obtain ⟨a0, a1, a2, a3, a4, af⟩ := (box_new w k v a g t w.heap.size rfl).below hb (by simp)
    have z1 : w.heap.size < w1.heap.size := by have := hb.size; simp at this; omega
    have z2 : ¬ w.heap.size = w1.heap.size := by omega
    clear hb
    go_wp2_with fail
    refine (check_err H.out hn _).mono ?_
    rintro e w2 ⟨rfl, hb⟩
    have B2 : Hid (Below w.heap.size w w2) := (B1.out.alloc B1.out.size _).trans (hb.mono (by simp; omega))
    clear hb
    go_wp2_with fail
    go_ret
    exact ⟨rfl, B2.out⟩
end Go.Proofs.Ytdmgghcecfhkoab.entrySelf
