/-
  Package entry by its contracts: what is wrong with an entry, what two entries know, whether one is true at a number. Nothing old in memory turns.
-/
import Derived.Test.YtpcnfoaoajfhlaaDoorRows
import Derived.WalkKit
import Derived.Laws.StructEq
import Derived.Deep.DeepCutAuto
import Derived.Deep.CutBlock
import Derived.Deep.LoopGhost
import Derived.ProofKit
import Derived.OpenShut
import Derived.Handy
import Derived.WalkSmall
namespace Go.Proofs.YtpcnfoaoajfhlaaDoor
set_option linter.unusedVariables false
set_option linter.unusedSimpArgs false
open Go.RowKit

/-- an entry -/
structure En where
  k : Int
  v : Int
  a : Int
  g : Bool
  t : ByteArray
def En.val (e : En) : Value := .agg #[.int .i64 e.k, .int .i64 e.v, .int .i64 e.a, .bool e.g, .string e.t]
def inR (n lo hi : Int) : Bool := decide (lo ≤ n) && decide (n ≤ hi)
/-- what is wrong with an entry: 0, nothing -/
def bad (k v a : Int) (g : Bool) (t : ByteArray) : Int :=
  if (inR k 0 7 && inR v 0 1000 && inR a v 1000) = false then 1 else if 12 < (t.size : Int) then 4 else if (g && !t.toList.isEmpty) = true then 3 else 0
/-- an error's value: 0, none -/
def eV (n : Int) : Value := if n = 0 then .nilIface else .iface 71 (.int .i64 n)

theorem within_c (n lo hi : Int) (w : World) : Calls Tryd.prog 84 #[.int .i64 n, .int .i64 lo, .int .i64 hi] w fun e w' => e = .returned (.bool (inR n lo hi)) ∧ w' = w := by
  go_enter Tryd.func84, Tryd.ntmps84
  go_wp2_with fail
  · go_ret
    refine ⟨?_, rfl⟩
    rename_i h
    simp [inR, h]
  · go_ret
    refine ⟨?_, rfl⟩
    rename_i h
    have h2 : ¬ lo ≤ n := by omega
    simp [inR, h2]
theorem within_b (n lo hi : Int) (b : Bool) (w : World) (hb : inR n lo hi = b) : Calls Tryd.prog 84 #[.int .i64 n, .int .i64 lo, .int .i64 hi] w fun e w' => e = .returned (.bool b) ∧ w' = w := by
  subst hb
  exact within_c n lo hi w
theorem bad_ver {k v a : Int} {g : Bool} {t : ByteArray} (h : (inR k 0 7 && inR v 0 1000 && inR a v 1000) = false) : bad k v a g t = 1 := by
  unfold bad
  rw [if_pos h]
theorem bad_full {k v a : Int} {g : Bool} {t : ByteArray} (h : (inR k 0 7 && inR v 0 1000 && inR a v 1000) = true) (h2 : 12 < (t.size : Int)) : bad k v a g t = 4 := by
  unfold bad
  rw [if_neg (by simp [h]), if_pos h2]
theorem bad_shape {k v a : Int} {g : Bool} {t : ByteArray} (h : (inR k 0 7 && inR v 0 1000 && inR a v 1000) = true) (h2 : ¬ 12 < (t.size : Int)) (h3 : (g && !t.toList.isEmpty) = true) : bad k v a g t = 3 := by
  unfold bad
  rw [if_neg (by simp [h]), if_neg h2, if_pos h3]
theorem bad_none {k v a : Int} {g : Bool} {t : ByteArray} (h : (inR k 0 7 && inR v 0 1000 && inR a v 1000) = true) (h2 : ¬ 12 < (t.size : Int)) (h3 : (g && !t.toList.isEmpty) = false) : bad k v a g t = 0 := by
  unfold bad
  rw [if_neg (by simp [h]), if_neg h2, if_neg (by rw [h3]; simp)]
set_option maxHeartbeats 4000000 in
theorem check_c (k v a : Int) (g : Bool) (t : ByteArray) (w : World) :
    Calls Tryd.prog 67 #[.agg #[.int .i64 k, .int .i64 v, .int .i64 a, .bool g, .string t]] w fun e w' => e = .returned (eV (bad k v a g t)) ∧ Below w.heap.size w w' := by
  obtain ⟨b0, H0⟩ : ∃ b, Hid (inR k 0 7 = b) := ⟨_, rfl⟩
  obtain ⟨b1, H1⟩ : ∃ b, Hid (inR v 0 1000 = b) := ⟨_, rfl⟩
  obtain ⟨b2, H2⟩ : ∃ b, Hid (inR a v 1000 = b) := ⟨_, rfl⟩
  cases b0
  · rw [bad_ver (by rw [H0.out]; rfl)]
    go_enter Tryd.func67, Tryd.ntmps67
    go_wp2_with (go_at_call 84; refine (within_c _ _ _ _).mono ?_; rintro e w' ⟨rfl, rfl⟩; first | rw [H0.out] | rw [H1.out] | rw [H2.out])
    go_ret
    exact ⟨rfl, by go_grown⟩
  cases b1
  · rw [bad_ver (by rw [H0.out, H1.out]; rfl)]
    go_enter Tryd.func67, Tryd.ntmps67
    go_wp2_with (go_at_call 84; refine (within_c _ _ _ _).mono ?_; rintro e w' ⟨rfl, rfl⟩; first | rw [H0.out] | rw [H1.out] | rw [H2.out])
    go_ret
    exact ⟨rfl, by go_grown⟩
  cases b2
  · rw [bad_ver (by rw [H0.out, H1.out, H2.out]; rfl)]
    go_enter Tryd.func67, Tryd.ntmps67
    go_wp2_with (go_at_call 84; refine (within_c _ _ _ _).mono ?_; rintro e w' ⟨rfl, rfl⟩; first | rw [H0.out] | rw [H1.out] | rw [H2.out])
    go_ret
    exact ⟨rfl, by go_grown⟩
  have HR : Hid ((inR k 0 7 && inR v 0 1000 && inR a v 1000) = true) := by rw [H0.out, H1.out, H2.out]; rfl
  by_cases h2 : 12 < (t.size : Int)
  · rw [bad_full HR.out h2]
    go_enter Tryd.func67, Tryd.ntmps67
    go_wp2_with (go_at_call 84; refine (within_c _ _ _ _).mono ?_; rintro e w' ⟨rfl, rfl⟩; first | rw [H0.out] | rw [H1.out] | rw [H2.out])
    go_ret
    exact ⟨rfl, by go_grown⟩
  cases g
  · rw [bad_none HR.out h2 rfl]
    go_enter Tryd.func67, Tryd.ntmps67
    go_wp2_with (go_at_call 84; refine (within_c _ _ _ _).mono ?_; rintro e w' ⟨rfl, rfl⟩; first | rw [H0.out] | rw [H1.out] | rw [H2.out])
    go_ret
    exact ⟨rfl, by go_grown⟩
  · obtain ⟨B, HB⟩ : ∃ B, Hid (bad k v a true t = B) := ⟨_, rfl⟩
    rw [HB.out]
    go_enter Tryd.func67, Tryd.ntmps67
    go_wp2_with (go_at_call 84; refine (within_c _ _ _ _).mono ?_; rintro e w' ⟨rfl, rfl⟩; first | rw [H0.out] | rw [H1.out] | rw [H2.out])
    · rename_i hx
      go_ret
      refine ⟨?_, by go_grown⟩
      rw [← HB.out, bad_shape HR.out (by omega) (by simpa using hx)]
      rfl
    · rename_i hx
      go_ret
      refine ⟨?_, by go_grown⟩
      rw [← HB.out, bad_none HR.out (by omega) (by simpa using hx)]
      rfl
end Go.Proofs.YtpcnfoaoajfhlaaDoor
