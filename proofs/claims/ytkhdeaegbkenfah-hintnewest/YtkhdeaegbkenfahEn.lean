/-
  Package entry by its contracts: what is wrong with an entry, what two entries know, whether one is true at a number. Nothing old in memory turns.
-/
import Derived.Test.YtkhdeaegbkenfahRows
import Derived.WalkKit
import Derived.Laws.StructEq
import Derived.Deep.DeepCutAuto
import Derived.Deep.CutBlock
import Derived.Deep.LoopGhost
import Derived.ProofKit
import Derived.OpenShut
import Derived.Handy
import Derived.WalkSmall
namespace Go.Proofs.Ytkhdeaegbkenfah
set_option linter.unusedVariables false
set_option linter.unusedSimpArgs false
open Go.RowKit

/-- an entry -/
structure En where
  k : Int
  v : Int
  a : Int
  g : Bool
  t : ByteArray
def En.val (e : En) : Value := .agg #[.int .i64 e.k, .int .i64 e.v, .int .i64 e.a, .bool e.g, .string e.t]
def inR (n lo hi : Int) : Bool := decide (lo ≤ n) && decide (n ≤ hi)
/-- what is wrong with an entry: 0, nothing -/
def bad (k v a : Int) (g : Bool) (t : ByteArray) : Int :=
  if (inR k 0 7 && inR v 0 1000 && inR a v 1000) = false then 1 else if 12 < (t.size : Int) then 4 else if (g && !t.toList.isEmpty) = true then 3 else 0
/-- an error's value: 0, none -/
def eV (n : Int) : Value := if n = 0 then .nilIface else .iface 49 (.int .i64 n)

theorem bad_ver {k v a : Int} {g : Bool} {t : ByteArray} (h : (inR k 0 7 && inR v 0 1000 && inR a v 1000) = false) : bad k v a g t = 1 := by
  unfold bad
  rw [if_pos h]
theorem bad_full {k v a : Int} {g : Bool} {t : ByteArray} (h : (inR k 0 7 && inR v 0 1000 && inR a v 1000) = true) (h2 : 12 < (t.size : Int)) : bad k v a g t = 4 := by
  unfold bad
  rw [if_neg (by simp [h]), if_pos h2]
theorem bad_shape {k v a : Int} {g : Bool} {t : ByteArray} (h : (inR k 0 7 && inR v 0 1000 && inR a v 1000) = true) (h2 : ¬ 12 < (t.size : Int)) (h3 : (g && !t.toList.isEmpty) = true) : bad k v a g t = 3 := by
  unfold bad
  rw [if_neg (by simp [h]), if_neg h2, if_pos h3]
theorem bad_none {k v a : Int} {g : Bool} {t : ByteArray} (h : (inR k 0 7 && inR v 0 1000 && inR a v 1000) = true) (h2 : ¬ 12 < (t.size : Int)) (h3 : (g && !t.toList.isEmpty) = false) : bad k v a g t = 0 := by
  unfold bad
  rw [if_neg (by simp [h]), if_neg h2, if_neg (by rw [h3]; simp)]
end Go.Proofs.Ytkhdeaegbkenfah
