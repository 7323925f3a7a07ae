/-
  What the rows' listed tables give a walk, and a world in which they are so.
-/
import Derived.Test.YtpcnfoaoajfhlaaGreatDoorShf
import Derived.ProofKit
import Derived.OpenShut
import Derived.LaidLaws
import Derived.LaidHandle
import Derived.Lib.LaidTab
import Derived.Deep.DeepHandedRow
import Derived.Stop.Joined
import Derived.ChangeOld
namespace Go.Proofs.YtpcnfoaoajfhlaaGreatDoor
set_option linter.unusedVariables false
set_option linter.unusedSimpArgs false
set_option linter.unusedVariables false
set_option linter.unusedSimpArgs false
open Go.ChangeShapes Go.WideShapes Go.RowKit

theorem ownT : ownKnob Tryz.prog.godebug = none := by kernel_rfl
theorem laidOutT : laidOutB Tryz.prog = true := by kernel_rfl
theorem powG : Tryz.prog.globalNamed powName = some 2 := by kernel_rfl
theorem powT : (Tryz.prog.globals[2]?).map (·.type) = some 288 := by kernel_rfl
theorem pow_data : (Rows.laid_internal_strconv_uint64pow10 : DataW Unit) = Lib.tabData .u64 Lib.pow10Tab := by kernel_rfl
theorem pow_one : Tryz.prog.cellsOf 226 = 1 := by kernel_rfl
theorem pow_all : Tryz.prog.cellsOf 288 = 20 := by kernel_rfl

theorem tab_of_met {W : World} (h : laidMet Tryz.prog Rows.topOwnersRow.laid W) : Lib.TabIs Tryz.prog W powName .u64 Lib.pow10Tab := by
  obtain ⟨ps, ⟨g1, t1, cs1, f1, p1, q1, _, _, _, _, ⟨g2, t2, cs2, f2, p2, q2, _, _, _, _, ⟨g, t, cs, fuel, p, q, hg, ht, hvar, hd, _, _⟩, _⟩, _⟩, _⟩ := h
  obtain rfl := Option.some.inj (powG.symm.trans hg)
  obtain rfl := Option.some.inj (powT.symm.trans ht)
  have hd' : DataW.trod (fun _ => ()) Tryz.prog W 0 (fun _ => true) false fuel 288 cs.toList = some (Lib.tabData (H := Unit) .u64 Lib.pow10Tab, p) := by
    rw [← pow_data]
    exact hd
  have e := Lib.cells_of_tab Tryz.underlying288 Tryz.underlying226 pow_one pow_all hd'
  have hv : W.var? Tryz.prog powName = some cs := hvar
  unfold Lib.TabIs
  rw [hv, ← e]
theorem tab_of_laid {W : World} (h : laidMetH Tryz.prog Rows.topOwnersRow.laid W) : Lib.TabIs Tryz.prog W powName .u64 Lib.pow10Tab := tab_of_met h

/-- a table's cells -/
def tabCells : DataW Unit → Array Value
  | .agg l => (l.map fun
    | .lit (.int k z) => Value.int k z
    | _ => .nilIface).toArray
  | _ => #[]
/-- a world with a table laid -/
def tabLaid (w : World) (g : Nat) (d : DataW Unit) : World := { w with heap := w.heap.modify g fun
  | .cells _ t frozen => .cells (tabCells d) t frozen
  | o => o }
/-- a world with the tables laid -/
def tabsLaid (w : World) : World := tabLaid (tabLaid (tabLaid w 5 Rows.laid_math_bits_deBruijn32tab) 6 Rows.laid_math_bits_deBruijn64tab) 2 Rows.laid_internal_strconv_uint64pow10
end Go.Proofs.YtpcnfoaoajfhlaaGreatDoor
