/-
  What the row's four listed variables give a walk: the table of powers, and errors.errorType.
-/
import Derived.Test.YtlpfdmmilbdcbaeDoorLaid
import Derived.Test.YtlpfdmmilbdcbaeDoorLaidT
namespace Go.Proofs.YtlpfdmmilbdcbaeDoor
set_option linter.unusedVariables false
set_option linter.unusedSimpArgs false
open Go.ChangeShapes Go.WideShapes Go.RowKit

theorem tabE_of_laid {W : World} (h : laidMetH Tryd.prog Rows.treeLeafRow.laid W) : Lib.TabIs Tryd.prog W powName .u64 Lib.pow10Tab ∧ HasErr W := by
  have h' : laidMet Tryd.prog Rows.ringFewRow.laid W ∧ handlesMet Tryd.prog laidList W := h
  have e : laidMetH Tryd.prog laidList W := ⟨laidMet_nil _ _, h'.2⟩
  exact ⟨tab_of_met h'.1, handle_of_laid e⟩
end Go.Proofs.YtlpfdmmilbdcbaeDoor
