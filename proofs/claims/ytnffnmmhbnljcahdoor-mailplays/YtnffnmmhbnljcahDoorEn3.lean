/-
  Package entry by its contracts: what two entries of one key know; whether one is true at a number.
-/
import Derived.Test.YtnffnmmhbnljcahDoorEn2
import Derived.BigRegion
namespace Go.Proofs.YtnffnmmhbnljcahDoor
set_option linter.unusedVariables false
set_option linter.unusedSimpArgs false
open Go.RowKit
end Go.Proofs.YtnffnmmhbnljcahDoor
