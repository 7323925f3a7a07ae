/-
  Package entry by its contracts: what two entries of one key know; whether one is true at a number.
-/
import Derived.Test.YthpcogpbgjkiaahDoorEn2
import Derived.BigRegion
namespace Go.Proofs.YthpcogpbgjkiaahDoor
set_option linter.unusedVariables false
set_option linter.unusedSimpArgs false
open Go.RowKit
end Go.Proofs.YthpcogpbgjkiaahDoor
