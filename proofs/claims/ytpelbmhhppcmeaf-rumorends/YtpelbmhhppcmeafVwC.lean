/-
  slices.Clone at a cache, by its contract.
-/
import Derived.Test.YtpelbmhhppcmeafVwM
import Derived.Lib.Walk
import Derived.Lib.SliceRun
import Derived.Maps.AppendAt
namespace Go.Proofs.Ytpelbmhhppcmeaf
set_option linter.unusedVariables false
set_option linter.unusedSimpArgs false
open Go.RowKit Go.Lib

end Go.Proofs.Ytpelbmhhppcmeaf
