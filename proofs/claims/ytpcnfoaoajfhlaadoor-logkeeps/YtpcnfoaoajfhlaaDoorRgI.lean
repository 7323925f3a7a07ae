/-
  Rows of numbers (as package tomb has them).
-/
import Derived.Test.YtpcnfoaoajfhlaaDoorTbI
namespace Go.Proofs.YtpcnfoaoajfhlaaDoor
set_option linter.unusedVariables false
set_option linter.unusedSimpArgs false
end Go.Proofs.YtpcnfoaoajfhlaaDoor
