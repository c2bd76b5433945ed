/-
  The contracts of spec.AddFunctions, spec.ScaleFunction, spec.LowerFunction and of what they call.
-/
import Derived.Test.YtffbiflgmlabaaaFnA
import Derived.Test.YtffbiflgmlabaaaHeld
namespace Go.Proofs.Ytffbiflgmlabaaa.C
open Go.RowKit K M
set_option linter.unusedVariables false
set_option linter.unusedSimpArgs false

end Go.Proofs.Ytffbiflgmlabaaa.C
