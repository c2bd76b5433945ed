/-
  The contracts of spec.AddFunctions, spec.ScaleFunction, spec.LowerFunction and of what they call.
-/
import Derived.Test.YtgenllnpmjialaaIsFnS
import Derived.Test.YtgenllnpmjialaaHeld
namespace Go.Proofs.Ytgenllnpmjialaa.C
open Go.RowKit K M
set_option linter.unusedVariables false
set_option linter.unusedSimpArgs false

end Go.Proofs.Ytgenllnpmjialaa.C
