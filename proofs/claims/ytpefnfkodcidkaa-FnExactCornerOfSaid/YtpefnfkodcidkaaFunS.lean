/-
  The contracts of spec.AddFunctions, spec.ScaleFunction, spec.LowerFunction and of what they call.
-/
import Derived.Test.YtpefnfkodcidkaaIsFnS
import Derived.Test.YtpefnfkodcidkaaHeld
namespace Go.Proofs.Ytpefnfkodcidkaa.C
open Go.RowKit K M
set_option linter.unusedVariables false
set_option linter.unusedSimpArgs false

end Go.Proofs.Ytpefnfkodcidkaa.C
