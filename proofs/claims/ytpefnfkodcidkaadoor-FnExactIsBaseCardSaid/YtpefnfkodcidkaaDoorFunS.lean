/-
  The contracts of spec.AddFunctions, spec.ScaleFunction, spec.LowerFunction and of what they call.
-/
import Derived.Test.YtpefnfkodcidkaaDoorIsFnS
import Derived.Test.YtpefnfkodcidkaaDoorHeld
namespace Go.Proofs.YtpefnfkodcidkaaDoor.C
open Go.RowKit K M
set_option linter.unusedVariables false
set_option linter.unusedSimpArgs false

end Go.Proofs.YtpefnfkodcidkaaDoor.C
