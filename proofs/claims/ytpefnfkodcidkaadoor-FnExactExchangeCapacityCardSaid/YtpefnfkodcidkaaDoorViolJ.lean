/-
  The contract of impl.ViolationOf.
-/
import Derived.Test.YtpefnfkodcidkaaDoorViolI
import Derived.WalkMore
namespace Go.Proofs.YtpefnfkodcidkaaDoor.C
open Go.RowKit K M
set_option linter.unusedVariables false
set_option linter.unusedSimpArgs false


end Go.Proofs.YtpefnfkodcidkaaDoor.C
