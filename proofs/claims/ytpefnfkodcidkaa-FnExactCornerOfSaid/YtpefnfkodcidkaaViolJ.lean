/-
  The contract of impl.ViolationOf.
-/
import Derived.Test.YtpefnfkodcidkaaViolI
import Derived.WalkMore
namespace Go.Proofs.Ytpefnfkodcidkaa.C
open Go.RowKit K M
set_option linter.unusedVariables false
set_option linter.unusedSimpArgs false


end Go.Proofs.Ytpefnfkodcidkaa.C
