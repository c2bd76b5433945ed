/-
  The contracts of spec.LowerFunction and spec.AddFunctions.
-/
import Derived.Test.YtpefnfkodcidkaaFunS
namespace Go.Proofs.Ytpefnfkodcidkaa.C
open Go.RowKit K M
set_option linter.unusedVariables false
set_option linter.unusedSimpArgs false


end Go.Proofs.Ytpefnfkodcidkaa.C
