/-
  The contract of spec.OrderFor.
-/
import Derived.Test.YtpefnfkodcidkaaExS
import Derived.Deep.RegionLaw
namespace Go.Proofs.Ytpefnfkodcidkaa.C
open Go.RowKit K M
set_option linter.unusedVariables false
set_option linter.unusedSimpArgs false


section

end


end Go.Proofs.Ytpefnfkodcidkaa.C
