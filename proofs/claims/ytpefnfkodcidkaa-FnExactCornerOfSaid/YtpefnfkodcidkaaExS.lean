/-
  The contracts of spec.LeastVector, GreatestVector, PairingOf, IndicatorOf and of what they call.
-/
import Derived.Test.YtpefnfkodcidkaaExM
import Derived.Test.YtpefnfkodcidkaaAppN
import Derived.Test.YtpefnfkodcidkaaSub
namespace Go.Proofs.Ytpefnfkodcidkaa.C
open Go.RowKit K M
set_option linter.unusedVariables false
set_option linter.unusedSimpArgs false


section

end



section

end


end Go.Proofs.Ytpefnfkodcidkaa.C
