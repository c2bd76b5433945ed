/-
  The contracts of spec.LeastVector, GreatestVector, PairingOf, IndicatorOf and of what they call.
-/
import Derived.Test.YtffbiflgmlabaaaAllM
import Derived.Test.YtffbiflgmlabaaaAppN
import Derived.Test.YtffbiflgmlabaaaSub
namespace Go.Proofs.Ytffbiflgmlabaaa.C
open Go.RowKit K M
set_option linter.unusedVariables false
set_option linter.unusedSimpArgs false


section

end



section

end


end Go.Proofs.Ytffbiflgmlabaaa.C
