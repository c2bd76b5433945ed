/-
  The contracts of spec.LeastVector, GreatestVector, PairingOf, IndicatorOf and of what they call.
  The contract of spec.OrderFor.
-/
import Derived.Test.YtffbiflgmlabaaaGreatDoorAllM
import Derived.Test.YtffbiflgmlabaaaGreatDoorLolA
import Derived.Test.YtffbiflgmlabaaaGreatDoorSub
import Derived.Deep.RegionLaw
namespace Go.Proofs.YtffbiflgmlabaaaGreatDoor.C
open Go.RowKit K M
set_option linter.unusedVariables false
set_option linter.unusedSimpArgs false


section

end



section

end


end Go.Proofs.YtffbiflgmlabaaaGreatDoor.C

namespace Go.Proofs.YtffbiflgmlabaaaGreatDoor.C
open Go.RowKit K M
set_option linter.unusedVariables false
set_option linter.unusedSimpArgs false


section

end


end Go.Proofs.YtffbiflgmlabaaaGreatDoor.C
