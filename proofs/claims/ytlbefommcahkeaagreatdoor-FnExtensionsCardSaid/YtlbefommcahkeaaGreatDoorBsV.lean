/-
  The contracts of spec's chapter 8: tight sets, bases.
-/
import Derived.Test.YtlbefommcahkeaaGreatDoorBsS
import Derived.Test.YtlbefommcahkeaaGreatDoorVal
import Derived.Test.YtlbefommcahkeaaGreatDoorLine
namespace Go.Proofs.YtlbefommcahkeaaGreatDoor.C
open Go.RowKit K M
set_option linter.unusedVariables false
set_option linter.unusedSimpArgs false
set_option linter.unusedSectionVars false


section

end


end Go.Proofs.YtlbefommcahkeaaGreatDoor.C
