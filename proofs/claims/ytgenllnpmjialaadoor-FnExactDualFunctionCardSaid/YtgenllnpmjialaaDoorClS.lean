/-
  The contracts of spec.ClosureOf, IsFlat, FlatsOf, OppositeFunction and of what they call.
-/
import Derived.Test.YtgenllnpmjialaaDoorClM
import Derived.Test.YtgenllnpmjialaaDoorSubS
import Derived.Test.YtgenllnpmjialaaDoorFunS
namespace Go.Proofs.YtgenllnpmjialaaDoor.C
open Go.RowKit K M
set_option linter.unusedVariables false
set_option linter.unusedSimpArgs false


section

end

end Go.Proofs.YtgenllnpmjialaaDoor.C
