/-
  The contracts of spec's chapter 8: tight sets, bases.
-/
import Derived.Test.YtlbefommcahkeaaBsS
import Derived.Test.YtlbefommcahkeaaVal
import Derived.Test.YtlbefommcahkeaaLine
namespace Go.Proofs.Ytlbefommcahkeaa.C
open Go.RowKit K M
set_option linter.unusedVariables false
set_option linter.unusedSimpArgs false
set_option linter.unusedSectionVars false


section

end


end Go.Proofs.Ytlbefommcahkeaa.C
