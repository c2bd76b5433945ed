/-
  The contracts of spec.LowerFunction and spec.AddFunctions.
-/
import Derived.Test.YtlbefommcahkeaaFunS
namespace Go.Proofs.Ytlbefommcahkeaa.C
open Go.RowKit K M
set_option linter.unusedVariables false
set_option linter.unusedSimpArgs false


end Go.Proofs.Ytlbefommcahkeaa.C
