/-
  The contracts of spec.LowerFunction and spec.AddFunctions.
-/
import Derived.Test.YtffbiflgmlabaaaFunS
namespace Go.Proofs.Ytffbiflgmlabaaa.C
open Go.RowKit K M
set_option linter.unusedVariables false
set_option linter.unusedSimpArgs false


end Go.Proofs.Ytffbiflgmlabaaa.C
