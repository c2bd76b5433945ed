/-
  The contracts of spec.LowerFunction and spec.AddFunctions.
-/
import Derived.Test.YtfpoiiennlhphaaDoorFunS
namespace Go.Proofs.YtfpoiiennlhphaaDoor.C
open Go.RowKit K M
set_option linter.unusedVariables false
set_option linter.unusedSimpArgs false


end Go.Proofs.YtfpoiiennlhphaaDoor.C
