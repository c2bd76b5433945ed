/-
  The contracts of impl.AddFunctions, impl.ScaleFunction, impl.LowerFunction: the ways that build a function, and all.
-/
import Derived.Test.YtlbefommcahkeaaFunI
namespace Go.Proofs.Ytlbefommcahkeaa.C
open Go.RowKit K M
set_option linter.unusedVariables false
set_option linter.unusedSimpArgs false


end Go.Proofs.Ytlbefommcahkeaa.C
