/-
  The contracts of impl.AddFunctions, impl.ScaleFunction, impl.LowerFunction: the ways that build a function, and all.
-/
import Derived.Test.YtpefnfkodcidkaaFunI
namespace Go.Proofs.Ytpefnfkodcidkaa.C
open Go.RowKit K M
set_option linter.unusedVariables false
set_option linter.unusedSimpArgs false


end Go.Proofs.Ytpefnfkodcidkaa.C
