/-
  The contract of impl.makeFunction, for SizeFunction's closure.
-/
import Derived.Test.YtelihjanjlklpaaFunI
import Derived.Deep.RegionHeld3
namespace Go.Proofs.Ytelihjanjlklpaa.C
open Go.RowKit K M
set_option linter.unusedVariables false
set_option linter.unusedSimpArgs false


end Go.Proofs.Ytelihjanjlklpaa.C
