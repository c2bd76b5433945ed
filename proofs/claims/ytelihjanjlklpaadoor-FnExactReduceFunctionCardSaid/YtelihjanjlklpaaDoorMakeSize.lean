/-
  The contract of impl.makeFunction, for SizeFunction's closure.
-/
import Derived.Test.YtelihjanjlklpaaDoorFunI
import Derived.Deep.RegionHeld3
namespace Go.Proofs.YtelihjanjlklpaaDoor.C
open Go.RowKit K M
set_option linter.unusedVariables false
set_option linter.unusedSimpArgs false


end Go.Proofs.YtelihjanjlklpaaDoor.C
