/-
  The contracts of impl.SizeFunction and impl.IsConcaveList and of what they call.
-/
import Derived.Test.YtelihjanjlklpaaDoorMakeSize
import Derived.Test.YtelihjanjlklpaaDoorSizeS
namespace Go.Proofs.YtelihjanjlklpaaDoor.C
open Go.RowKit K M
set_option linter.unusedVariables false
set_option linter.unusedSimpArgs false

end Go.Proofs.YtelihjanjlklpaaDoor.C
