/-
  The contracts of impl.SizeFunction and impl.IsConcaveList and of what they call.
-/
import Derived.Test.YtelihjanjlklpaaMakeSize
import Derived.Test.YtelihjanjlklpaaSizeS
namespace Go.Proofs.Ytelihjanjlklpaa.C
open Go.RowKit K M
set_option linter.unusedVariables false
set_option linter.unusedSimpArgs false

end Go.Proofs.Ytelihjanjlklpaa.C
