/-
  The contract of spec.EncodeFixed.
-/
import Derived.Test.YtelihjanjlklpaaDoorDecFix
import Derived.Test.YtelihjanjlklpaaDoorKit
import Derived.Outline
namespace Go.Proofs.YtelihjanjlklpaaDoor.C
open Go.RowKit M K
set_option linter.unusedVariables false

end Go.Proofs.YtelihjanjlklpaaDoor.C
