/-
  The contract of spec.EncodeFixed.
-/
import Derived.Test.YtgenllnpmjialaaDecFix
import Derived.Test.YtgenllnpmjialaaKit
import Derived.Outline
namespace Go.Proofs.Ytgenllnpmjialaa.C
open Go.RowKit M K
set_option linter.unusedVariables false

end Go.Proofs.Ytgenllnpmjialaa.C
