/-
  The contract of impl.ViolationOf.
-/
import Derived.Test.YtgenllnpmjialaaViolI
import Derived.WalkMore
namespace Go.Proofs.Ytgenllnpmjialaa.C
open Go.RowKit K M
set_option linter.unusedVariables false
set_option linter.unusedSimpArgs false


end Go.Proofs.Ytgenllnpmjialaa.C
