/-
  The contract of spec.EncodeFixed.
-/
import Derived.Test.YtielfnjkfceliaaGreatDoorDecFix
import Derived.Test.YtielfnjkfceliaaGreatDoorKit
import Derived.Outline
namespace Go.Proofs.YtielfnjkfceliaaGreatDoor.C
open Go.RowKit M K
set_option linter.unusedVariables false

end Go.Proofs.YtielfnjkfceliaaGreatDoor.C
