/-
  The contracts of GainOf and EqualFunctions, spec and impl.
-/
import Derived.Test.YtlbefommcahkeaaGreatDoorVal
import Derived.Test.YtlbefommcahkeaaGreatDoorBase
namespace Go.Proofs.YtlbefommcahkeaaGreatDoor.C
open Go.RowKit K M
set_option linter.unusedVariables false
set_option linter.unusedSimpArgs false

/-- Whether two functions are equal in every field. -/
def eqFn (n : Int) (xs : List Int) (m : Int) (ys : List Int) : Bool := decide (n = m) && decide (xs = ys)



end Go.Proofs.YtlbefommcahkeaaGreatDoor.C
