/-
  The contracts of GainOf and EqualFunctions, spec and impl.
-/
import Derived.Test.YtffbiflgmlabaaaGreatDoorVal
import Derived.Test.YtffbiflgmlabaaaGreatDoorBase
namespace Go.Proofs.YtffbiflgmlabaaaGreatDoor.C
open Go.RowKit K M
set_option linter.unusedVariables false
set_option linter.unusedSimpArgs false

/-- Whether two functions are equal in every field. -/
def eqFn (n : Int) (xs : List Int) (m : Int) (ys : List Int) : Bool := decide (n = m) && decide (xs = ys)



end Go.Proofs.YtffbiflgmlabaaaGreatDoor.C
