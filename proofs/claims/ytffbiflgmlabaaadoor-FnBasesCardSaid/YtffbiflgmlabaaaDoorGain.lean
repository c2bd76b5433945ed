/-
  The contracts of GainOf and EqualFunctions, spec and impl.
-/
import Derived.Test.YtffbiflgmlabaaaDoorVal
import Derived.Test.YtffbiflgmlabaaaDoorBase
namespace Go.Proofs.YtffbiflgmlabaaaDoor.C
open Go.RowKit K M
set_option linter.unusedVariables false
set_option linter.unusedSimpArgs false

/-- Whether two functions are equal in every field. -/
def eqFn (n : Int) (xs : List Int) (m : Int) (ys : List Int) : Bool := decide (n = m) && decide (xs = ys)



end Go.Proofs.YtffbiflgmlabaaaDoor.C
