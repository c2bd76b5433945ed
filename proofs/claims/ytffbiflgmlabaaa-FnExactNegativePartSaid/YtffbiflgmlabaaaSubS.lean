/-
  The contracts of spec.IsSubmodular, IsGrounded, IsIncreasing, IsSupermodular, IsModular and IsPolymatroid.
-/
import Derived.Test.YtffbiflgmlabaaaViol
import Derived.Test.YtffbiflgmlabaaaFunS2
namespace Go.Proofs.Ytffbiflgmlabaaa.C
open Go.RowKit K M
set_option linter.unusedVariables false
set_option linter.unusedSimpArgs false


section

variable (n : Int) (A : Option Addr) (xs : List Int) (cap : Nat) (w : World) (h : Hid (Ints w w.heap.size A xs))
include h

end


end Go.Proofs.Ytffbiflgmlabaaa.C
