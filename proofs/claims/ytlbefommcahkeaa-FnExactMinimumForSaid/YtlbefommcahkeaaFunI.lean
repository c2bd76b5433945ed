/-
  The contracts of impl.AddFunctions, impl.ScaleFunction, impl.LowerFunction, of their closures, and of impl.makeFunction.
-/
import Derived.Test.YtlbefommcahkeaaIsFnI
import Derived.Test.YtlbefommcahkeaaFunS
namespace Go.Proofs.Ytlbefommcahkeaa.C
open Go.RowKit K M
set_option linter.unusedVariables false
set_option linter.unusedSimpArgs false

/-- What a closure does that only reads. -/
def Gives (w : World) (x : Int) (e : Ending) (w' : World) : Prop := e = .returned (.int .i64 x) ∧ ∃ q, w.drewN q = w'



end Go.Proofs.Ytlbefommcahkeaa.C
