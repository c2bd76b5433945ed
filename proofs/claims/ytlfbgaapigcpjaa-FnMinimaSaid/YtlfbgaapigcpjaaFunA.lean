/-
  The contracts of spec.AddFunctions, spec.ScaleFunction, spec.LowerFunction and of what they call.
  The contracts of spec.LowerFunction and spec.AddFunctions.
  The contracts of impl.AddFunctions, impl.ScaleFunction, impl.LowerFunction, of their closures, and of impl.makeFunction.
  The contracts of impl.AddFunctions, impl.ScaleFunction, impl.LowerFunction: the ways that build a function, and all.
-/
import Derived.Test.YtlfbgaapigcpjaaFnA
import Derived.Test.YtlfbgaapigcpjaaBase
namespace Go.Proofs.Ytlfbgaapigcpjaa.C
open Go.RowKit K M
set_option linter.unusedVariables false
set_option linter.unusedSimpArgs false

end Go.Proofs.Ytlfbgaapigcpjaa.C

namespace Go.Proofs.Ytlfbgaapigcpjaa.C
open Go.RowKit K M
set_option linter.unusedVariables false
set_option linter.unusedSimpArgs false


end Go.Proofs.Ytlfbgaapigcpjaa.C

namespace Go.Proofs.Ytlfbgaapigcpjaa.C
open Go.RowKit K M
set_option linter.unusedVariables false
set_option linter.unusedSimpArgs false

/-- What a closure does that only reads. -/
def Gives (w : World) (x : Int) (e : Ending) (w' : World) : Prop := e = .returned (.int .i64 x) ∧ ∃ q, w.drewN q = w'



end Go.Proofs.Ytlfbgaapigcpjaa.C

namespace Go.Proofs.Ytlfbgaapigcpjaa.C
open Go.RowKit K M
set_option linter.unusedVariables false
set_option linter.unusedSimpArgs false


end Go.Proofs.Ytlfbgaapigcpjaa.C
