/-
  The contract of spec.EncodeFixed.
-/
import Derived.Test.YtlhajcfmlnomjaaDoorDecFix
import Derived.Test.YtlhajcfmlnomjaaDoorKit
import Derived.Outline
namespace Go.Proofs.YtlhajcfmlnomjaaDoor.C
open Go.RowKit M K
set_option linter.unusedVariables false

end Go.Proofs.YtlhajcfmlnomjaaDoor.C
