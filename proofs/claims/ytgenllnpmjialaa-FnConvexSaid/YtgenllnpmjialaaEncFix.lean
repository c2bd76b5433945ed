/-
  The law that compares spec.EncodeFixed and impl.EncodeFixed.
-/
import Derived.Test.YtgenllnpmjialaaEncFixI
namespace Go.Proofs.Ytgenllnpmjialaa.C
open Go.RowKit M K
set_option linter.unusedVariables false

theorem below_two {w w1 w2 : World} (h1 : Below w.heap.size w w1) (h2 : Below w1.heap.size w1 w2) : Below w.heap.size w w2 :=
  h1.trans (h2.mono h1.size)

end Go.Proofs.Ytgenllnpmjialaa.C
