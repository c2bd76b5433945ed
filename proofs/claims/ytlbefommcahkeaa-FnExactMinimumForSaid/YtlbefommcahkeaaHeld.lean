/-
  What the walks of the laws import besides.
-/
import Derived.Test.YtlbefommcahkeaaInts
import Derived.Deep.RegionHeld3
import Derived.Deep.DrawnRows
import Derived.Deep.DeepCutAuto
import Derived.Laws.NewBlocks
namespace Go.Proofs.Ytlbefommcahkeaa.C
open Go.RowKit K

end Go.Proofs.Ytlbefommcahkeaa.C
