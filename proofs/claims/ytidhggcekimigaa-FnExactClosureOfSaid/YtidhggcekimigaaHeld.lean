/-
  What the walks of the laws import besides.
-/
import Derived.Test.YtidhggcekimigaaInts
import Derived.Deep.RegionHeld3
import Derived.Deep.DrawnRows
import Derived.Deep.DeepCutAuto
import Derived.Laws.NewBlocks
namespace Go.Proofs.Ytidhggcekimigaa.C
open Go.RowKit K

end Go.Proofs.Ytidhggcekimigaa.C
