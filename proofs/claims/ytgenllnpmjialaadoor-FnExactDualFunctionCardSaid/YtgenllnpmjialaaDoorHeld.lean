/-
  What the walks of the laws import besides.
-/
import Derived.Test.YtgenllnpmjialaaDoorInts
import Derived.Deep.RegionHeld3
import Derived.Deep.DrawnRows
import Derived.Deep.DeepCutAuto
import Derived.Laws.NewBlocks
namespace Go.Proofs.YtgenllnpmjialaaDoor.C
open Go.RowKit K

end Go.Proofs.YtgenllnpmjialaaDoor.C
