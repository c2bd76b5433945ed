/-
  What the walks of the laws import besides.
-/
import Derived.Test.YtelihjanjlklpaaDoorInts
import Derived.Deep.RegionHeld3
import Derived.Deep.DrawnRows
import Derived.Deep.DeepCutAuto
import Derived.Laws.NewBlocks
namespace Go.Proofs.YtelihjanjlklpaaDoor.C
open Go.RowKit K

end Go.Proofs.YtelihjanjlklpaaDoor.C
