/-
  What the walks of the laws import besides.
-/
import Derived.Test.YtffbiflgmlabaaaInts
import Derived.Deep.RegionHeld3
import Derived.Deep.DrawnRows
import Derived.Deep.DeepCutAuto
import Derived.Laws.NewBlocks
namespace Go.Proofs.Ytffbiflgmlabaaa.C
open Go.RowKit K

end Go.Proofs.Ytffbiflgmlabaaa.C
