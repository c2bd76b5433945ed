/-
  What the walks of the laws import besides.
-/
import Derived.Test.YtpefnfkodcidkaaDoorInts
import Derived.Deep.RegionHeld3
import Derived.Deep.DrawnRows
import Derived.Deep.DeepCutAuto
import Derived.Laws.NewBlocks
namespace Go.Proofs.YtpefnfkodcidkaaDoor.C
open Go.RowKit K

end Go.Proofs.YtpefnfkodcidkaaDoor.C
