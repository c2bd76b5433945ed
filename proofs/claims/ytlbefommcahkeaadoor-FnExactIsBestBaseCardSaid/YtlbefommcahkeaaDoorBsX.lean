/-
  The contracts of spec.l8Perm, l8Corner and CornerOf.
-/
import Derived.Test.YtlbefommcahkeaaDoorBsS
import Derived.Test.YtlbefommcahkeaaDoorExA
import Derived.StillTailTactics
namespace Go.Proofs.YtlbefommcahkeaaDoor.C
open Go.RowKit K M
set_option linter.unusedVariables false
set_option linter.unusedSimpArgs false
set_option linter.unusedSectionVars false


section

end


end Go.Proofs.YtlbefommcahkeaaDoor.C
