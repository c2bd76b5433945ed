/-
  The contracts of spec.LeastMinimizer, GreatestMinimizer, IsLattice.
-/
import Derived.Test.YtffbiflgmlabaaaGreatDoorMiS
namespace Go.Proofs.YtffbiflgmlabaaaGreatDoor.C
open Go.RowKit K M
set_option linter.unusedVariables false
set_option linter.unusedSimpArgs false
set_option linter.unusedSectionVars false

theorem sub_fn {n : Int} {xs : List Int} (h : isSub n xs = true) : isFn n xs = true := by
  unfold isSub at h
  rw [Bool.and_eq_true] at h
  exact h.1


section

end

end Go.Proofs.YtffbiflgmlabaaaGreatDoor.C
