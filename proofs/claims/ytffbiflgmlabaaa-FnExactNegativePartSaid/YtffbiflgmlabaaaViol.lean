/-
  The contract of spec.ViolationOf.
-/
import Derived.Test.YtffbiflgmlabaaaSub
import Derived.Test.YtffbiflgmlabaaaFunS
namespace Go.Proofs.Ytffbiflgmlabaaa.C
open Go.RowKit K M
set_option linter.unusedVariables false
set_option linter.unusedSimpArgs false

theorem _root_.Go.Proofs.Ytffbiflgmlabaaa.K.St.lit3 {w0 w : World} {L : List Cel} (h : St w0 w L) (x y z : Int) : St w0 (w.alloc (.cells #[.int .i64 x, .int .i64 y, .int .i64 z] 3)) (il (.slice (some ⟨w.heap.size, 0, none⟩) 3 3) 3 [x, y, z] :: L) := by
  refine h.new ((Below.refl _ _).alloc (Nat.le_refl _) _) ?_
  exact World.ownsRow_lit w #[.int .i64 x, .int .i64 y, .int .i64 z] 3 (Nat.le_refl _) (by unfold maxLen; omega) (by simp)

end Go.Proofs.Ytffbiflgmlabaaa.C
