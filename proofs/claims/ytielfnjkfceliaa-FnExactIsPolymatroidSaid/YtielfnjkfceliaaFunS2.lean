/-
  The contracts of spec.LowerFunction and spec.AddFunctions.
-/
import Derived.Test.YtielfnjkfceliaaFunS
namespace Go.Proofs.Ytielfnjkfceliaa.C
open Go.RowKit K M
set_option linter.unusedVariables false
set_option linter.unusedSimpArgs false

theorem scaleS_any (n : Int) (A : Option Addr) (xs : List Int) (cap : Nat) (k : Int) (w : World) (h : Hid (Ints w w.heap.size A xs)) : Calls Try.prog 38 #[.agg #[.int .i64 n, .slice A xs.length cap], .int .i64 k] w (RetFB w (scaleFn n xs k).1 (scaleFn n xs k).2.1 (scaleFn n xs k).2.2) := by
  unfold scaleFn
  split
  · rename_i hh
    exact scaleS_good n A xs cap k w h hh.1 hh.2.1 hh.2.2
  · rename_i hh
    cases hf : isFn n xs
    · exact scaleS_bad n A xs cap k w h hf
    · exact scaleS_out n A xs cap k w h hf (by rw [hf] at hh; simp at hh; omega)


end Go.Proofs.Ytielfnjkfceliaa.C
