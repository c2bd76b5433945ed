/-
  A number, a new list and a bool.
-/
import Derived.Test.YtlbefommcahkeaaDoorBase
namespace Go.Proofs.YtlbefommcahkeaaDoor.K
open Go.RowKit
def RetIIB (w : World) (x : Int) (xs : List Int) (b : Bool) (e : Ending) (w' : World) : Prop := ∃ A c, e = .returned (.tuple #[.int .i64 x, .slice A xs.length c, .bool b]) ∧ Own w' w.heap.size (.slice A xs.length c) xs ∧ Below w.heap.size w w'

end Go.Proofs.YtlbefommcahkeaaDoor.K
