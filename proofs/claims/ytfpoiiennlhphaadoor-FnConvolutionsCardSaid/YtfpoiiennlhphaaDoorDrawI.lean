/-
  The contracts of the draws of chapter 2, as the laws call them: two functions, sets, one function.
-/
import Derived.Test.YtfpoiiennlhphaaDoorDrawH
namespace Go.Proofs.YtfpoiiennlhphaaDoor.C
open Go.RowKit M K
set_option linter.unusedVariables false
set_option linter.unusedSimpArgs false

def GotXY (P : Int → Int → Prop) (w : World) (e : Ending) (w' : World) : Prop := ∃ x y, e = .returned (.tuple #[.int .i64 x, .int .i64 y]) ∧ P x y ∧ Below w.heap.size w w'


section

variable (v : Value) (len : Nat) (w : World) (hl : len ≤ 1048576) (hy : Hid (Bytes w.heap.size w v len))
include hl hy

end


end Go.Proofs.YtfpoiiennlhphaaDoor.C
