/-
  The contracts of the draws of chapter 5.
-/
import Derived.Test.YtgenllnpmjialaaDrawH
import Derived.StillTailTactics
namespace Go.Proofs.Ytgenllnpmjialaa.C
open Go.RowKit M K
set_option linter.unusedVariables false
set_option linter.unusedSimpArgs false


section

end


def GotFL (w : World) (e : Ending) (w' : World) : Prop := ∃ v n xs A c ys, e = .returned (.tuple #[v, .slice A (List.length ys) c]) ∧ ys.length ≤ 5 ∧ IsF w w' v n xs ∧ Own w' w.heap.size (.slice A (List.length ys) c) ys ∧ Below w.heap.size w w'


section

variable (v : Value) (len : Nat) (w : World) (hl : len ≤ 1048576) (hy : Hid (Bytes w.heap.size w v len))
include hl hy

end


end Go.Proofs.Ytgenllnpmjialaa.C
