/-
  The contract of impl.EncodeFixed.
-/
import Derived.Test.YtgenllnpmjialaaEncFixS
import Derived.Outline
import Derived.Laws.MakeOwn
namespace Go.Proofs.Ytgenllnpmjialaa.C
open Go.RowKit M K
set_option linter.unusedVariables false

/-- The row that impl.EncodeFixed fills, behind k rounds. -/
def fixRow (n : Int) (m k : Nat) : List Value := List.replicate (m - k) (.int .u8 0) ++ cellsOf (beL n k)

theorem fixRow_step (n : Int) (m k : Nat) (h : k < m) : (fixRow n m k).set (m - 1 - k) (.int .u8 (n / 2 ^ (8 * k) % 256)) = fixRow n m (k + 1) := by
  rw [two_pow]
  unfold fixRow
  rw [set_next m k _ _ _ h]
  simp only [cellsOf, beL, List.map_cons, byte_back]

end Go.Proofs.Ytgenllnpmjialaa.C
