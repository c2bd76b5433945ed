/-
  The contract of spec.ModularFunction.
-/
import Derived.Test.YtidhggcekimigaaSub
import Derived.Test.YtidhggcekimigaaFunS2
namespace Go.Proofs.Ytidhggcekimigaa.C
open Go.RowKit K M
set_option linter.unusedVariables false
set_option linter.unusedSimpArgs false

theorem weigh_bd {ws : List Int} (hv : ∀ k, k < ws.length → -1000 ≤ ws.getD k 0 ∧ ws.getD k 0 ≤ 1000) (s : Nat) : ∀ i, i ≤ ws.length → -1000 * (i : Int) ≤ weigh ws s i ∧ weigh ws s i ≤ 1000 * (i : Int)
  | 0, _ => by simp [weigh]
  | i + 1, hi => by
    have h1 := weigh_bd hv s i (by omega)
    have h2 := hv i (by omega)
    unfold weigh
    split <;> omega

end Go.Proofs.Ytidhggcekimigaa.C
