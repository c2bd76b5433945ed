/-
  The contracts of the laws' own 'sameInts' and 'has'.
-/
import Derived.Test.YtgenllnpmjialaaIsFnS
import Derived.Deep.QuietTactic
namespace Go.Proofs.Ytgenllnpmjialaa.C
open Go.RowKit M K
set_option linter.unusedVariables false
set_option linter.unusedSimpArgs false

theorem big_any5 (a : Option Addr) (len cap : Nat) (w : World) (hlen : len ≤ 9223372036854775807) : Calls Try.prog 10 #[.slice a len cap] w fun e w' => e = .returned (.bool (decide (1048576 < (len : Int)))) ∧ w = w' := by
  go_enter Try.func10, Try.ntmps10
  go_wp2
  go_ret
  exact ⟨rfl, rfl⟩

end Go.Proofs.Ytgenllnpmjialaa.C
