/-
  The contracts of spec.DecodeFixed and impl.DecodeFixed, and of the law that compares them.
-/
import Derived.Test.YtgenllnpmjialaaMathA
import Derived.Test.YtgenllnpmjialaaRows
import Derived.WalkKit
import Derived.WalkLawsBesides
import Derived.WalkSpells
import Derived.Lib.Hide
namespace Go.Proofs.Ytgenllnpmjialaa.C
open Go.RowKit M
set_option linter.unusedVariables false

theorem in_any (n lo hi : Int) (w : World) : Calls Try.prog 52 #[.int .i64 n, .int .i64 lo, .int .i64 hi] w fun e w' => e = .returned (.bool (decide (lo ≤ n) && decide (n ≤ hi))) ∧ w = w' := by
  by_cases h : lo ≤ n
  · go_enter Try.func52, Try.ntmps52
    go_wp2
    go_ret
    exact ⟨by rw [show decide (lo ≤ n) = true by simpa using h]; rfl, rfl⟩
  · go_enter Try.func52, Try.ntmps52
    go_wp2
    go_ret
    exact ⟨by rw [show decide (lo ≤ n) = false by simpa using h]; rfl, rfl⟩

end Go.Proofs.Ytgenllnpmjialaa.C
