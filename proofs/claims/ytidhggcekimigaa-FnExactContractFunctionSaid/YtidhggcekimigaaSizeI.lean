/-
  The contracts of impl.SizeFunction and impl.IsConcaveList and of what they call.
-/
import Derived.Test.YtidhggcekimigaaMakeSize
import Derived.Test.YtidhggcekimigaaSizeS
namespace Go.Proofs.Ytidhggcekimigaa.C
open Go.RowKit K M
set_option linter.unusedVariables false
set_option linter.unusedSimpArgs false

set_option maxRecDepth 100000 in
theorem ones64 (S : Nat) (w : World) (hS : S < 64) :
    Calls Try.prog 70 #[.int .u64 S] w fun e w' => e = .returned (.int .i64 (ones S)) ∧ w = w' := by
  go_enter Try.func70, Try.ntmps70
  go_wp2
  go_ret
  refine ⟨congrArg (fun x : Int => Ending.returned (Value.int .i64 x)) ?_, rfl⟩
  revert S
  decide +kernel

theorem onesC (S : Nat) (w : World) (hS : S < 64) :
    Calls Try.prog 66 #[.int .u64 S] w fun e w' => e = .returned (.int .i64 (ones S)) ∧ w = w' := by
  go_enter Try.func66, Try.ntmps66
  go_wp2_with (go_at_call 70; refine (ones64 S _ hS).mono ?_; rintro e w' ⟨rfl, rfl⟩)
  go_ret
  exact ⟨rfl, rfl⟩

theorem sizeI_any (S : Nat) (w : World) (hS : S < 64) :
    Calls Try.prog 60 #[.int .i64 S] w fun e w' => e = .returned (.int .i64 (ones S)) ∧ w = w' := by
  have hw : IntKind.u64.wrap (S : Int) = (S : Int) := by rw [IntKind.wrap_u64]; omega
  go_enter Try.func60, Try.ntmps60
  go_wp2_with (go_at_call 66; refine (onesC S _ hS).mono ?_; rintro e w' ⟨rfl, rfl⟩)
  go_ret
  exact ⟨rfl, rfl⟩

end Go.Proofs.Ytidhggcekimigaa.C
