/-
  The contracts of impl.SizeFunction and impl.IsConcaveList and of what they call.
-/
import Derived.Test.YtidhggcekimigaaDoorMakeSize
import Derived.Test.YtidhggcekimigaaDoorSizeS
namespace Go.Proofs.YtidhggcekimigaaDoor.C
open Go.RowKit K M
set_option linter.unusedVariables false
set_option linter.unusedSimpArgs false

set_option maxRecDepth 100000 in
theorem ones64 (S : Nat) (w : World) (hS : S < 64) :
    Calls Tryd.prog 98 #[.int .u64 S] w fun e w' => e = .returned (.int .i64 (ones S)) ∧ w = w' := by
  go_enter Tryd.func98, Tryd.ntmps98
  go_wp2
  go_ret
  refine ⟨congrArg (fun x : Int => Ending.returned (Value.int .i64 x)) ?_, rfl⟩
  revert S
  decide +kernel

theorem onesC (S : Nat) (w : World) (hS : S < 64) :
    Calls Tryd.prog 95 #[.int .u64 S] w fun e w' => e = .returned (.int .i64 (ones S)) ∧ w = w' := by
  go_enter Tryd.func95, Tryd.ntmps95
  go_wp2_with (go_at_call 98; refine (ones64 S _ hS).mono ?_; rintro e w' ⟨rfl, rfl⟩)
  go_ret
  exact ⟨rfl, rfl⟩

theorem sizeI_any (S : Nat) (w : World) (hS : S < 64) :
    Calls Tryd.prog 84 #[.int .i64 S] w fun e w' => e = .returned (.int .i64 (ones S)) ∧ w = w' := by
  have hw : IntKind.u64.wrap (S : Int) = (S : Int) := by rw [IntKind.wrap_u64]; omega
  go_enter Tryd.func84, Tryd.ntmps84
  go_wp2_with (go_at_call 95; refine (onesC S _ hS).mono ?_; rintro e w' ⟨rfl, rfl⟩)
  go_ret
  exact ⟨rfl, rfl⟩

end Go.Proofs.YtidhggcekimigaaDoor.C
