/-
  The contracts of spec's chapter 8: vectors, weights, IsBelow.
-/
import Derived.Test.YtlbefommcahkeaaGreatDoorAllM
import Derived.Test.YtlbefommcahkeaaGreatDoorSub
import Derived.Test.YtlbefommcahkeaaGreatDoorFunA
import Derived.Test.YtlbefommcahkeaaGreatDoorSubS
import Derived.Deep.RegionHeld3
namespace Go.Proofs.YtlbefommcahkeaaGreatDoor.C
open Go.RowKit K M
set_option linter.unusedVariables false
set_option linter.unusedSimpArgs false
set_option linter.unusedSectionVars false


theorem quiet_gives {P : Program} {f : FuncId} {args : Array Value} {w : World} {n : Nat} {x : Int} (h : Calls P f args (w.drewN n) fun e w' => e = .returned (.int .i64 x) ∧ ∃ q, (w.drewN n).drewN q = w') :
    Calls P f args (w.drewN n) fun e w'' => e = .returned (.int .i64 x) ∧ ∃ m, w'' = w.drewN m :=
  h.mono fun _ _ ⟨he, q, hq⟩ => ⟨he, n + q, by rw [← hq]; simp [World.drewN, Nat.add_assoc]⟩


section

end


end Go.Proofs.YtlbefommcahkeaaGreatDoor.C
