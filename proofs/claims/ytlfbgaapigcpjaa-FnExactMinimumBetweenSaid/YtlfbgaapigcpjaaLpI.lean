/-
  The contracts of impl.leastPart, for each closure that it is handed, and of these closures.
-/
import Derived.Test.YtlfbgaapigcpjaaPtG
import Derived.Test.YtlfbgaapigcpjaaFunA
import Derived.Test.YtlfbgaapigcpjaaVal
import Derived.RangeFuncNested
import Derived.RangeFuncBound
namespace Go.Proofs.Ytlfbgaapigcpjaa.C
open Go.RowKit Go.Shelf K M
set_option linter.unusedVariables false
set_option linter.unusedSimpArgs false
attribute [local go_sem] Oper.semAt_some

theorem KeepsOthers.drewN (W : World) (n : Nat) : KeepsOthers W (W.drewN n) := ⟨Nat.le_refl _, fun _ _ h _ => h⟩

theorem gives_at {P : Program} {f : FuncId} {args : Array Value} {w : World} {n : Nat} {x : Int} (h : Calls P f args (w.drewN n) (Gives (w.drewN n) x)) :
    Calls P f args (w.drewN n) fun e w'' => e = .returned (.int .i64 x) ∧ ∃ m, w'' = w.drewN m :=
  h.mono fun _ _ ⟨he, q, hq⟩ => ⟨he, n + q, by rw [← hq]; simp [World.drewN, Nat.add_assoc]⟩


end Go.Proofs.Ytlfbgaapigcpjaa.C
