/-
  The contracts of spec.MinimumOf, MinimizersOf, LeastMinimizer, GreatestMinimizer.
-/
import Derived.Test.YtffbiflgmlabaaaGreatDoorAllM
import Derived.Test.YtffbiflgmlabaaaGreatDoorSubS
import Derived.Test.YtffbiflgmlabaaaGreatDoorLolA
import Derived.Test.YtffbiflgmlabaaaGreatDoorBase
import Derived.Test.YtffbiflgmlabaaaGreatDoorFnA
import Derived.Deep.QuietTactic
import Derived.Deep.RegionHeld3
namespace Go.Proofs.YtffbiflgmlabaaaGreatDoor.C
open Go.RowKit K M
set_option linter.unusedVariables false
set_option linter.unusedSimpArgs false
set_option linter.unusedSectionVars false

theorem and_nat10 (S P : Nat) (hS : S < 4294967296) (hP : P < 4294967296) : bits .and .i64 (S : Int) (P : Int) = ((S &&& P : Nat) : Int) := by
  have hx : S &&& P < 2 ^ 32 := Nat.and_lt_two_pow _ (by omega)
  have ofI : ∀ a : Nat, a < 9223372036854775808 → (BitVec.ofInt 64 (a : Int)).toNat = a := fun a ha => by
    rw [BitVec.ofInt_natCast, BitVec.toNat_ofNat]; exact Nat.mod_eq_of_lt (by omega)
  show IntKind.i64.wrap ((BitVec.ofInt 64 (S : Int) &&& BitVec.ofInt 64 (P : Int)).toNat : Int) = _
  rw [BitVec.toNat_and, ofI S (by omega), ofI P (by omega), IntKind.wrap_i64]
  omega
theorem or_nat10 (S P : Nat) (hS : S < 4294967296) (hP : P < 4294967296) : bits .or .i64 (S : Int) (P : Int) = ((S ||| P : Nat) : Int) := by
  have hx : S ||| P < 2 ^ 32 := Nat.or_lt_two_pow (by omega) (by omega)
  have ofI : ∀ a : Nat, a < 9223372036854775808 → (BitVec.ofInt 64 (a : Int)).toNat = a := fun a ha => by
    rw [BitVec.ofInt_natCast, BitVec.toNat_ofNat]; exact Nat.mod_eq_of_lt (by omega)
  show IntKind.i64.wrap ((BitVec.ofInt 64 (S : Int) ||| BitVec.ofInt 64 (P : Int)).toNat : Int) = _
  rw [BitVec.toNat_or, ofI S (by omega), ofI P (by omega), IntKind.wrap_i64]
  omega


section

end


end Go.Proofs.YtffbiflgmlabaaaGreatDoor.C
