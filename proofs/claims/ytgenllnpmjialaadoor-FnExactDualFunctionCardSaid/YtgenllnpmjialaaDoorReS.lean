/-
  The contracts of spec.RestrictFunction, ContractFunction, DualFunction and of what they call.
-/
import Derived.Test.YtgenllnpmjialaaDoorReM
import Derived.Test.YtgenllnpmjialaaDoorClS
import Derived.Test.YtgenllnpmjialaaDoorSizeS
import Derived.Test.YtgenllnpmjialaaDoorModS
import Derived.Test.YtgenllnpmjialaaDoorEls
import Derived.Deep.RegionHeld3
namespace Go.Proofs.YtgenllnpmjialaaDoor.C
open Go.RowKit K M
set_option linter.unusedVariables false
set_option linter.unusedSimpArgs false

theorem or_two (S P : Nat) (hS : S < 4294967296) (hP : P < 4294967296) : bits .or .i64 (S : Int) (P : Int) = ((S ||| P : Nat) : Int) := by
  have hx : S ||| P < 2 ^ 32 := Nat.or_lt_two_pow (by omega) (by omega)
  have ofI : ∀ a : Nat, a < 9223372036854775808 → (BitVec.ofInt 64 (a : Int)).toNat = a := fun a ha => by
    rw [BitVec.ofInt_natCast, BitVec.toNat_ofNat]; exact Nat.mod_eq_of_lt (by omega)
  show IntKind.i64.wrap ((BitVec.ofInt 64 (S : Int) ||| BitVec.ofInt 64 (P : Int)).toNat : Int) = _
  rw [BitVec.toNat_or, ofI S (by omega), ofI P (by omega), IntKind.wrap_i64]
  omega
theorem shl_at {N p : Nat} (h5 : N ≤ 5) (hp : p = 2 ^ N) : wrap64 (2 ^ N) = (p : Int) := by
  have hsh := shl_one (n := (N : Int)) (m := p) (by omega) (by omega) (by rw [Int.toNat_natCast]; exact hp)
  rwa [Int.toNat_natCast] at hsh

end Go.Proofs.YtgenllnpmjialaaDoor.C
