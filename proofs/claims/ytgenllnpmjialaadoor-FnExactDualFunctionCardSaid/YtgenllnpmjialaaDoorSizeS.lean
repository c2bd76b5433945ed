/-
  The contracts of spec.SizeFunction and spec.IsConcaveList and of what they call.
-/
import Derived.Test.YtgenllnpmjialaaDoorMkM
import Derived.Test.YtgenllnpmjialaaDoorFunS
import Derived.Test.YtgenllnpmjialaaDoorSub
namespace Go.Proofs.YtgenllnpmjialaaDoor.C
open Go.RowKit K M
set_option linter.unusedVariables false
set_option linter.unusedSimpArgs false

theorem and_one (X : Nat) (hX : X < 4294967296) : bits .and .i64 (X : Int) 1 = ((X % 2 : Nat) : Int) := by
  have h1 : (BitVec.ofInt 64 1).toNat = 2 ^ 1 - 1 := by decide
  have ofI : (BitVec.ofInt 64 (X : Int)).toNat = X := by
    rw [BitVec.ofInt_natCast, BitVec.toNat_ofNat]; exact Nat.mod_eq_of_lt (by omega)
  show IntKind.i64.wrap ((BitVec.ofInt 64 (X : Int) &&& BitVec.ofInt 64 1).toNat : Int) = _
  rw [BitVec.toNat_and, ofI, h1, Nat.and_two_pow_sub_one_eq_mod, IntKind.wrap_i64]
  omega

/-- The second loop, with the values in range. -/
theorem concTo_succ {v : List Int} {c : Nat} (h : concaveTo v c) (hs : v.getD c 0 - v.getD (c - 1) 0 ≤ v.getD (c - 1) 0 - v.getD (c - 2) 0) : concaveTo v (c + 1) := fun i hi h2 => by
  by_cases e : i = c
  · subst e; exact hs
  · exact h i (by omega) h2

end Go.Proofs.YtgenllnpmjialaaDoor.C
