/-
  The contracts of spec's chapter 3: violations, submodular and increasing functions.
-/
import Derived.Test.YtffbiflgmlabaaaVal
import Derived.Test.YtffbiflgmlabaaaAllM
namespace Go.Proofs.Ytffbiflgmlabaaa.C
open Go.RowKit K M
set_option linter.unusedVariables false
set_option linter.unusedSimpArgs false

/-- A place of a set, asked for as 's>>i&1': as the walk spells it. -/
theorem bit_val (s i : Nat) (hs : s < 4294967296) : bits .and .i64 ((s : Int) / 2 ^ i) 1 = if s.testBit i = true then 1 else 0 := by
  have e : ((s : Int) / 2 ^ i) = ((s / 2 ^ i : Nat) : Int) := by simp
  have hle : s / 2 ^ i ≤ s := Nat.div_le_self _ _
  have h1 : (BitVec.ofInt 64 1).toNat = 2 ^ 1 - 1 := by decide
  have ofI : (BitVec.ofInt 64 ((s / 2 ^ i : Nat) : Int)).toNat = s / 2 ^ i := by
    rw [BitVec.ofInt_natCast, BitVec.toNat_ofNat]; exact Nat.mod_eq_of_lt (by omega)
  rw [e]
  show IntKind.i64.wrap ((BitVec.ofInt 64 ((s / 2 ^ i : Nat) : Int) &&& BitVec.ofInt 64 1).toNat : Int) = _
  rw [BitVec.toNat_and, ofI, h1, Nat.and_two_pow_sub_one_eq_mod, IntKind.wrap_i64, Nat.testBit_eq_decide_div_mod_eq]
  by_cases h : s / 2 ^ i % 2 = 1
  · simp [h]
  · have h0 : s / 2 ^ i % 2 = 0 := by omega
    simp [h0]
theorem or_nat (s i : Nat) (hs : s < 4294967296) (hi : i ≤ 30) : bits .or .i64 (s : Int) (wrap64 (2 ^ i)) = ((s ||| 2 ^ i : Nat) : Int) := by
  have := or_shl (s := (s : Int)) (e := (i : Int)) (by omega) (by omega) (by omega) (by omega)
  simpa [withE] using this

end Go.Proofs.Ytffbiflgmlabaaa.C
