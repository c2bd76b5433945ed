/-
  The contracts of impl's violates and ViolationOf.
-/
import Derived.Test.YtpefnfkodcidkaaViol
import Derived.Test.YtpefnfkodcidkaaIsFnI
namespace Go.Proofs.Ytpefnfkodcidkaa.C
open Go.RowKit K M
set_option linter.unusedVariables false
set_option linter.unusedSimpArgs false

theorem or_in {s i : Nat} (h : s.testBit i = true) : s ||| 2 ^ i = s := by
  apply Nat.eq_of_testBit_eq
  intro j
  rw [Nat.testBit_or, Nat.testBit_two_pow]
  by_cases e : i = j
  · subst e; simp [h]
  · simp [e]
theorem or_swap (s i k : Nat) : s ||| 2 ^ i ||| 2 ^ k = s ||| 2 ^ k ||| 2 ^ i := by
  apply Nat.eq_of_testBit_eq
  intro j
  simp only [Nat.testBit_or]
  cases s.testBit j <;> cases (2 ^ i).testBit j <;> cases (2 ^ k).testBit j <;> rfl
/-- The test without a look at whether the elements are in the set. -/
theorem bad_plain (xs : List Int) (s i k : Nat) : decide (xs.getD (s ||| 2 ^ i) 0 + xs.getD (s ||| 2 ^ k) 0 < xs.getD (s ||| 2 ^ i ||| 2 ^ k) 0 + xs.getD s 0) = bad xs s i k := by
  unfold bad
  cases h1 : s.testBit i
  · cases h2 : s.testBit k
    · simp
    · rw [or_swap, or_in h2]
      simp
  · rw [or_in h1]
    simp
    omega


end Go.Proofs.Ytpefnfkodcidkaa.C
