/-
  Plain mathematics of chapter 1 (decimal numerals). Nothing of the translation.
-/
import Derived.Test.YtielfnjkfceliaaGreatDoorMathX
import Derived.Lib.ItoaNum
import Derived.Lib.ItoaMem
import Derived.Lib.ItoaLen
namespace Go.Proofs.YtielfnjkfceliaaGreatDoor.M
open Go.Lib (decDigits itoa nDigits)
set_option linter.unusedVariables false

/-- A decimal digit. -/
def dgt (d : Nat) : UInt8 := UInt8.ofNat (48 + d)
theorem dgt_of (x : Int) (d : Nat) (h : x = (d : Int)) : UInt8.ofNat (48 + x).toNat = dgt d := by
  subst h; unfold dgt; congr 1

/-- The numeral without the zero's: nothing for 0. -/
def dd (m : Nat) : List UInt8 := if m = 0 then [] else decDigits m
theorem dd_step (m : Nat) (h : 0 < m) : dd m = dd (m / 10) ++ [UInt8.ofNat (48 + m % 10)] := by
  unfold dd
  rw [if_neg (by omega)]
  by_cases h1 : m < 10
  · rw [Lib.decDigits_one h1, if_pos (by omega)]
    simp
    congr 1
    omega
  · rw [if_neg (by omega), decDigits, dif_neg h1]
theorem dd_pos (m : Nat) (h : 0 < m) : dd m = decDigits m := by unfold dd; rw [if_neg (by omega)]

theorem len_bound (m : Nat) (h : m ≤ 9223372036854775808) : (decDigits m).length ≤ 21 := by
  rcases Nat.eq_zero_or_pos m with rfl | hp
  · rw [Lib.decDigits_one (by decide)]; decide
  · have := Lib.itoa_length_le (-(m : Int)) (by omega) (by omega)
    rw [Lib.itoa_neg m hp] at this
    simp at this; omega

/-- What holds at the head of the loop that writes a numeral from the right. -/
def Num (M : Nat) (m : Nat) (out : List UInt8) : Prop := dd m ++ out = decDigits M ∧ m ≤ M
theorem Num.start (M : Nat) (h : 0 < M) : Num M M [] := ⟨by rw [dd_pos M h]; simp, Nat.le_refl _⟩
theorem Num.step {M m : Nat} {out : List UInt8} (h : Num M m out) (hm : 0 < m) : Num M (m / 10) (dgt (m % 10) :: out) := by
  obtain ⟨a, b⟩ := h
  refine ⟨?_, by omega⟩
  rw [← a, dd_step m hm]
  simp [dgt]
theorem Num.stop {M : Nat} {out : List UInt8} (h : Num M 0 out) : out = decDigits M := h.1
theorem Num.len {M m : Nat} {out : List UInt8} (h : Num M m out) (hM : M ≤ 9223372036854775808) : out.length ≤ 21 := by
  have := len_bound M hM
  rw [← h.1] at this
  simp at this; omega

end Go.Proofs.YtielfnjkfceliaaGreatDoor.M
