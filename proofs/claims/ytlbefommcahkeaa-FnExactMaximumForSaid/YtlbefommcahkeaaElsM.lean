/-
  The elements of a set as plain mathematics: the places of the ones of a number.
-/
import Derived.Lib.TrailingZeros
import Derived.Test.YtlbefommcahkeaaValM
namespace Go.Proofs.Ytlbefommcahkeaa.M
set_option linter.unusedVariables false

/-- The places of x's ones, from place i on; f bounds how many places are looked at. -/
def elsF : Nat → Nat → Nat → List Int
  | 0, _, _ => []
  | f + 1, i, x => if x = 0 then [] else if x % 2 = 1 then (i : Int) :: elsF f (i + 1) (x / 2) else elsF f (i + 1) (x / 2)
theorem elsF_zero (f i : Nat) : elsF f i 0 = [] := by cases f <;> rfl
theorem elsF_odd {f i x : Nat} (h : x % 2 = 1) : elsF (f + 1) i x = (i : Int) :: elsF f (i + 1) (x / 2) := by
  simp only [elsF]
  rw [if_neg (by omega), if_pos h]
theorem elsF_even {f i x : Nat} (h0 : 0 < x) (h : ¬ x % 2 = 1) : elsF (f + 1) i x = elsF f (i + 1) (x / 2) := by
  simp only [elsF]
  rw [if_neg (by omega), if_neg h]
theorem elsF_len : ∀ f i x, (elsF f i x).length ≤ f
  | 0, _, _ => by simp [elsF]
  | f + 1, i, x => by
    have := elsF_len f (i + 1) (x / 2)
    simp only [elsF]
    split
    · simp
    · split
      · simp; omega
      · omega
/-- The elements of a set of at most ten. -/
def els (x : Nat) : List Int := elsF 10 0 x
theorem els_len (x : Nat) : (els x).length ≤ 10 := elsF_len 10 0 x
/-- The first one, and what is left without it: of every set of at most ten elements. -/
theorem els_low : ∀ x, x < 1024 → x ≠ 0 → els x = ((Lib.ctz 64 x : Nat) : Int) :: els (x &&& (x - 1)) := by decide +kernel
theorem els_less : ∀ x, x < 1024 → x ≠ 0 → (x &&& (x - 1)) < x := by decide +kernel
def elementsOf (n s : Int) : List Int := if 0 ≤ n ∧ n ≤ 10 ∧ isSet n s = true then els s.toNat else []
theorem elementsOf_len (n s : Int) : (elementsOf n s).length ≤ 10 := by
  unfold elementsOf
  split
  · exact els_len _
  · simp
theorem set_lt {n s : Int} (h0 : 0 ≤ n) (h10 : n ≤ 10) (hs : isSet n s = true) : ∃ S : Nat, s = (S : Int) ∧ S < 1024 := by
  obtain ⟨h1, h2⟩ := isSet_yes hs
  obtain ⟨S, rfl⟩ := Int.eq_ofNat_of_zero_le h1
  have : 2 ^ n.toNat ≤ 2 ^ 10 := Nat.pow_le_pow_right (by decide) (by omega)
  exact ⟨S, rfl, by omega⟩

end Go.Proofs.Ytlbefommcahkeaa.M
