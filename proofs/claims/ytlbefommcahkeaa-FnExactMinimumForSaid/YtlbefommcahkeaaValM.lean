/-
  Values and gains of functions as plain mathematics.
-/
import Derived.Test.YtlbefommcahkeaaFnM
namespace Go.Proofs.Ytlbefommcahkeaa.M
set_option linter.unusedVariables false

/-- s is a set of n elements. -/
def isSet (n s : Int) : Bool := decide (0 ≤ s) && decide (s < ((2 ^ n.toNat : Nat) : Int))
theorem isSet_yes {n s : Int} (h : isSet n s = true) : 0 ≤ s ∧ s < ((2 ^ n.toNat : Nat) : Int) := by simpa [isSet] using h
theorem isSet_no {n s : Int} (h : isSet n s = false) : s < 0 ∨ ((2 ^ n.toNat : Nat) : Int) ≤ s := by
  have : ¬ (0 ≤ s ∧ s < ((2 ^ n.toNat : Nat) : Int)) := fun hh => by
    have e : isSet n s = true := by simp only [isSet, Bool.and_eq_true, decide_eq_true_eq]; exact hh
    rw [h] at e
    cases e
  omega
def valueOf (n : Int) (xs : List Int) (s : Int) : Int := if isFn n xs = true ∧ isSet n s = true then xs.getD s.toNat 0 else -9999
/-- A set with one more element. -/
def withE (s e : Int) : Nat := s.toNat ||| 2 ^ e.toNat
def gainOf (n : Int) (xs : List Int) (s e : Int) : Int := if isFn n xs = true ∧ isSet n s = true ∧ 0 ≤ e ∧ e < n then xs.getD (withE s e) 0 - xs.getD s.toNat 0 else -9999
theorem withE_lt {n s e : Int} (h0 : 0 ≤ n) (hs : isSet n s = true) (e0 : 0 ≤ e) (en : e < n) : withE s e < 2 ^ n.toNat := by
  obtain ⟨h1, h2⟩ := isSet_yes hs
  exact Nat.or_lt_two_pow (by omega) (Nat.pow_lt_pow_right (by decide) (by omega))

end Go.Proofs.Ytlbefommcahkeaa.M
