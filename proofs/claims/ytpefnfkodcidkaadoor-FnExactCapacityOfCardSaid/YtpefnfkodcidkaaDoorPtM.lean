/-
  The parts of a set, one after another, as plain mathematics.
-/
import Derived.Test.YtpefnfkodcidkaaDoorReM
import Derived.Test.YtpefnfkodcidkaaDoorFunH
namespace Go.Proofs.YtpefnfkodcidkaaDoor.M
open Go.RowKit
set_option linter.unusedVariables false

/-- Part number i of s, in ascending order. -/
def partN (s i : Nat) : Nat := spread (els s) i (ones s)
def parts (s : Nat) : List Int := tab (2 ^ ones s) fun i => ((partN s i : Nat) : Int)
theorem parts_len (s : Nat) : (parts s).length = 2 ^ ones s := tab_length _ _
theorem parts_at {s i : Nat} (h : i < 2 ^ ones s) : (parts s).getD i 0 = ((partN s i : Nat) : Int) := by unfold parts; rw [tab_at _ h]
theorem part_zero (s : Nat) : partN s 0 = 0 := spread_zero _ _
theorem part_le : ∀ s, s < 32 → ∀ i, i < 32 → partN s i ≤ s := by decide +kernel
theorem part_up : ∀ s, s < 32 → ∀ i, i < 32 → i + 1 < 2 ^ ones s → partN s i < partN s (i + 1) := by decide +kernel
theorem part_last : ∀ s, s < 32 → partN s (2 ^ ones s - 1) = s := by decide +kernel
theorem part_next : ∀ s, s < 32 → ∀ i, i < 32 → i + 1 < 2 ^ ones s → bits .and .i64 (IntKind.i64.wrap (bits .or .i64 (partN s i : Int) (bits .xor .i64 (-1) (s : Int)) + 1)) (s : Int) = ((partN s (i + 1) : Nat) : Int) := by decide +kernel
theorem ones_pow {s : Nat} (h : s < 32) : 2 ^ ones s ≤ 32 := by
  have h1 := ones_le5 5 (Nat.le_refl _) s (by omega)
  exact Nat.le_trans (Nat.pow_le_pow_right (by decide) h1) (by decide)
theorem part_ne {s i : Nat} (h : s < 32) (hi : i + 1 < 2 ^ ones s) : ((partN s i : Int) == (s : Int)) = false := by
  have h1 := ones_pow h
  have h2 := part_up s h i (by omega) hi
  have h3 := part_le s h (i + 1) (by omega)
  exact beq_eq_false_iff_ne.2 (by omega)
theorem part_end {s i : Nat} (h : s < 32) (hi : i + 1 = 2 ^ ones s) : partN s i = s := by
  have := part_last s h
  rwa [← hi, Nat.add_sub_cancel] at this
theorem restV_part (xs : List Int) (s i : Nat) : restV xs s i = xs.getD (partN s i) 0 := rfl
theorem contV_part (xs : List Int) (s r i : Nat) : contV xs s r i = xs.getD (s ||| partN r i) 0 - xs.getD s 0 := rfl

end Go.Proofs.YtpefnfkodcidkaaDoor.M
