/-
  Plain mathematics of chapter 1 (varints). Nothing of the translation.
-/
import Derived.Test.YtielfnjkfceliaaGreatDoorMathA
namespace Go.Proofs.YtielfnjkfceliaaGreatDoor.M
set_option linter.unusedVariables false

/-- The varint of a number below 128 ^ (f + 1). -/
def encV : Nat → Int → List UInt8
  | 0, n => [UInt8.ofNat n.toNat]
  | f + 1, n => if 128 ≤ n then UInt8.ofNat (n % 128 + 128).toNat :: encV f (n / 128) else [UInt8.ofNat n.toNat]

theorem encV_small (f : Nat) (n : Int) (h : n < 128) : encV f n = [UInt8.ofNat n.toNat] := by
  cases f with
  | zero => rfl
  | succ f => unfold encV; rw [if_neg (by omega)]

theorem back_u8 (x : Int) (h0 : 0 ≤ x) (h1 : x ≤ 255) : ((UInt8.ofNat x.toNat).toNat : Int) = x := by
  have : (UInt8.ofNat x.toNat).toNat = x.toNat % 256 := UInt8.toNat_ofNat'
  omega

/-- What holds at the head of the loop: acc is written, m is left. -/
def Var (n : Int) (acc : List UInt8) (m : Int) : Prop :=
  ∃ f, acc ++ encV f m = encV 6 n ∧ 0 ≤ m ∧ m < 128 ^ (f + 1) ∧ acc.length + f = 6

theorem pow7 : (128 : Int) ^ (6 + 1) = 562949953421312 := by decide
theorem Var.start (n : Int) (h0 : 0 ≤ n) (h1 : n ≤ 562949953421311) : Var n [] n := ⟨6, rfl, h0, by rw [pow7]; omega, rfl⟩
theorem Var.step {n m : Int} {acc : List UInt8} (h : Var n acc m) (h1 : 128 ≤ m) : Var n (acc ++ [UInt8.ofNat (m % 128 + 128).toNat]) (m / 128) := by
  obtain ⟨f, he, h0, hb, hl⟩ := h
  cases f with
  | zero => simp at hb; omega
  | succ f =>
    refine ⟨f, ?_, by omega, ?_, by simp; omega⟩
    · rw [← he]
      conv => rhs; unfold encV
      rw [if_pos h1]
      simp
    · have e : (128 : Int) ^ (f + 1 + 1) = 128 ^ (f + 1) * 128 := Int.pow_succ ..
      omega
theorem Var.stop {n m : Int} {acc : List UInt8} (h : Var n acc m) (h1 : m < 128) : acc ++ [UInt8.ofNat m.toNat] = encV 6 n := by
  obtain ⟨f, he, h0, hb, hl⟩ := h
  rw [← he, encV_small f m h1]
theorem Var.bounds {n m : Int} {acc : List UInt8} (h : Var n acc m) : 0 ≤ m ∧ m ≤ 562949953421311 ∧ acc.length ≤ 6 := by
  obtain ⟨f, he, h0, hb, hl⟩ := h
  have : f = 0 ∨ f = 1 ∨ f = 2 ∨ f = 3 ∨ f = 4 ∨ f = 5 ∨ f = 6 := by omega
  rcases this with rfl | rfl | rfl | rfl | rfl | rfl | rfl <;> simp at hb <;> omega

end Go.Proofs.YtielfnjkfceliaaGreatDoor.M
