/-
  Plain mathematics of chapter 1 (hexadecimal digits). Nothing of the translation.
-/
import Derived.Test.YtielfnjkfceliaaGreatDoorMathV
import Derived.Laws.Strings
namespace Go.Proofs.YtielfnjkfceliaaGreatDoor.M
set_option linter.unusedVariables false

/-- The digits. -/
def hexS : ByteArray := ⟨#[48, 49, 50, 51, 52, 53, 54, 55, 56, 57, 97, 98, 99, 100, 101, 102]⟩
def dg (k : Nat) : UInt8 := if h : k < 16 then hexS[k]'h else 0
theorem dg_at (k : Nat) (h : k < 16) : hexS[k]'h = dg k := by unfold dg; rw [dif_pos h]

/-- A digit as the walk writes it. -/
theorem dg_lit (x : Nat) (i : Int) (hx : i = (x : Int)) (h16 : x < 16) (h : i.toNat < (⟨#[48, 49, 50, 51, 52, 53, 54, 55, 56, 57, 97, 98, 99, 100, 101, 102]⟩ : ByteArray).size) :
    (⟨#[48, 49, 50, 51, 52, 53, 54, 55, 56, 57, 97, 98, 99, 100, 101, 102]⟩ : ByteArray)[i.toNat]'h = dg x := by
  subst hx
  exact dg_at x h16

/-- The two digits of each byte. -/
def hexL (l : List UInt8) : List UInt8 := l.flatMap fun c => [dg (c.toNat / 16), dg (c.toNat % 16)]
theorem hexL_snoc (l : List UInt8) (c : UInt8) : hexL (l ++ [c]) = hexL l ++ [dg (c.toNat / 16), dg (c.toNat % 16)] := by
  simp [hexL, List.flatMap_append]
theorem hexL_length (l : List UInt8) : (hexL l).length = 2 * l.length := by
  induction l with
  | nil => rfl
  | cons c l ih => simp only [hexL, List.flatMap_cons, List.length_append] at ih ⊢; rw [ih]; simp; omega

end Go.Proofs.YtielfnjkfceliaaGreatDoor.M
