/-
  The contracts of spec.EncodeHex, impl.EncodeHex.
-/
import Derived.Test.YtielfnjkfceliaaGreatDoorMathH
import Derived.Test.YtielfnjkfceliaaGreatDoorEncFix
import Derived.Outline
import Derived.Deep.RegionHeld3
import Derived.Deep.AppendLies
namespace Go.Proofs.YtielfnjkfceliaaGreatDoor.C
open Go.RowKit M K
set_option linter.unusedVariables false

theorem hex_row (s : ByteArray) (k : Nat) (hk : k < s.size) (h1 : ((s[k].toNat : Int) / 16).toNat < (⟨#[48, 49, 50, 51, 52, 53, 54, 55, 56, 57, 97, 98, 99, 100, 101, 102]⟩ : ByteArray).size) (h2 : ((s[k].toNat : Int) % 16).toNat < (⟨#[48, 49, 50, 51, 52, 53, 54, 55, 56, 57, 97, 98, 99, 100, 101, 102]⟩ : ByteArray).size) :
    cellsOf (hexL (s.data.toList.take k)) ++ [.int .u8 (((⟨#[48, 49, 50, 51, 52, 53, 54, 55, 56, 57, 97, 98, 99, 100, 101, 102]⟩ : ByteArray)[((s[k].toNat : Int) / 16).toNat]'h1).toNat : Int), .int .u8 (((⟨#[48, 49, 50, 51, 52, 53, 54, 55, 56, 57, 97, 98, 99, 100, 101, 102]⟩ : ByteArray)[((s[k].toNat : Int) % 16).toNat]'h2).toNat : Int)]
    = cellsOf (hexL (s.data.toList.take (k + 1))) := by
  have hc := s[k].toNat_lt
  rw [take_snoc s k hk, hexL_snoc, cellsOf_append, dg_lit (s[k].toNat / 16) _ (by omega) (by omega) h1, dg_lit (s[k].toNat % 16) _ (by omega) (by omega) h2]
  rfl

end Go.Proofs.YtielfnjkfceliaaGreatDoor.C
