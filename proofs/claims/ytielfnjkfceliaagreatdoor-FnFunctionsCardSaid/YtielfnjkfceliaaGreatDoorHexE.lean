/-
  The contract of spec.EncodeHex, and the law that compares it with impl.EncodeHex.
-/
import Derived.Test.YtielfnjkfceliaaGreatDoorHexS
namespace Go.Proofs.YtielfnjkfceliaaGreatDoor.C
open Go.RowKit M K
set_option linter.unusedVariables false

theorem hex_row' (s : ByteArray) (k : Nat) (hk : k < s.size) :
    cellsOf (hexL (s.data.toList.take k)) ++ [.int .u8 ((dg ((s[k].toNat : Int) / 16).toNat).toNat : Int), .int .u8 ((dg ((s[k].toNat : Int) % 16).toNat).toNat : Int)]
    = cellsOf (hexL (s.data.toList.take (k + 1))) := by
  rw [take_snoc s k hk, hexL_snoc, cellsOf_append, show ((s[k].toNat : Int) / 16).toNat = s[k].toNat / 16 by omega, show ((s[k].toNat : Int) % 16).toNat = s[k].toNat % 16 by omega]
  rfl

end Go.Proofs.YtielfnjkfceliaaGreatDoor.C
