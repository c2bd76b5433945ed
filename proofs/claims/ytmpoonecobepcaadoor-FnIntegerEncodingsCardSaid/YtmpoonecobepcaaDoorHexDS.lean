/-
  The contract of spec.DecodeHex.
-/
import Derived.Test.YtmpoonecobepcaaDoorHexD
namespace Go.Proofs.YtmpoonecobepcaaDoor.C
open Go.RowKit M K
set_option linter.unusedVariables false

theorem ret_dh {s : ByteArray} {b : Bool} {r : ByteArray} (h : b = dhB s ∧ r = dhS s) : Ending.returned (.tuple #[.string r, .bool b]) = .returned (.tuple #[.string (dhS s), .bool (dhB s)]) := by
  obtain ⟨rfl, rfl⟩ := h; rfl

end Go.Proofs.YtmpoonecobepcaaDoor.C
