/-
  The law of functions, for bytes of every length.
-/
import Derived.Test.YtielfnjkfceliaaGreatDoorLawFunctions
namespace Go.Proofs.YtielfnjkfceliaaGreatDoor.C
open Go.RowKit M K
set_option linter.unusedVariables false

set_option maxRecDepth 100000 in
theorem law_fns_big (a : Option Addr) (len cap : Nat) (w : World) (hlen : len ≤ 9223372036854775807) (hb : (1048576 : Int) < (len : Int)) :
    Calls Tryz.prog 3 #[.slice a len cap] w (RetV w (.bool true)) := by
  have hbd : decide ((1048576 : Int) < (len : Int)) = true := by simpa using hb
  go_enter Tryz.func3, Tryz.ntmps3
  go_wp2_with fail
  refine (big_any _ _ _ _ hlen).mono ?_
  rw [hbd]
  rintro e w' ⟨rfl, rfl⟩
  go_wp2_with fail
  go_ret
  exact ⟨rfl, Below.refl _ _⟩

set_option maxRecDepth 100000 in
theorem law_fns_any (a : Option Addr) (len cap : Nat) (w : World) (hlen : len ≤ 9223372036854775807) (hy : Hid (Bytes w.heap.size w (.slice a len cap) len)) (HT : Hid (Tab w)) (HBR : Hid (Brujn w)) (HML : Hid (MaxLenAt w)) :
    Calls Tryz.prog 3 #[.slice a len cap] w (RetV w (.bool true)) := by
  by_cases hb : (1048576 : Int) < (len : Int)
  · exact law_fns_big a len cap w hlen hb
  · exact law_fns a len cap w (by omega) hy HT HBR HML

end Go.Proofs.YtielfnjkfceliaaGreatDoor.C
