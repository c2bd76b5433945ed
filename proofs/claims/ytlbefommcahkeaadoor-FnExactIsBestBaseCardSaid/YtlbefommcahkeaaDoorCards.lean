/-
  DERIVED. GIVEN WITH THE SEED: THE CARDS: each row of YtlbefommcahkeaaDoorRows.lean that lists a variable, with what it lists TIED to the program's text (the seventh form; the later family's looks); each row that meets fmt, with fmt's text TOLD by the authors' own Lean function (tested against real Go, not proved from fmt's source: count such statements apart). THE CARD IS WHAT COUNTS. Prove the row's statement (the work); the ties are given (YtlbefommcahkeaaDoorTie.lean); close each card by the builder's one call (the guide's Derived/Test/ToyasCard.lean, 'card_holds'). Laid BY PROGRAM, IN A SANDBOX (cutbox-door.mjs). By AI agents, Wed Nov 11 2026. No macro, syntax, notation, axiom, sorry.
-/
import Derived.Test.YtlbefommcahkeaaDoorRows
import GoSem.ClaimSeven
namespace Go.Proofs.YtlbefommcahkeaaDoor
namespace Rows

/-- THE TIED CARD OF 'laws.FnExactIsBestBase'. -/
def fnExactIsBestBaseCard : Claim7 := { stood := { row := fnExactIsBestBaseRow, standIns := [], harness := (true, "b0c796d8f18f4bcdd2b042c26fc5ce61e9bf7b6bbe3afbf88afe8bda6573fb12"), looks := false }, kinds := [], alts := [], laidByText := true, laidKinds := [.data, .data], laidTests := true, laidLooks := .later }
def FnExactIsBestBaseCardSaid : Prop := Claim7.holds Tryd.pinned (.plain (OpenSpec.ofChange fnExactIsBestBaseSpec)) fnExactIsBestBaseCard

/-- THE SECOND FORM's CARD OF 'laws.FnExactIsBestBase'. -/
def fnExactIsBestBaseUptoCard : Claim7 := { stood := { row := fnExactIsBestBaseUptoRow, standIns := [], harness := (true, "b0c796d8f18f4bcdd2b042c26fc5ce61e9bf7b6bbe3afbf88afe8bda6573fb12"), looks := false }, kinds := [], alts := [], laidByText := true, laidKinds := [.data, .data], laidTests := true, laidLooks := .later }
def FnExactIsBestBaseUptoCardSaid : Prop := Claim7.holds Tryd.pinned (.plain (OpenSpec.upto fnExactIsBestBaseSpec)) fnExactIsBestBaseUptoCard
end Rows
end Go.Proofs.YtlbefommcahkeaaDoor
