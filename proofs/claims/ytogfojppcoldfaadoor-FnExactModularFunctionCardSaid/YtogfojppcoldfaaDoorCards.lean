/-
  DERIVED. GIVEN WITH THE SEED: THE CARDS: each row of YtogfojppcoldfaaDoorRows.lean that lists a variable, with what it lists TIED to the program's text (the seventh form; the later family's looks); each row that meets fmt, with fmt's text TOLD by the authors' own Lean function (tested against real Go, not proved from fmt's source: count such statements apart). THE CARD IS WHAT COUNTS. Prove the row's statement (the work); the ties are given (YtogfojppcoldfaaDoorTie.lean); close each card by the builder's one call (the guide's Derived/Test/ToyasCard.lean, 'card_holds'). Laid BY PROGRAM, IN A SANDBOX (cutbox-door.mjs). By AI agents, Wed Nov 11 2026. No macro, syntax, notation, axiom, sorry.
-/
import Derived.Test.YtogfojppcoldfaaDoorRows
import GoSem.ClaimSeven
namespace Go.Proofs.YtogfojppcoldfaaDoor
namespace Rows

/-- THE TIED CARD OF 'laws.FnExactModularFunction'. -/
def fnExactModularFunctionCard : Claim7 := { stood := { row := fnExactModularFunctionRow, standIns := [], harness := (true, "a2589fe498b6a569f0220d079d17896b063567ad9a8424f9312187dfedcb77da"), looks := false }, kinds := [], alts := [], laidByText := true, laidKinds := [.data, .data], laidTests := true, laidLooks := .later }
def FnExactModularFunctionCardSaid : Prop := Claim7.holds Tryd.pinned (.plain (OpenSpec.ofChange fnExactModularFunctionSpec)) fnExactModularFunctionCard

/-- THE SECOND FORM's CARD OF 'laws.FnExactModularFunction'. -/
def fnExactModularFunctionUptoCard : Claim7 := { stood := { row := fnExactModularFunctionUptoRow, standIns := [], harness := (true, "a2589fe498b6a569f0220d079d17896b063567ad9a8424f9312187dfedcb77da"), looks := false }, kinds := [], alts := [], laidByText := true, laidKinds := [.data, .data], laidTests := true, laidLooks := .later }
def FnExactModularFunctionUptoCardSaid : Prop := Claim7.holds Tryd.pinned (.plain (OpenSpec.upto fnExactModularFunctionSpec)) fnExactModularFunctionUptoCard
end Rows
end Go.Proofs.YtogfojppcoldfaaDoor
