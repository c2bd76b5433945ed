/-
  DERIVED. GIVEN WITH THE SEED: THE CARDS: each row of YtlhajcfmlnomjaaDoorRows.lean that lists a variable, with what it lists TIED to the program's text (the seventh form; the later family's looks); each row that meets fmt, with fmt's text TOLD by the authors' own Lean function (tested against real Go, not proved from fmt's source: count such statements apart). THE CARD IS WHAT COUNTS. Prove the row's statement (the work); the ties are given (YtlhajcfmlnomjaaDoorTie.lean); close each card by the builder's one call (the guide's Derived/Test/ToyasCard.lean, 'card_holds'). Laid BY PROGRAM, IN A SANDBOX (cutbox-door.mjs). By AI agents, Wed Nov 11 2026. No macro, syntax, notation, axiom, sorry.
-/
import Derived.Test.YtlhajcfmlnomjaaDoorRows
import GoSem.ClaimSeven
namespace Go.Proofs.YtlhajcfmlnomjaaDoor
namespace Rows

/-- THE TIED CARD OF 'laws.FnExactFormatFunction'. -/
def fnExactFormatFunctionCard : Claim7 := { stood := { row := fnExactFormatFunctionRow, standIns := [], harness := (true, "3852f1f7ea6b5347e6c73a046d64982901c6c06e7aed9f0ea52cfa6251c2f06f"), looks := false }, kinds := [], alts := [], laidByText := true, laidKinds := [.data, .data, .data], laidTests := true, laidLooks := .later }
def FnExactFormatFunctionCardSaid : Prop := Claim7.holds Tryd.pinned (.plain (OpenSpec.ofChange fnExactFormatFunctionSpec)) fnExactFormatFunctionCard

/-- THE TIED CARD OF 'laws.FnExactParseFunction'. -/
def fnExactParseFunctionCard : Claim7 := { stood := { row := fnExactParseFunctionRow, standIns := [], harness := (true, "3852f1f7ea6b5347e6c73a046d64982901c6c06e7aed9f0ea52cfa6251c2f06f"), looks := false }, kinds := [], alts := [], laidByText := true, laidKinds := [.data, .data, .data, .data, .pinned], laidTests := true, laidLooks := .later }
def FnExactParseFunctionCardSaid : Prop := Claim7.holds Tryd.pinned (.plain (OpenSpec.ofChange fnExactParseFunctionSpec)) fnExactParseFunctionCard

/-- THE TIED CARD OF 'laws.FnExactElementsOf'. -/
def fnExactElementsOfCard : Claim7 := { stood := { row := fnExactElementsOfRow, standIns := [], harness := (true, "3852f1f7ea6b5347e6c73a046d64982901c6c06e7aed9f0ea52cfa6251c2f06f"), looks := false }, kinds := [], alts := [], laidByText := true, laidKinds := [.data, .data], laidTests := true, laidLooks := .later }
def FnExactElementsOfCardSaid : Prop := Claim7.holds Tryd.pinned (.plain (OpenSpec.ofChange fnExactElementsOfSpec)) fnExactElementsOfCard

/-- THE SECOND FORM's CARD OF 'laws.FnExactFormatFunction'. -/
def fnExactFormatFunctionUptoCard : Claim7 := { stood := { row := fnExactFormatFunctionUptoRow, standIns := [], harness := (true, "3852f1f7ea6b5347e6c73a046d64982901c6c06e7aed9f0ea52cfa6251c2f06f"), looks := false }, kinds := [], alts := [], laidByText := true, laidKinds := [.data, .data, .data], laidTests := true, laidLooks := .later }
def FnExactFormatFunctionUptoCardSaid : Prop := Claim7.holds Tryd.pinned (.plain (OpenSpec.upto fnExactFormatFunctionSpec)) fnExactFormatFunctionUptoCard

/-- THE SECOND FORM's CARD OF 'laws.FnExactParseFunction'. -/
def fnExactParseFunctionUptoCard : Claim7 := { stood := { row := fnExactParseFunctionUptoRow, standIns := [], harness := (true, "3852f1f7ea6b5347e6c73a046d64982901c6c06e7aed9f0ea52cfa6251c2f06f"), looks := false }, kinds := [], alts := [], laidByText := true, laidKinds := [.data, .data, .data, .data, .pinned], laidTests := true, laidLooks := .later }
def FnExactParseFunctionUptoCardSaid : Prop := Claim7.holds Tryd.pinned (.plain (OpenSpec.upto fnExactParseFunctionSpec)) fnExactParseFunctionUptoCard

/-- THE SECOND FORM's CARD OF 'laws.FnExactElementsOf'. -/
def fnExactElementsOfUptoCard : Claim7 := { stood := { row := fnExactElementsOfUptoRow, standIns := [], harness := (true, "3852f1f7ea6b5347e6c73a046d64982901c6c06e7aed9f0ea52cfa6251c2f06f"), looks := false }, kinds := [], alts := [], laidByText := true, laidKinds := [.data, .data], laidTests := true, laidLooks := .later }
def FnExactElementsOfUptoCardSaid : Prop := Claim7.holds Tryd.pinned (.plain (OpenSpec.upto fnExactElementsOfSpec)) fnExactElementsOfUptoCard
end Rows
end Go.Proofs.YtlhajcfmlnomjaaDoor
