/-
  DERIVED. GIVEN WITH THE SEED: THE CARDS: each row of YtelihjanjlklpaaDoorRows.lean that lists a variable, with what it lists TIED to the program's text (the seventh form; the later family's looks); each row that meets fmt, with fmt's text TOLD by the authors' own Lean function (tested against real Go, not proved from fmt's source: count such statements apart). THE CARD IS WHAT COUNTS. Prove the row's statement (the work); the ties are given (YtelihjanjlklpaaDoorTie.lean); close each card by the builder's one call (the guide's Derived/Test/ToyasCard.lean, 'card_holds'). Laid BY PROGRAM, IN A SANDBOX (cutbox-door.mjs). By AI agents, Wed Nov 11 2026. No macro, syntax, notation, axiom, sorry.
-/
import Derived.Test.YtelihjanjlklpaaDoorRows
import GoSem.ClaimSeven
namespace Go.Proofs.YtelihjanjlklpaaDoor
namespace Rows

/-- THE TIED CARD OF 'laws.FnConvolutions'. -/
def fnConvolutionsCard : Claim7 := { stood := { row := fnConvolutionsRow, standIns := [], harness := (true, "679e177b169fdee42da002d75ab757b1759ef430a585659b45735cbadb213b3c"), looks := false }, kinds := [], alts := [], laidByText := true, laidKinds := [.data, .data], laidTests := true, laidLooks := .later }
def FnConvolutionsCardSaid : Prop := Claim7.holds Tryd.pinned (.plain (OpenSpec.ofChange fnConvolutionsSpec)) fnConvolutionsCard

/-- THE TIED CARD OF 'laws.FnExactReduceFunction'. -/
def fnExactReduceFunctionCard : Claim7 := { stood := { row := fnExactReduceFunctionRow, standIns := [], harness := (true, "679e177b169fdee42da002d75ab757b1759ef430a585659b45735cbadb213b3c"), looks := false }, kinds := [], alts := [], laidByText := true, laidKinds := [.data, .data], laidTests := true, laidLooks := .later }
def FnExactReduceFunctionCardSaid : Prop := Claim7.holds Tryd.pinned (.plain (OpenSpec.ofChange fnExactReduceFunctionSpec)) fnExactReduceFunctionCard

/-- THE SECOND FORM's CARD OF 'laws.FnConvolutions'. -/
def fnConvolutionsUptoCard : Claim7 := { stood := { row := fnConvolutionsUptoRow, standIns := [], harness := (true, "679e177b169fdee42da002d75ab757b1759ef430a585659b45735cbadb213b3c"), looks := false }, kinds := [], alts := [], laidByText := true, laidKinds := [.data, .data], laidTests := true, laidLooks := .later }
def FnConvolutionsUptoCardSaid : Prop := Claim7.holds Tryd.pinned (.plain (OpenSpec.upto fnConvolutionsSpec)) fnConvolutionsUptoCard

/-- THE SECOND FORM's CARD OF 'laws.FnExactReduceFunction'. -/
def fnExactReduceFunctionUptoCard : Claim7 := { stood := { row := fnExactReduceFunctionUptoRow, standIns := [], harness := (true, "679e177b169fdee42da002d75ab757b1759ef430a585659b45735cbadb213b3c"), looks := false }, kinds := [], alts := [], laidByText := true, laidKinds := [.data, .data], laidTests := true, laidLooks := .later }
def FnExactReduceFunctionUptoCardSaid : Prop := Claim7.holds Tryd.pinned (.plain (OpenSpec.upto fnExactReduceFunctionSpec)) fnExactReduceFunctionUptoCard
end Rows
end Go.Proofs.YtelihjanjlklpaaDoor
