/-
  DERIVED. GIVEN WITH THE SEED: THE CARDS: each row of YtfpoiiennlhphaaDoorRows.lean that lists a variable, with what it lists TIED to the program's text (the seventh form; the later family's looks); each row that meets fmt, with fmt's text TOLD by the authors' own Lean function (tested against real Go, not proved from fmt's source: count such statements apart). THE CARD IS WHAT COUNTS. Prove the row's statement (the work); the ties are given (YtfpoiiennlhphaaDoorTie.lean); close each card by the builder's one call (the guide's Derived/Test/ToyasCard.lean, 'card_holds'). Laid BY PROGRAM, IN A SANDBOX (cutbox-door.mjs). By AI agents, Wed Nov 11 2026. No macro, syntax, notation, axiom, sorry.
-/
import Derived.Test.YtfpoiiennlhphaaDoorRows
import GoSem.ClaimSeven
namespace Go.Proofs.YtfpoiiennlhphaaDoor
namespace Rows

/-- THE TIED CARD OF 'laws.FnClosures'. -/
def fnClosuresCard : Claim7 := { stood := { row := fnClosuresRow, standIns := [], harness := (true, "10d5bb7b8cf18cbbbedd7843b41db59651d7f121ce5a4fca064f1dc3c1e8ddfc"), looks := false }, kinds := [], alts := [], laidByText := true, laidKinds := [.data, .data], laidTests := true, laidLooks := .later }
def FnClosuresCardSaid : Prop := Claim7.holds Tryd.pinned (.plain (OpenSpec.ofChange fnClosuresSpec)) fnClosuresCard

/-- THE TIED CARD OF 'laws.FnConvolutions'. -/
def fnConvolutionsCard : Claim7 := { stood := { row := fnConvolutionsRow, standIns := [], harness := (true, "10d5bb7b8cf18cbbbedd7843b41db59651d7f121ce5a4fca064f1dc3c1e8ddfc"), looks := false }, kinds := [], alts := [], laidByText := true, laidKinds := [.data, .data], laidTests := true, laidLooks := .later }
def FnConvolutionsCardSaid : Prop := Claim7.holds Tryd.pinned (.plain (OpenSpec.ofChange fnConvolutionsSpec)) fnConvolutionsCard

/-- THE TIED CARD OF 'laws.FnExactReduceFunction'. -/
def fnExactReduceFunctionCard : Claim7 := { stood := { row := fnExactReduceFunctionRow, standIns := [], harness := (true, "10d5bb7b8cf18cbbbedd7843b41db59651d7f121ce5a4fca064f1dc3c1e8ddfc"), looks := false }, kinds := [], alts := [], laidByText := true, laidKinds := [.data, .data], laidTests := true, laidLooks := .later }
def FnExactReduceFunctionCardSaid : Prop := Claim7.holds Tryd.pinned (.plain (OpenSpec.ofChange fnExactReduceFunctionSpec)) fnExactReduceFunctionCard

/-- THE SECOND FORM's CARD OF 'laws.FnClosures'. -/
def fnClosuresUptoCard : Claim7 := { stood := { row := fnClosuresUptoRow, standIns := [], harness := (true, "10d5bb7b8cf18cbbbedd7843b41db59651d7f121ce5a4fca064f1dc3c1e8ddfc"), looks := false }, kinds := [], alts := [], laidByText := true, laidKinds := [.data, .data], laidTests := true, laidLooks := .later }
def FnClosuresUptoCardSaid : Prop := Claim7.holds Tryd.pinned (.plain (OpenSpec.upto fnClosuresSpec)) fnClosuresUptoCard

/-- THE SECOND FORM's CARD OF 'laws.FnConvolutions'. -/
def fnConvolutionsUptoCard : Claim7 := { stood := { row := fnConvolutionsUptoRow, standIns := [], harness := (true, "10d5bb7b8cf18cbbbedd7843b41db59651d7f121ce5a4fca064f1dc3c1e8ddfc"), looks := false }, kinds := [], alts := [], laidByText := true, laidKinds := [.data, .data], laidTests := true, laidLooks := .later }
def FnConvolutionsUptoCardSaid : Prop := Claim7.holds Tryd.pinned (.plain (OpenSpec.upto fnConvolutionsSpec)) fnConvolutionsUptoCard

/-- THE SECOND FORM's CARD OF 'laws.FnExactReduceFunction'. -/
def fnExactReduceFunctionUptoCard : Claim7 := { stood := { row := fnExactReduceFunctionUptoRow, standIns := [], harness := (true, "10d5bb7b8cf18cbbbedd7843b41db59651d7f121ce5a4fca064f1dc3c1e8ddfc"), looks := false }, kinds := [], alts := [], laidByText := true, laidKinds := [.data, .data], laidTests := true, laidLooks := .later }
def FnExactReduceFunctionUptoCardSaid : Prop := Claim7.holds Tryd.pinned (.plain (OpenSpec.upto fnExactReduceFunctionSpec)) fnExactReduceFunctionUptoCard
end Rows
end Go.Proofs.YtfpoiiennlhphaaDoor
