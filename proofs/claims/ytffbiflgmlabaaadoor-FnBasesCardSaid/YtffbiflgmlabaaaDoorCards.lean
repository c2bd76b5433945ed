/-
  DERIVED. GIVEN WITH THE SEED: THE CARDS: each row of YtffbiflgmlabaaaDoorRows.lean that lists a variable, with what it lists TIED to the program's text (the seventh form; the later family's looks); each row that meets fmt, with fmt's text TOLD by the authors' own Lean function (tested against real Go, not proved from fmt's source: count such statements apart). THE CARD IS WHAT COUNTS. Prove the row's statement (the work); the ties are given (YtffbiflgmlabaaaDoorTie.lean); close each card by the builder's one call (the guide's Derived/Test/ToyasCard.lean, 'card_holds'). Laid BY PROGRAM, IN A SANDBOX (cutbox-door.mjs). By AI agents, Wed Nov 11 2026. No macro, syntax, notation, axiom, sorry.
-/
import Derived.Test.YtffbiflgmlabaaaDoorRows
import GoSem.ClaimSeven
namespace Go.Proofs.YtffbiflgmlabaaaDoor
namespace Rows

/-- THE TIED CARD OF 'laws.FnBases'. -/
def fnBasesCard : Claim7 := { stood := { row := fnBasesRow, standIns := [], harness := (true, "b349f571ca0b127a0088e826b80d667142245a9e5ffc705dedfc2c2159d98b88"), looks := false }, kinds := [], alts := [], laidByText := true, laidKinds := [.data, .data], laidTests := true, laidLooks := .later }
def FnBasesCardSaid : Prop := Claim7.holds Tryd.pinned (.plain (OpenSpec.ofChange fnBasesSpec)) fnBasesCard

/-- THE TIED CARD OF 'laws.FnExactDualVector'. -/
def fnExactDualVectorCard : Claim7 := { stood := { row := fnExactDualVectorRow, standIns := [], harness := (true, "b349f571ca0b127a0088e826b80d667142245a9e5ffc705dedfc2c2159d98b88"), looks := false }, kinds := [], alts := [], laidByText := true, laidKinds := [.data, .data], laidTests := true, laidLooks := .later }
def FnExactDualVectorCardSaid : Prop := Claim7.holds Tryd.pinned (.plain (OpenSpec.ofChange fnExactDualVectorSpec)) fnExactDualVectorCard

/-- THE TIED CARD OF 'laws.FnExactIsDualVector'. -/
def fnExactIsDualVectorCard : Claim7 := { stood := { row := fnExactIsDualVectorRow, standIns := [], harness := (true, "b349f571ca0b127a0088e826b80d667142245a9e5ffc705dedfc2c2159d98b88"), looks := false }, kinds := [], alts := [], laidByText := true, laidKinds := [.data, .data], laidTests := true, laidLooks := .later }
def FnExactIsDualVectorCardSaid : Prop := Claim7.holds Tryd.pinned (.plain (OpenSpec.ofChange fnExactIsDualVectorSpec)) fnExactIsDualVectorCard

/-- THE TIED CARD OF 'laws.FnExactRaiseVector'. -/
def fnExactRaiseVectorCard : Claim7 := { stood := { row := fnExactRaiseVectorRow, standIns := [], harness := (true, "b349f571ca0b127a0088e826b80d667142245a9e5ffc705dedfc2c2159d98b88"), looks := false }, kinds := [], alts := [], laidByText := true, laidKinds := [.data, .data], laidTests := true, laidLooks := .later }
def FnExactRaiseVectorCardSaid : Prop := Claim7.holds Tryd.pinned (.plain (OpenSpec.ofChange fnExactRaiseVectorSpec)) fnExactRaiseVectorCard

/-- THE TIED CARD OF 'laws.FnExactRankOfVector'. -/
def fnExactRankOfVectorCard : Claim7 := { stood := { row := fnExactRankOfVectorRow, standIns := [], harness := (true, "b349f571ca0b127a0088e826b80d667142245a9e5ffc705dedfc2c2159d98b88"), looks := false }, kinds := [], alts := [], laidByText := true, laidKinds := [.data, .data], laidTests := true, laidLooks := .later }
def FnExactRankOfVectorCardSaid : Prop := Claim7.holds Tryd.pinned (.plain (OpenSpec.ofChange fnExactRankOfVectorSpec)) fnExactRankOfVectorCard

/-- THE SECOND FORM's CARD OF 'laws.FnBases'. -/
def fnBasesUptoCard : Claim7 := { stood := { row := fnBasesUptoRow, standIns := [], harness := (true, "b349f571ca0b127a0088e826b80d667142245a9e5ffc705dedfc2c2159d98b88"), looks := false }, kinds := [], alts := [], laidByText := true, laidKinds := [.data, .data], laidTests := true, laidLooks := .later }
def FnBasesUptoCardSaid : Prop := Claim7.holds Tryd.pinned (.plain (OpenSpec.upto fnBasesSpec)) fnBasesUptoCard

/-- THE SECOND FORM's CARD OF 'laws.FnExactDualVector'. -/
def fnExactDualVectorUptoCard : Claim7 := { stood := { row := fnExactDualVectorUptoRow, standIns := [], harness := (true, "b349f571ca0b127a0088e826b80d667142245a9e5ffc705dedfc2c2159d98b88"), looks := false }, kinds := [], alts := [], laidByText := true, laidKinds := [.data, .data], laidTests := true, laidLooks := .later }
def FnExactDualVectorUptoCardSaid : Prop := Claim7.holds Tryd.pinned (.plain (OpenSpec.upto fnExactDualVectorSpec)) fnExactDualVectorUptoCard

/-- THE SECOND FORM's CARD OF 'laws.FnExactIsDualVector'. -/
def fnExactIsDualVectorUptoCard : Claim7 := { stood := { row := fnExactIsDualVectorUptoRow, standIns := [], harness := (true, "b349f571ca0b127a0088e826b80d667142245a9e5ffc705dedfc2c2159d98b88"), looks := false }, kinds := [], alts := [], laidByText := true, laidKinds := [.data, .data], laidTests := true, laidLooks := .later }
def FnExactIsDualVectorUptoCardSaid : Prop := Claim7.holds Tryd.pinned (.plain (OpenSpec.upto fnExactIsDualVectorSpec)) fnExactIsDualVectorUptoCard

/-- THE SECOND FORM's CARD OF 'laws.FnExactRaiseVector'. -/
def fnExactRaiseVectorUptoCard : Claim7 := { stood := { row := fnExactRaiseVectorUptoRow, standIns := [], harness := (true, "b349f571ca0b127a0088e826b80d667142245a9e5ffc705dedfc2c2159d98b88"), looks := false }, kinds := [], alts := [], laidByText := true, laidKinds := [.data, .data], laidTests := true, laidLooks := .later }
def FnExactRaiseVectorUptoCardSaid : Prop := Claim7.holds Tryd.pinned (.plain (OpenSpec.upto fnExactRaiseVectorSpec)) fnExactRaiseVectorUptoCard

/-- THE SECOND FORM's CARD OF 'laws.FnExactRankOfVector'. -/
def fnExactRankOfVectorUptoCard : Claim7 := { stood := { row := fnExactRankOfVectorUptoRow, standIns := [], harness := (true, "b349f571ca0b127a0088e826b80d667142245a9e5ffc705dedfc2c2159d98b88"), looks := false }, kinds := [], alts := [], laidByText := true, laidKinds := [.data, .data], laidTests := true, laidLooks := .later }
def FnExactRankOfVectorUptoCardSaid : Prop := Claim7.holds Tryd.pinned (.plain (OpenSpec.upto fnExactRankOfVectorSpec)) fnExactRankOfVectorUptoCard
end Rows
end Go.Proofs.YtffbiflgmlabaaaDoor
