/-
  DERIVED. GIVEN WITH THE SEED: THE CARDS: each row of YtpefnfkodcidkaaDoorRows.lean that lists a variable, with what it lists TIED to the program's text (the seventh form; the later family's looks); each row that meets fmt, with fmt's text TOLD by the authors' own Lean function (tested against real Go, not proved from fmt's source: count such statements apart). THE CARD IS WHAT COUNTS. Prove the row's statement (the work); the ties are given (YtpefnfkodcidkaaDoorTie.lean); close each card by the builder's one call (the guide's Derived/Test/ToyasCard.lean, 'card_holds'). Laid BY PROGRAM, IN A SANDBOX (cutbox-door.mjs). By AI agents, Wed Nov 11 2026. No macro, syntax, notation, axiom, sorry.
-/
import Derived.Test.YtpefnfkodcidkaaDoorRows
import GoSem.ClaimSeven
namespace Go.Proofs.YtpefnfkodcidkaaDoor
namespace Rows

/-- THE TIED CARD OF 'laws.FnExactIsBelow'. -/
def fnExactIsBelowCard : Claim7 := { stood := { row := fnExactIsBelowRow, standIns := [], harness := (true, "c94a0c427ec461d874725ea63e96eb878057ea7f2aef344cb4bd479506fed312"), looks := false }, kinds := [], alts := [], laidByText := true, laidKinds := [.data, .data], laidTests := true, laidLooks := .later }
def FnExactIsBelowCardSaid : Prop := Claim7.holds Tryd.pinned (.plain (OpenSpec.ofChange fnExactIsBelowSpec)) fnExactIsBelowCard

/-- THE TIED CARD OF 'laws.FnExactIsBase'. -/
def fnExactIsBaseCard : Claim7 := { stood := { row := fnExactIsBaseRow, standIns := [], harness := (true, "c94a0c427ec461d874725ea63e96eb878057ea7f2aef344cb4bd479506fed312"), looks := false }, kinds := [], alts := [], laidByText := true, laidKinds := [.data, .data], laidTests := true, laidLooks := .later }
def FnExactIsBaseCardSaid : Prop := Claim7.holds Tryd.pinned (.plain (OpenSpec.ofChange fnExactIsBaseSpec)) fnExactIsBaseCard

/-- THE TIED CARD OF 'laws.FnExactTightSets'. -/
def fnExactTightSetsCard : Claim7 := { stood := { row := fnExactTightSetsRow, standIns := [], harness := (true, "c94a0c427ec461d874725ea63e96eb878057ea7f2aef344cb4bd479506fed312"), looks := false }, kinds := [], alts := [], laidByText := true, laidKinds := [.data, .data], laidTests := true, laidLooks := .later }
def FnExactTightSetsCardSaid : Prop := Claim7.holds Tryd.pinned (.plain (OpenSpec.ofChange fnExactTightSetsSpec)) fnExactTightSetsCard

/-- THE TIED CARD OF 'laws.FnExactCapacityOf'. -/
def fnExactCapacityOfCard : Claim7 := { stood := { row := fnExactCapacityOfRow, standIns := [], harness := (true, "c94a0c427ec461d874725ea63e96eb878057ea7f2aef344cb4bd479506fed312"), looks := false }, kinds := [], alts := [], laidByText := true, laidKinds := [.data, .data], laidTests := true, laidLooks := .later }
def FnExactCapacityOfCardSaid : Prop := Claim7.holds Tryd.pinned (.plain (OpenSpec.ofChange fnExactCapacityOfSpec)) fnExactCapacityOfCard

/-- THE TIED CARD OF 'laws.FnExactExchangeCapacity'. -/
def fnExactExchangeCapacityCard : Claim7 := { stood := { row := fnExactExchangeCapacityRow, standIns := [], harness := (true, "c94a0c427ec461d874725ea63e96eb878057ea7f2aef344cb4bd479506fed312"), looks := false }, kinds := [], alts := [], laidByText := true, laidKinds := [.data, .data], laidTests := true, laidLooks := .later }
def FnExactExchangeCapacityCardSaid : Prop := Claim7.holds Tryd.pinned (.plain (OpenSpec.ofChange fnExactExchangeCapacitySpec)) fnExactExchangeCapacityCard

/-- THE SECOND FORM's CARD OF 'laws.FnExactIsBelow'. -/
def fnExactIsBelowUptoCard : Claim7 := { stood := { row := fnExactIsBelowUptoRow, standIns := [], harness := (true, "c94a0c427ec461d874725ea63e96eb878057ea7f2aef344cb4bd479506fed312"), looks := false }, kinds := [], alts := [], laidByText := true, laidKinds := [.data, .data], laidTests := true, laidLooks := .later }
def FnExactIsBelowUptoCardSaid : Prop := Claim7.holds Tryd.pinned (.plain (OpenSpec.upto fnExactIsBelowSpec)) fnExactIsBelowUptoCard

/-- THE SECOND FORM's CARD OF 'laws.FnExactIsBase'. -/
def fnExactIsBaseUptoCard : Claim7 := { stood := { row := fnExactIsBaseUptoRow, standIns := [], harness := (true, "c94a0c427ec461d874725ea63e96eb878057ea7f2aef344cb4bd479506fed312"), looks := false }, kinds := [], alts := [], laidByText := true, laidKinds := [.data, .data], laidTests := true, laidLooks := .later }
def FnExactIsBaseUptoCardSaid : Prop := Claim7.holds Tryd.pinned (.plain (OpenSpec.upto fnExactIsBaseSpec)) fnExactIsBaseUptoCard

/-- THE SECOND FORM's CARD OF 'laws.FnExactTightSets'. -/
def fnExactTightSetsUptoCard : Claim7 := { stood := { row := fnExactTightSetsUptoRow, standIns := [], harness := (true, "c94a0c427ec461d874725ea63e96eb878057ea7f2aef344cb4bd479506fed312"), looks := false }, kinds := [], alts := [], laidByText := true, laidKinds := [.data, .data], laidTests := true, laidLooks := .later }
def FnExactTightSetsUptoCardSaid : Prop := Claim7.holds Tryd.pinned (.plain (OpenSpec.upto fnExactTightSetsSpec)) fnExactTightSetsUptoCard

/-- THE SECOND FORM's CARD OF 'laws.FnExactCapacityOf'. -/
def fnExactCapacityOfUptoCard : Claim7 := { stood := { row := fnExactCapacityOfUptoRow, standIns := [], harness := (true, "c94a0c427ec461d874725ea63e96eb878057ea7f2aef344cb4bd479506fed312"), looks := false }, kinds := [], alts := [], laidByText := true, laidKinds := [.data, .data], laidTests := true, laidLooks := .later }
def FnExactCapacityOfUptoCardSaid : Prop := Claim7.holds Tryd.pinned (.plain (OpenSpec.upto fnExactCapacityOfSpec)) fnExactCapacityOfUptoCard

/-- THE SECOND FORM's CARD OF 'laws.FnExactExchangeCapacity'. -/
def fnExactExchangeCapacityUptoCard : Claim7 := { stood := { row := fnExactExchangeCapacityUptoRow, standIns := [], harness := (true, "c94a0c427ec461d874725ea63e96eb878057ea7f2aef344cb4bd479506fed312"), looks := false }, kinds := [], alts := [], laidByText := true, laidKinds := [.data, .data], laidTests := true, laidLooks := .later }
def FnExactExchangeCapacityUptoCardSaid : Prop := Claim7.holds Tryd.pinned (.plain (OpenSpec.upto fnExactExchangeCapacitySpec)) fnExactExchangeCapacityUptoCard
end Rows
end Go.Proofs.YtpefnfkodcidkaaDoor
