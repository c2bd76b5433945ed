/-
  DERIVED. GIVEN WITH THE SEED: THE CARDS: each row of YtgenllnpmjialaaDoorRows.lean that lists a variable, with what it lists TIED to the program's text (the seventh form; the later family's looks); each row that meets fmt, with fmt's text TOLD by the authors' own Lean function (tested against real Go, not proved from fmt's source: count such statements apart). THE CARD IS WHAT COUNTS. Prove the row's statement (the work); the ties are given (YtgenllnpmjialaaDoorTie.lean); close each card by the builder's one call (the guide's Derived/Test/ToyasCard.lean, 'card_holds'). Laid BY PROGRAM, IN A SANDBOX (cutbox-door.mjs). By AI agents, Wed Nov 11 2026. No macro, syntax, notation, axiom, sorry.
-/
import Derived.Test.YtgenllnpmjialaaDoorRows
import GoSem.ClaimSeven
namespace Go.Proofs.YtgenllnpmjialaaDoor
namespace Rows

/-- THE TIED CARD OF 'laws.FnExactIndicatorOf'. -/
def fnExactIndicatorOfCard : Claim7 := { stood := { row := fnExactIndicatorOfRow, standIns := [], harness := (true, "2b4f9e3b3d6b88cc8e2e7c5ba8e32e7159ff75b0425f84302f68eef11bec8074"), looks := false }, kinds := [], alts := [], laidByText := true, laidKinds := [.data, .data], laidTests := true, laidLooks := .later }
def FnExactIndicatorOfCardSaid : Prop := Claim7.holds Tryd.pinned (.plain (OpenSpec.ofChange fnExactIndicatorOfSpec)) fnExactIndicatorOfCard

/-- THE TIED CARD OF 'laws.FnExactModularFunction'. -/
def fnExactModularFunctionCard : Claim7 := { stood := { row := fnExactModularFunctionRow, standIns := [], harness := (true, "2b4f9e3b3d6b88cc8e2e7c5ba8e32e7159ff75b0425f84302f68eef11bec8074"), looks := false }, kinds := [], alts := [], laidByText := true, laidKinds := [.data, .data], laidTests := true, laidLooks := .later }
def FnExactModularFunctionCardSaid : Prop := Claim7.holds Tryd.pinned (.plain (OpenSpec.ofChange fnExactModularFunctionSpec)) fnExactModularFunctionCard

/-- THE TIED CARD OF 'laws.FnExactDualFunction'. -/
def fnExactDualFunctionCard : Claim7 := { stood := { row := fnExactDualFunctionRow, standIns := [], harness := (true, "2b4f9e3b3d6b88cc8e2e7c5ba8e32e7159ff75b0425f84302f68eef11bec8074"), looks := false }, kinds := [], alts := [], laidByText := true, laidKinds := [.data, .data], laidTests := true, laidLooks := .later }
def FnExactDualFunctionCardSaid : Prop := Claim7.holds Tryd.pinned (.plain (OpenSpec.ofChange fnExactDualFunctionSpec)) fnExactDualFunctionCard

/-- THE SECOND FORM's CARD OF 'laws.FnExactIndicatorOf'. -/
def fnExactIndicatorOfUptoCard : Claim7 := { stood := { row := fnExactIndicatorOfUptoRow, standIns := [], harness := (true, "2b4f9e3b3d6b88cc8e2e7c5ba8e32e7159ff75b0425f84302f68eef11bec8074"), looks := false }, kinds := [], alts := [], laidByText := true, laidKinds := [.data, .data], laidTests := true, laidLooks := .later }
def FnExactIndicatorOfUptoCardSaid : Prop := Claim7.holds Tryd.pinned (.plain (OpenSpec.upto fnExactIndicatorOfSpec)) fnExactIndicatorOfUptoCard

/-- THE SECOND FORM's CARD OF 'laws.FnExactModularFunction'. -/
def fnExactModularFunctionUptoCard : Claim7 := { stood := { row := fnExactModularFunctionUptoRow, standIns := [], harness := (true, "2b4f9e3b3d6b88cc8e2e7c5ba8e32e7159ff75b0425f84302f68eef11bec8074"), looks := false }, kinds := [], alts := [], laidByText := true, laidKinds := [.data, .data], laidTests := true, laidLooks := .later }
def FnExactModularFunctionUptoCardSaid : Prop := Claim7.holds Tryd.pinned (.plain (OpenSpec.upto fnExactModularFunctionSpec)) fnExactModularFunctionUptoCard

/-- THE SECOND FORM's CARD OF 'laws.FnExactDualFunction'. -/
def fnExactDualFunctionUptoCard : Claim7 := { stood := { row := fnExactDualFunctionUptoRow, standIns := [], harness := (true, "2b4f9e3b3d6b88cc8e2e7c5ba8e32e7159ff75b0425f84302f68eef11bec8074"), looks := false }, kinds := [], alts := [], laidByText := true, laidKinds := [.data, .data], laidTests := true, laidLooks := .later }
def FnExactDualFunctionUptoCardSaid : Prop := Claim7.holds Tryd.pinned (.plain (OpenSpec.upto fnExactDualFunctionSpec)) fnExactDualFunctionUptoCard
end Rows
end Go.Proofs.YtgenllnpmjialaaDoor
