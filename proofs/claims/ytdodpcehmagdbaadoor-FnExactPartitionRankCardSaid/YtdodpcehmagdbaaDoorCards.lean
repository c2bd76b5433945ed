/-
  DERIVED. GIVEN WITH THE SEED: THE CARDS: each row of YtdodpcehmagdbaaDoorRows.lean that lists a variable, with what it lists TIED to the program's text (the seventh form; the later family's looks); each row that meets fmt, with fmt's text TOLD by the authors' own Lean function (tested against real Go, not proved from fmt's source: count such statements apart). THE CARD IS WHAT COUNTS. Prove the row's statement (the work); the ties are given (YtdodpcehmagdbaaDoorTie.lean); close each card by the builder's one call (the guide's Derived/Test/ToyasCard.lean, 'card_holds'). Laid BY PROGRAM, IN A SANDBOX (cutbox-door.mjs). By AI agents, Wed Nov 11 2026. No macro, syntax, notation, axiom, sorry.
-/
import Derived.Test.YtdodpcehmagdbaaDoorRows
import GoSem.ClaimSeven
namespace Go.Proofs.YtdodpcehmagdbaaDoor
namespace Rows

/-- THE TIED CARD OF 'laws.FnExactPartitionRank'. -/
def fnExactPartitionRankCard : Claim7 := { stood := { row := fnExactPartitionRankRow, standIns := [], harness := (true, "6abaccce9a73b0f920e3a46be24938c0557943ac271afde77eff18068d74fa28"), looks := false }, kinds := [], alts := [], laidByText := true, laidKinds := [.data, .data], laidTests := true, laidLooks := .later }
def FnExactPartitionRankCardSaid : Prop := Claim7.holds Tryd.pinned (.plain (OpenSpec.ofChange fnExactPartitionRankSpec)) fnExactPartitionRankCard

/-- THE SECOND FORM's CARD OF 'laws.FnExactPartitionRank'. -/
def fnExactPartitionRankUptoCard : Claim7 := { stood := { row := fnExactPartitionRankUptoRow, standIns := [], harness := (true, "6abaccce9a73b0f920e3a46be24938c0557943ac271afde77eff18068d74fa28"), looks := false }, kinds := [], alts := [], laidByText := true, laidKinds := [.data, .data], laidTests := true, laidLooks := .later }
def FnExactPartitionRankUptoCardSaid : Prop := Claim7.holds Tryd.pinned (.plain (OpenSpec.upto fnExactPartitionRankSpec)) fnExactPartitionRankUptoCard
end Rows
end Go.Proofs.YtdodpcehmagdbaaDoor
