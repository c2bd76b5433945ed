/-
  No cell of these rows narrows 'for every input' (looked for: loops, veiled, ifaces, maps, wideKeys, modest, calm, conditions, laid).
  DERIVED. THE GIVEN ROWS OF THIS SEAT. 5 by the template 'for every input the law returns true; each argument reads behind the call as it read before'; 0 by the template 'total and deterministic' (their statements: YtdodpcehmagdbaaTotals.lean).
  GIVEN WITH THE SEED: the statements are not yours to turn. If you find one false, say at which input.
  Laid BY PROGRAM, IN A SANDBOX (cutbox-rows.mjs): the forced cells as the released guide's own fill.sh prints them over the translation 79f402a341eb6bf3… (all of the seat's roots in one cut). By AI agents, Wed Nov 11 2026. No macro, syntax, notation, axiom, sorry.
-/
import Derived.Test.YtdodpcehmagdbaaChecked
import GoSem.Claim
import GoSem.ClaimJoined
import GoSem.ClaimMapViews
import Derived.JoinedTies
import Derived.KernelRfl
namespace Go.Proofs.Ytdodpcehmagdbaa
/- THE CELL 'sum', in the pinned program and in every row, IS THE sha256 OF THE DUMP (.gsa) THAT YtdodpcehmagdbaaProg.lean LOADS. Nothing in Lean hashes anything: it is a label: what it is worth is what the hold of that sum in a sandbox is worth. -/
noncomputable def Try.pinned : Pinned := { name := "ytdodpcehmagdbaa", sum := "79f402a341eb6bf3dd71958c13d5ba24d5b52609169a6ac57ce043812a3c5446", checked := Try.checked }
namespace Rows
def none {H : Type} : Left H := { results := [], args := [] }

/-- 'laws.FnExactCutFunction': WHATEVER THE INPUT: true; the input reads as it did. -/
def fnExactCutFunctionSpec : ChangeSpec := { name := "fnExactCutFunction", fn := fun _ => fun
  | [d1, d2] => { results := [.lit (.bool true)], args := [d1, d2] }
  | _ => none }
def fnExactCutFunctionRow : OpenClaim := { program := "ytdodpcehmagdbaa", sum := "79f402a341eb6bf3dd71958c13d5ba24d5b52609169a6ac57ce043812a3c5446", func := "loop.example/g03405/laws.FnExactCutFunction", spec := "fnExactCutFunction", unfollowed := true, recurses := true, apart := false }
def FnExactCutFunctionSaid : Prop := fnExactCutFunctionRow.holds Try.pinned (OpenSpec.ofChange fnExactCutFunctionSpec)

/-- ITS FALSE NEIGHBOUR: 'it returns false'. Refute it at one input. -/
def fnExactCutFunctionWrong : ChangeSpec := { name := "fnExactCutFunction", fn := fun _ => fun
  | [d1, d2] => { results := [.lit (.bool false)], args := [d1, d2] }
  | _ => none }
def FnExactCutFunctionWrongFalsely : Prop := fnExactCutFunctionRow.holds Try.pinned (OpenSpec.ofChange fnExactCutFunctionWrong)

/-- 'laws.FnExactDirectedCut': WHATEVER THE INPUT: true; the input reads as it did. -/
def fnExactDirectedCutSpec : ChangeSpec := { name := "fnExactDirectedCut", fn := fun _ => fun
  | [d1, d2] => { results := [.lit (.bool true)], args := [d1, d2] }
  | _ => none }
def fnExactDirectedCutRow : OpenClaim := { program := "ytdodpcehmagdbaa", sum := "79f402a341eb6bf3dd71958c13d5ba24d5b52609169a6ac57ce043812a3c5446", func := "loop.example/g03405/laws.FnExactDirectedCut", spec := "fnExactDirectedCut", unfollowed := true, recurses := true, apart := false }
def FnExactDirectedCutSaid : Prop := fnExactDirectedCutRow.holds Try.pinned (OpenSpec.ofChange fnExactDirectedCutSpec)

/-- ITS FALSE NEIGHBOUR: 'it returns false'. Refute it at one input. -/
def fnExactDirectedCutWrong : ChangeSpec := { name := "fnExactDirectedCut", fn := fun _ => fun
  | [d1, d2] => { results := [.lit (.bool false)], args := [d1, d2] }
  | _ => none }
def FnExactDirectedCutWrongFalsely : Prop := fnExactDirectedCutRow.holds Try.pinned (OpenSpec.ofChange fnExactDirectedCutWrong)

/-- 'laws.FnExactCoverFunction': WHATEVER THE INPUT: true; the input reads as it did. -/
def fnExactCoverFunctionSpec : ChangeSpec := { name := "fnExactCoverFunction", fn := fun _ => fun
  | [d1, d2] => { results := [.lit (.bool true)], args := [d1, d2] }
  | _ => none }
def fnExactCoverFunctionRow : OpenClaim := { program := "ytdodpcehmagdbaa", sum := "79f402a341eb6bf3dd71958c13d5ba24d5b52609169a6ac57ce043812a3c5446", func := "loop.example/g03405/laws.FnExactCoverFunction", spec := "fnExactCoverFunction", unfollowed := true, recurses := true, apart := false }
def FnExactCoverFunctionSaid : Prop := fnExactCoverFunctionRow.holds Try.pinned (OpenSpec.ofChange fnExactCoverFunctionSpec)

/-- ITS FALSE NEIGHBOUR: 'it returns false'. Refute it at one input. -/
def fnExactCoverFunctionWrong : ChangeSpec := { name := "fnExactCoverFunction", fn := fun _ => fun
  | [d1, d2] => { results := [.lit (.bool false)], args := [d1, d2] }
  | _ => none }
def FnExactCoverFunctionWrongFalsely : Prop := fnExactCoverFunctionRow.holds Try.pinned (OpenSpec.ofChange fnExactCoverFunctionWrong)

/-- 'laws.FnExactSizeFunction': WHATEVER THE INPUT: true; the input reads as it did. -/
def fnExactSizeFunctionSpec : ChangeSpec := { name := "fnExactSizeFunction", fn := fun _ => fun
  | [d] => { results := [.lit (.bool true)], args := [d] }
  | _ => none }
def fnExactSizeFunctionRow : OpenClaim := { program := "ytdodpcehmagdbaa", sum := "79f402a341eb6bf3dd71958c13d5ba24d5b52609169a6ac57ce043812a3c5446", func := "loop.example/g03405/laws.FnExactSizeFunction", spec := "fnExactSizeFunction", unfollowed := true, recurses := true, apart := false }
def FnExactSizeFunctionSaid : Prop := fnExactSizeFunctionRow.holds Try.pinned (OpenSpec.ofChange fnExactSizeFunctionSpec)

/-- ITS FALSE NEIGHBOUR: 'it returns false'. Refute it at one input. -/
def fnExactSizeFunctionWrong : ChangeSpec := { name := "fnExactSizeFunction", fn := fun _ => fun
  | [d] => { results := [.lit (.bool false)], args := [d] }
  | _ => none }
def FnExactSizeFunctionWrongFalsely : Prop := fnExactSizeFunctionRow.holds Try.pinned (OpenSpec.ofChange fnExactSizeFunctionWrong)

/-- 'laws.FnExactIsConcaveList': WHATEVER THE INPUT: true; the input reads as it did. -/
def fnExactIsConcaveListSpec : ChangeSpec := { name := "fnExactIsConcaveList", fn := fun _ => fun
  | [d] => { results := [.lit (.bool true)], args := [d] }
  | _ => none }
def fnExactIsConcaveListRow : OpenClaim := { program := "ytdodpcehmagdbaa", sum := "79f402a341eb6bf3dd71958c13d5ba24d5b52609169a6ac57ce043812a3c5446", func := "loop.example/g03405/laws.FnExactIsConcaveList", spec := "fnExactIsConcaveList", unfollowed := true, recurses := true, apart := false }
def FnExactIsConcaveListSaid : Prop := fnExactIsConcaveListRow.holds Try.pinned (OpenSpec.ofChange fnExactIsConcaveListSpec)

/-- ITS FALSE NEIGHBOUR: 'it returns false'. Refute it at one input. -/
def fnExactIsConcaveListWrong : ChangeSpec := { name := "fnExactIsConcaveList", fn := fun _ => fun
  | [d] => { results := [.lit (.bool false)], args := [d] }
  | _ => none }
def FnExactIsConcaveListWrongFalsely : Prop := fnExactIsConcaveListRow.holds Try.pinned (OpenSpec.ofChange fnExactIsConcaveListWrong)

/- THE SECOND FORM. 'bulk': how many values and letters a reading holds, each counted each time it is reached (what is shared counts as often as it is met; a slice's spare places count too). A statement '..UptoSaid' is the law's where the arguments, and the package variables that the reading takes, are together of bulk at most 1048576: NARROWER than '..Said'. Prove '..Said' where nothing that the law and all that it calls make is longer than what came in: it says more and counts as full. Else prove '..UptoSaid'. A law counts once. -/
mutual
def uptoBulk {H : Type} : DataW H → Nat
  | .lit (.string bytes) => bytes.length + 1
  | .lit _ => 1
  | .nil => 1
  | .ptr d => uptoBulk d + 1
  | .slice elems spare => uptoBulkAll elems + uptoBulkAll spare + 1
  | .agg parts => uptoBulkAll parts + 1
  | .iface _ d => uptoBulk d + 1
  | .map entries => uptoBulkEntries entries + 1
  | .held _ => 1
def uptoBulkAll {H : Type} : List (DataW H) → Nat
  | [] => 0
  | d :: r => uptoBulk d + uptoBulkAll r
def uptoBulkEntries {H : Type} : List (Lit × DataW H) → Nat
  | [] => 0
  | x :: r => uptoBulkEntry x + uptoBulkEntries r
def uptoBulkEntry {H : Type} : Lit × DataW H → Nat
  | (.string bytes, d) => bytes.length + uptoBulk d + 1
  | (_, d) => uptoBulk d + 1
 end
def uptoSmall : (H : Type) → List (DataW H) → Bool := fun _ ds => decide (uptoBulkAll ds ≤ 1048576)
def OpenSpec.upto (s : _root_.Go.ChangeSpec) : _root_.Go.OpenSpec := { _root_.Go.OpenSpec.ofChange s with cond := some uptoSmall }

/-- 'laws.FnExactCutFunction', WHERE WHAT IT READS IS OF BULK AT MOST 1048576: true; the input reads as it did. -/
def fnExactCutFunctionUptoRow : OpenClaim := { program := "ytdodpcehmagdbaa", sum := "79f402a341eb6bf3dd71958c13d5ba24d5b52609169a6ac57ce043812a3c5446", func := "loop.example/g03405/laws.FnExactCutFunction", spec := "fnExactCutFunction", unfollowed := true, recurses := true, apart := false, narrowed := true }
def FnExactCutFunctionUptoSaid : Prop := fnExactCutFunctionUptoRow.holds Try.pinned (OpenSpec.upto fnExactCutFunctionSpec)

/-- 'laws.FnExactDirectedCut', WHERE WHAT IT READS IS OF BULK AT MOST 1048576: true; the input reads as it did. -/
def fnExactDirectedCutUptoRow : OpenClaim := { program := "ytdodpcehmagdbaa", sum := "79f402a341eb6bf3dd71958c13d5ba24d5b52609169a6ac57ce043812a3c5446", func := "loop.example/g03405/laws.FnExactDirectedCut", spec := "fnExactDirectedCut", unfollowed := true, recurses := true, apart := false, narrowed := true }
def FnExactDirectedCutUptoSaid : Prop := fnExactDirectedCutUptoRow.holds Try.pinned (OpenSpec.upto fnExactDirectedCutSpec)

/-- 'laws.FnExactCoverFunction', WHERE WHAT IT READS IS OF BULK AT MOST 1048576: true; the input reads as it did. -/
def fnExactCoverFunctionUptoRow : OpenClaim := { program := "ytdodpcehmagdbaa", sum := "79f402a341eb6bf3dd71958c13d5ba24d5b52609169a6ac57ce043812a3c5446", func := "loop.example/g03405/laws.FnExactCoverFunction", spec := "fnExactCoverFunction", unfollowed := true, recurses := true, apart := false, narrowed := true }
def FnExactCoverFunctionUptoSaid : Prop := fnExactCoverFunctionUptoRow.holds Try.pinned (OpenSpec.upto fnExactCoverFunctionSpec)

/-- 'laws.FnExactSizeFunction', WHERE WHAT IT READS IS OF BULK AT MOST 1048576: true; the input reads as it did. -/
def fnExactSizeFunctionUptoRow : OpenClaim := { program := "ytdodpcehmagdbaa", sum := "79f402a341eb6bf3dd71958c13d5ba24d5b52609169a6ac57ce043812a3c5446", func := "loop.example/g03405/laws.FnExactSizeFunction", spec := "fnExactSizeFunction", unfollowed := true, recurses := true, apart := false, narrowed := true }
def FnExactSizeFunctionUptoSaid : Prop := fnExactSizeFunctionUptoRow.holds Try.pinned (OpenSpec.upto fnExactSizeFunctionSpec)

/-- 'laws.FnExactIsConcaveList', WHERE WHAT IT READS IS OF BULK AT MOST 1048576: true; the input reads as it did. -/
def fnExactIsConcaveListUptoRow : OpenClaim := { program := "ytdodpcehmagdbaa", sum := "79f402a341eb6bf3dd71958c13d5ba24d5b52609169a6ac57ce043812a3c5446", func := "loop.example/g03405/laws.FnExactIsConcaveList", spec := "fnExactIsConcaveList", unfollowed := true, recurses := true, apart := false, narrowed := true }
def FnExactIsConcaveListUptoSaid : Prop := fnExactIsConcaveListUptoRow.holds Try.pinned (OpenSpec.upto fnExactIsConcaveListSpec)

end Rows
end Go.Proofs.Ytdodpcehmagdbaa
