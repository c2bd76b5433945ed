/-
  No cell of these rows narrows 'for every input' (looked for: loops, veiled, ifaces, maps, wideKeys, modest, calm, conditions, laid).
  DERIVED. THE GIVEN ROWS OF THIS SEAT. 4 by the template 'for every input the law returns true; each argument reads behind the call as it read before'; 0 by the template 'total and deterministic' (their statements: YtelihjanjlklpaaTotals.lean).
  GIVEN WITH THE SEED: the statements are not yours to turn. If you find one false, say at which input.
  Laid BY PROGRAM, IN A SANDBOX (cutbox-rows.mjs): the forced cells as the released guide's own fill.sh prints them over the translation 09a4a808deeae5ed… (all of the seat's roots in one cut). By AI agents, Wed Nov 11 2026. No macro, syntax, notation, axiom, sorry.
-/
import Derived.Test.YtelihjanjlklpaaChecked
import GoSem.Claim
import GoSem.ClaimJoined
import GoSem.ClaimMapViews
import Derived.JoinedTies
import Derived.KernelRfl
namespace Go.Proofs.Ytelihjanjlklpaa
/- THE CELL 'sum', in the pinned program and in every row, IS THE sha256 OF THE DUMP (.gsa) THAT YtelihjanjlklpaaProg.lean LOADS. Nothing in Lean hashes anything: it is a label: what it is worth is what the hold of that sum in a sandbox is worth. -/
noncomputable def Try.pinned : Pinned := { name := "ytelihjanjlklpaa", sum := "09a4a808deeae5ed235690c1f9a6706b38739071bd3c97322c45922e5747d276", checked := Try.checked }
namespace Rows
def none {H : Type} : Left H := { results := [], args := [] }

/-- 'laws.FnExactConvolveFunctions': WHATEVER THE INPUT: true; the input reads as it did. -/
def fnExactConvolveFunctionsSpec : ChangeSpec := { name := "fnExactConvolveFunctions", fn := fun _ => fun
  | [d1, d2] => { results := [.lit (.bool true)], args := [d1, d2] }
  | _ => none }
def fnExactConvolveFunctionsRow : OpenClaim := { program := "ytelihjanjlklpaa", sum := "09a4a808deeae5ed235690c1f9a6706b38739071bd3c97322c45922e5747d276", func := "loop.example/g03405/laws.FnExactConvolveFunctions", spec := "fnExactConvolveFunctions", unfollowed := true, recurses := true, apart := false }
def FnExactConvolveFunctionsSaid : Prop := fnExactConvolveFunctionsRow.holds Try.pinned (OpenSpec.ofChange fnExactConvolveFunctionsSpec)

/-- ITS FALSE NEIGHBOUR: 'it returns false'. Refute it at one input. -/
def fnExactConvolveFunctionsWrong : ChangeSpec := { name := "fnExactConvolveFunctions", fn := fun _ => fun
  | [d1, d2] => { results := [.lit (.bool false)], args := [d1, d2] }
  | _ => none }
def FnExactConvolveFunctionsWrongFalsely : Prop := fnExactConvolveFunctionsRow.holds Try.pinned (OpenSpec.ofChange fnExactConvolveFunctionsWrong)

/-- 'laws.FnExactSplitOf': WHATEVER THE INPUT: true; the input reads as it did. -/
def fnExactSplitOfSpec : ChangeSpec := { name := "fnExactSplitOf", fn := fun _ => fun
  | [d1, d2, d3] => { results := [.lit (.bool true)], args := [d1, d2, d3] }
  | _ => none }
def fnExactSplitOfRow : OpenClaim := { program := "ytelihjanjlklpaa", sum := "09a4a808deeae5ed235690c1f9a6706b38739071bd3c97322c45922e5747d276", func := "loop.example/g03405/laws.FnExactSplitOf", spec := "fnExactSplitOf", unfollowed := true, recurses := true, apart := false }
def FnExactSplitOfSaid : Prop := fnExactSplitOfRow.holds Try.pinned (OpenSpec.ofChange fnExactSplitOfSpec)

/-- ITS FALSE NEIGHBOUR: 'it returns false'. Refute it at one input. -/
def fnExactSplitOfWrong : ChangeSpec := { name := "fnExactSplitOf", fn := fun _ => fun
  | [d1, d2, d3] => { results := [.lit (.bool false)], args := [d1, d2, d3] }
  | _ => none }
def FnExactSplitOfWrongFalsely : Prop := fnExactSplitOfRow.holds Try.pinned (OpenSpec.ofChange fnExactSplitOfWrong)

/-- 'laws.FnExactIncreasingHull': WHATEVER THE INPUT: true; the input reads as it did. -/
def fnExactIncreasingHullSpec : ChangeSpec := { name := "fnExactIncreasingHull", fn := fun _ => fun
  | [d] => { results := [.lit (.bool true)], args := [d] }
  | _ => none }
def fnExactIncreasingHullRow : OpenClaim := { program := "ytelihjanjlklpaa", sum := "09a4a808deeae5ed235690c1f9a6706b38739071bd3c97322c45922e5747d276", func := "loop.example/g03405/laws.FnExactIncreasingHull", spec := "fnExactIncreasingHull", unfollowed := true, recurses := true, apart := false }
def FnExactIncreasingHullSaid : Prop := fnExactIncreasingHullRow.holds Try.pinned (OpenSpec.ofChange fnExactIncreasingHullSpec)

/-- ITS FALSE NEIGHBOUR: 'it returns false'. Refute it at one input. -/
def fnExactIncreasingHullWrong : ChangeSpec := { name := "fnExactIncreasingHull", fn := fun _ => fun
  | [d] => { results := [.lit (.bool false)], args := [d] }
  | _ => none }
def FnExactIncreasingHullWrongFalsely : Prop := fnExactIncreasingHullRow.holds Try.pinned (OpenSpec.ofChange fnExactIncreasingHullWrong)

/-- 'laws.FnExactTruncateFunction': WHATEVER THE INPUT: true; the input reads as it did. -/
def fnExactTruncateFunctionSpec : ChangeSpec := { name := "fnExactTruncateFunction", fn := fun _ => fun
  | [d1, d2] => { results := [.lit (.bool true)], args := [d1, d2] }
  | _ => none }
def fnExactTruncateFunctionRow : OpenClaim := { program := "ytelihjanjlklpaa", sum := "09a4a808deeae5ed235690c1f9a6706b38739071bd3c97322c45922e5747d276", func := "loop.example/g03405/laws.FnExactTruncateFunction", spec := "fnExactTruncateFunction", unfollowed := true, recurses := true, apart := false }
def FnExactTruncateFunctionSaid : Prop := fnExactTruncateFunctionRow.holds Try.pinned (OpenSpec.ofChange fnExactTruncateFunctionSpec)

/-- ITS FALSE NEIGHBOUR: 'it returns false'. Refute it at one input. -/
def fnExactTruncateFunctionWrong : ChangeSpec := { name := "fnExactTruncateFunction", fn := fun _ => fun
  | [d1, d2] => { results := [.lit (.bool false)], args := [d1, d2] }
  | _ => none }
def FnExactTruncateFunctionWrongFalsely : Prop := fnExactTruncateFunctionRow.holds Try.pinned (OpenSpec.ofChange fnExactTruncateFunctionWrong)

/- THE SECOND FORM. 'bulk': how many values and letters a reading holds, each counted each time it is reached (what is shared counts as often as it is met; a slice's spare places count too). A statement '..UptoSaid' is the law's where the arguments, and the package variables that the reading takes, are together of bulk at most 1048576: NARROWER than '..Said'. Prove '..Said' where nothing that the law and all that it calls make is longer than what came in: it says more and counts as full. Else prove '..UptoSaid'. A law counts once. -/
mutual
def uptoBulk {H : Type} : DataW H → Nat
  | .lit (.string bytes) => bytes.length + 1
  | .lit _ => 1
  | .nil => 1
  | .ptr d => uptoBulk d + 1
  | .slice elems spare => uptoBulkAll elems + uptoBulkAll spare + 1
  | .agg parts => uptoBulkAll parts + 1
  | .iface _ d => uptoBulk d + 1
  | .map entries => uptoBulkEntries entries + 1
  | .held _ => 1
def uptoBulkAll {H : Type} : List (DataW H) → Nat
  | [] => 0
  | d :: r => uptoBulk d + uptoBulkAll r
def uptoBulkEntries {H : Type} : List (Lit × DataW H) → Nat
  | [] => 0
  | x :: r => uptoBulkEntry x + uptoBulkEntries r
def uptoBulkEntry {H : Type} : Lit × DataW H → Nat
  | (.string bytes, d) => bytes.length + uptoBulk d + 1
  | (_, d) => uptoBulk d + 1
 end
def uptoSmall : (H : Type) → List (DataW H) → Bool := fun _ ds => decide (uptoBulkAll ds ≤ 1048576)
def OpenSpec.upto (s : _root_.Go.ChangeSpec) : _root_.Go.OpenSpec := { _root_.Go.OpenSpec.ofChange s with cond := some uptoSmall }

/-- 'laws.FnExactConvolveFunctions', WHERE WHAT IT READS IS OF BULK AT MOST 1048576: true; the input reads as it did. -/
def fnExactConvolveFunctionsUptoRow : OpenClaim := { program := "ytelihjanjlklpaa", sum := "09a4a808deeae5ed235690c1f9a6706b38739071bd3c97322c45922e5747d276", func := "loop.example/g03405/laws.FnExactConvolveFunctions", spec := "fnExactConvolveFunctions", unfollowed := true, recurses := true, apart := false, narrowed := true }
def FnExactConvolveFunctionsUptoSaid : Prop := fnExactConvolveFunctionsUptoRow.holds Try.pinned (OpenSpec.upto fnExactConvolveFunctionsSpec)

/-- 'laws.FnExactSplitOf', WHERE WHAT IT READS IS OF BULK AT MOST 1048576: true; the input reads as it did. -/
def fnExactSplitOfUptoRow : OpenClaim := { program := "ytelihjanjlklpaa", sum := "09a4a808deeae5ed235690c1f9a6706b38739071bd3c97322c45922e5747d276", func := "loop.example/g03405/laws.FnExactSplitOf", spec := "fnExactSplitOf", unfollowed := true, recurses := true, apart := false, narrowed := true }
def FnExactSplitOfUptoSaid : Prop := fnExactSplitOfUptoRow.holds Try.pinned (OpenSpec.upto fnExactSplitOfSpec)

/-- 'laws.FnExactIncreasingHull', WHERE WHAT IT READS IS OF BULK AT MOST 1048576: true; the input reads as it did. -/
def fnExactIncreasingHullUptoRow : OpenClaim := { program := "ytelihjanjlklpaa", sum := "09a4a808deeae5ed235690c1f9a6706b38739071bd3c97322c45922e5747d276", func := "loop.example/g03405/laws.FnExactIncreasingHull", spec := "fnExactIncreasingHull", unfollowed := true, recurses := true, apart := false, narrowed := true }
def FnExactIncreasingHullUptoSaid : Prop := fnExactIncreasingHullUptoRow.holds Try.pinned (OpenSpec.upto fnExactIncreasingHullSpec)

/-- 'laws.FnExactTruncateFunction', WHERE WHAT IT READS IS OF BULK AT MOST 1048576: true; the input reads as it did. -/
def fnExactTruncateFunctionUptoRow : OpenClaim := { program := "ytelihjanjlklpaa", sum := "09a4a808deeae5ed235690c1f9a6706b38739071bd3c97322c45922e5747d276", func := "loop.example/g03405/laws.FnExactTruncateFunction", spec := "fnExactTruncateFunction", unfollowed := true, recurses := true, apart := false, narrowed := true }
def FnExactTruncateFunctionUptoSaid : Prop := fnExactTruncateFunctionUptoRow.holds Try.pinned (OpenSpec.upto fnExactTruncateFunctionSpec)

end Rows
end Go.Proofs.Ytelihjanjlklpaa
