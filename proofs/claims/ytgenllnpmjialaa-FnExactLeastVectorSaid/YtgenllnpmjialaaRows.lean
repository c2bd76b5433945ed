/-
  No cell of these rows narrows 'for every input' (looked for: loops, veiled, ifaces, maps, wideKeys, modest, calm, conditions, laid).
  DERIVED. THE GIVEN ROWS OF THIS SEAT. 7 by the template 'for every input the law returns true; each argument reads behind the call as it read before'; 0 by the template 'total and deterministic' (their statements: YtgenllnpmjialaaTotals.lean).
  GIVEN WITH THE SEED: the statements are not yours to turn. If you find one false, say at which input.
  Laid BY PROGRAM, IN A SANDBOX (cutbox-rows.mjs): the forced cells as the released guide's own fill.sh prints them over the translation 91446ec3c22a4763… (all of the seat's roots in one cut). By AI agents, Wed Nov 11 2026. No macro, syntax, notation, axiom, sorry.
-/
import Derived.Test.YtgenllnpmjialaaChecked
import GoSem.Claim
import GoSem.ClaimJoined
import GoSem.ClaimMapViews
import Derived.JoinedTies
import Derived.KernelRfl
namespace Go.Proofs.Ytgenllnpmjialaa
/- THE CELL 'sum', in the pinned program and in every row, IS THE sha256 OF THE DUMP (.gsa) THAT YtgenllnpmjialaaProg.lean LOADS. Nothing in Lean hashes anything: it is a label: what it is worth is what the hold of that sum in a sandbox is worth. -/
noncomputable def Try.pinned : Pinned := { name := "ytgenllnpmjialaa", sum := "91446ec3c22a4763e62de6fd5d5a4de67443c37c6cc62bed42e34e97514b4c76", checked := Try.checked }
namespace Rows
def none {H : Type} : Left H := { results := [], args := [] }

/-- 'laws.FnConvex': WHATEVER THE INPUT: true; the input reads as it did. -/
def fnConvexSpec : ChangeSpec := { name := "fnConvex", fn := fun _ => fun
  | [d] => { results := [.lit (.bool true)], args := [d] }
  | _ => none }
def fnConvexRow : OpenClaim := { program := "ytgenllnpmjialaa", sum := "91446ec3c22a4763e62de6fd5d5a4de67443c37c6cc62bed42e34e97514b4c76", func := "loop.example/g03405/laws.FnConvex", spec := "fnConvex", unfollowed := true, recurses := true, apart := false }
def FnConvexSaid : Prop := fnConvexRow.holds Try.pinned (OpenSpec.ofChange fnConvexSpec)

/-- ITS FALSE NEIGHBOUR: 'it returns false'. Refute it at one input. -/
def fnConvexWrong : ChangeSpec := { name := "fnConvex", fn := fun _ => fun
  | [d] => { results := [.lit (.bool false)], args := [d] }
  | _ => none }
def FnConvexWrongFalsely : Prop := fnConvexRow.holds Try.pinned (OpenSpec.ofChange fnConvexWrong)

/-- 'laws.FnExactExtensionAt': WHATEVER THE INPUT: true; the input reads as it did. -/
def fnExactExtensionAtSpec : ChangeSpec := { name := "fnExactExtensionAt", fn := fun _ => fun
  | [d1, d2] => { results := [.lit (.bool true)], args := [d1, d2] }
  | _ => none }
def fnExactExtensionAtRow : OpenClaim := { program := "ytgenllnpmjialaa", sum := "91446ec3c22a4763e62de6fd5d5a4de67443c37c6cc62bed42e34e97514b4c76", func := "loop.example/g03405/laws.FnExactExtensionAt", spec := "fnExactExtensionAt", unfollowed := true, recurses := true, apart := false }
def FnExactExtensionAtSaid : Prop := fnExactExtensionAtRow.holds Try.pinned (OpenSpec.ofChange fnExactExtensionAtSpec)

/-- ITS FALSE NEIGHBOUR: 'it returns false'. Refute it at one input. -/
def fnExactExtensionAtWrong : ChangeSpec := { name := "fnExactExtensionAt", fn := fun _ => fun
  | [d1, d2] => { results := [.lit (.bool false)], args := [d1, d2] }
  | _ => none }
def FnExactExtensionAtWrongFalsely : Prop := fnExactExtensionAtRow.holds Try.pinned (OpenSpec.ofChange fnExactExtensionAtWrong)

/-- 'laws.FnExactOrderFor': WHATEVER THE INPUT: true; the input reads as it did. -/
def fnExactOrderForSpec : ChangeSpec := { name := "fnExactOrderFor", fn := fun _ => fun
  | [d] => { results := [.lit (.bool true)], args := [d] }
  | _ => none }
def fnExactOrderForRow : OpenClaim := { program := "ytgenllnpmjialaa", sum := "91446ec3c22a4763e62de6fd5d5a4de67443c37c6cc62bed42e34e97514b4c76", func := "loop.example/g03405/laws.FnExactOrderFor", spec := "fnExactOrderFor", unfollowed := true, recurses := true, apart := false }
def FnExactOrderForSaid : Prop := fnExactOrderForRow.holds Try.pinned (OpenSpec.ofChange fnExactOrderForSpec)

/-- ITS FALSE NEIGHBOUR: 'it returns false'. Refute it at one input. -/
def fnExactOrderForWrong : ChangeSpec := { name := "fnExactOrderFor", fn := fun _ => fun
  | [d] => { results := [.lit (.bool false)], args := [d] }
  | _ => none }
def FnExactOrderForWrongFalsely : Prop := fnExactOrderForRow.holds Try.pinned (OpenSpec.ofChange fnExactOrderForWrong)

/-- 'laws.FnExactIsConvexAt': WHATEVER THE INPUT: true; the input reads as it did. -/
def fnExactIsConvexAtSpec : ChangeSpec := { name := "fnExactIsConvexAt", fn := fun _ => fun
  | [d1, d2, d3] => { results := [.lit (.bool true)], args := [d1, d2, d3] }
  | _ => none }
def fnExactIsConvexAtRow : OpenClaim := { program := "ytgenllnpmjialaa", sum := "91446ec3c22a4763e62de6fd5d5a4de67443c37c6cc62bed42e34e97514b4c76", func := "loop.example/g03405/laws.FnExactIsConvexAt", spec := "fnExactIsConvexAt", unfollowed := true, recurses := true, apart := false }
def FnExactIsConvexAtSaid : Prop := fnExactIsConvexAtRow.holds Try.pinned (OpenSpec.ofChange fnExactIsConvexAtSpec)

/-- ITS FALSE NEIGHBOUR: 'it returns false'. Refute it at one input. -/
def fnExactIsConvexAtWrong : ChangeSpec := { name := "fnExactIsConvexAt", fn := fun _ => fun
  | [d1, d2, d3] => { results := [.lit (.bool false)], args := [d1, d2, d3] }
  | _ => none }
def FnExactIsConvexAtWrongFalsely : Prop := fnExactIsConvexAtRow.holds Try.pinned (OpenSpec.ofChange fnExactIsConvexAtWrong)

/-- 'laws.FnExactLeastVector': WHATEVER THE INPUT: true; the input reads as it did. -/
def fnExactLeastVectorSpec : ChangeSpec := { name := "fnExactLeastVector", fn := fun _ => fun
  | [d1, d2] => { results := [.lit (.bool true)], args := [d1, d2] }
  | _ => none }
def fnExactLeastVectorRow : OpenClaim := { program := "ytgenllnpmjialaa", sum := "91446ec3c22a4763e62de6fd5d5a4de67443c37c6cc62bed42e34e97514b4c76", func := "loop.example/g03405/laws.FnExactLeastVector", spec := "fnExactLeastVector", unfollowed := true, recurses := true, apart := false }
def FnExactLeastVectorSaid : Prop := fnExactLeastVectorRow.holds Try.pinned (OpenSpec.ofChange fnExactLeastVectorSpec)

/-- ITS FALSE NEIGHBOUR: 'it returns false'. Refute it at one input. -/
def fnExactLeastVectorWrong : ChangeSpec := { name := "fnExactLeastVector", fn := fun _ => fun
  | [d1, d2] => { results := [.lit (.bool false)], args := [d1, d2] }
  | _ => none }
def FnExactLeastVectorWrongFalsely : Prop := fnExactLeastVectorRow.holds Try.pinned (OpenSpec.ofChange fnExactLeastVectorWrong)

/-- 'laws.FnExactGreatestVector': WHATEVER THE INPUT: true; the input reads as it did. -/
def fnExactGreatestVectorSpec : ChangeSpec := { name := "fnExactGreatestVector", fn := fun _ => fun
  | [d1, d2] => { results := [.lit (.bool true)], args := [d1, d2] }
  | _ => none }
def fnExactGreatestVectorRow : OpenClaim := { program := "ytgenllnpmjialaa", sum := "91446ec3c22a4763e62de6fd5d5a4de67443c37c6cc62bed42e34e97514b4c76", func := "loop.example/g03405/laws.FnExactGreatestVector", spec := "fnExactGreatestVector", unfollowed := true, recurses := true, apart := false }
def FnExactGreatestVectorSaid : Prop := fnExactGreatestVectorRow.holds Try.pinned (OpenSpec.ofChange fnExactGreatestVectorSpec)

/-- ITS FALSE NEIGHBOUR: 'it returns false'. Refute it at one input. -/
def fnExactGreatestVectorWrong : ChangeSpec := { name := "fnExactGreatestVector", fn := fun _ => fun
  | [d1, d2] => { results := [.lit (.bool false)], args := [d1, d2] }
  | _ => none }
def FnExactGreatestVectorWrongFalsely : Prop := fnExactGreatestVectorRow.holds Try.pinned (OpenSpec.ofChange fnExactGreatestVectorWrong)

/-- 'laws.FnExactPairingOf': WHATEVER THE INPUT: true; the input reads as it did. -/
def fnExactPairingOfSpec : ChangeSpec := { name := "fnExactPairingOf", fn := fun _ => fun
  | [d1, d2] => { results := [.lit (.bool true)], args := [d1, d2] }
  | _ => none }
def fnExactPairingOfRow : OpenClaim := { program := "ytgenllnpmjialaa", sum := "91446ec3c22a4763e62de6fd5d5a4de67443c37c6cc62bed42e34e97514b4c76", func := "loop.example/g03405/laws.FnExactPairingOf", spec := "fnExactPairingOf", apart := false }
def FnExactPairingOfSaid : Prop := fnExactPairingOfRow.holds Try.pinned (OpenSpec.ofChange fnExactPairingOfSpec)

/-- ITS FALSE NEIGHBOUR: 'it returns false'. Refute it at one input. -/
def fnExactPairingOfWrong : ChangeSpec := { name := "fnExactPairingOf", fn := fun _ => fun
  | [d1, d2] => { results := [.lit (.bool false)], args := [d1, d2] }
  | _ => none }
def FnExactPairingOfWrongFalsely : Prop := fnExactPairingOfRow.holds Try.pinned (OpenSpec.ofChange fnExactPairingOfWrong)

/- THE SECOND FORM. 'bulk': how many values and letters a reading holds, each counted each time it is reached (what is shared counts as often as it is met; a slice's spare places count too). A statement '..UptoSaid' is the law's where the arguments, and the package variables that the reading takes, are together of bulk at most 1048576: NARROWER than '..Said'. Prove '..Said' where nothing that the law and all that it calls make is longer than what came in: it says more and counts as full. Else prove '..UptoSaid'. A law counts once. -/
mutual
def uptoBulk {H : Type} : DataW H → Nat
  | .lit (.string bytes) => bytes.length + 1
  | .lit _ => 1
  | .nil => 1
  | .ptr d => uptoBulk d + 1
  | .slice elems spare => uptoBulkAll elems + uptoBulkAll spare + 1
  | .agg parts => uptoBulkAll parts + 1
  | .iface _ d => uptoBulk d + 1
  | .map entries => uptoBulkEntries entries + 1
  | .held _ => 1
def uptoBulkAll {H : Type} : List (DataW H) → Nat
  | [] => 0
  | d :: r => uptoBulk d + uptoBulkAll r
def uptoBulkEntries {H : Type} : List (Lit × DataW H) → Nat
  | [] => 0
  | x :: r => uptoBulkEntry x + uptoBulkEntries r
def uptoBulkEntry {H : Type} : Lit × DataW H → Nat
  | (.string bytes, d) => bytes.length + uptoBulk d + 1
  | (_, d) => uptoBulk d + 1
 end
def uptoSmall : (H : Type) → List (DataW H) → Bool := fun _ ds => decide (uptoBulkAll ds ≤ 1048576)
def OpenSpec.upto (s : _root_.Go.ChangeSpec) : _root_.Go.OpenSpec := { _root_.Go.OpenSpec.ofChange s with cond := some uptoSmall }

/-- 'laws.FnConvex', WHERE WHAT IT READS IS OF BULK AT MOST 1048576: true; the input reads as it did. -/
def fnConvexUptoRow : OpenClaim := { program := "ytgenllnpmjialaa", sum := "91446ec3c22a4763e62de6fd5d5a4de67443c37c6cc62bed42e34e97514b4c76", func := "loop.example/g03405/laws.FnConvex", spec := "fnConvex", unfollowed := true, recurses := true, apart := false, narrowed := true }
def FnConvexUptoSaid : Prop := fnConvexUptoRow.holds Try.pinned (OpenSpec.upto fnConvexSpec)

/-- 'laws.FnExactExtensionAt', WHERE WHAT IT READS IS OF BULK AT MOST 1048576: true; the input reads as it did. -/
def fnExactExtensionAtUptoRow : OpenClaim := { program := "ytgenllnpmjialaa", sum := "91446ec3c22a4763e62de6fd5d5a4de67443c37c6cc62bed42e34e97514b4c76", func := "loop.example/g03405/laws.FnExactExtensionAt", spec := "fnExactExtensionAt", unfollowed := true, recurses := true, apart := false, narrowed := true }
def FnExactExtensionAtUptoSaid : Prop := fnExactExtensionAtUptoRow.holds Try.pinned (OpenSpec.upto fnExactExtensionAtSpec)

/-- 'laws.FnExactOrderFor', WHERE WHAT IT READS IS OF BULK AT MOST 1048576: true; the input reads as it did. -/
def fnExactOrderForUptoRow : OpenClaim := { program := "ytgenllnpmjialaa", sum := "91446ec3c22a4763e62de6fd5d5a4de67443c37c6cc62bed42e34e97514b4c76", func := "loop.example/g03405/laws.FnExactOrderFor", spec := "fnExactOrderFor", unfollowed := true, recurses := true, apart := false, narrowed := true }
def FnExactOrderForUptoSaid : Prop := fnExactOrderForUptoRow.holds Try.pinned (OpenSpec.upto fnExactOrderForSpec)

/-- 'laws.FnExactIsConvexAt', WHERE WHAT IT READS IS OF BULK AT MOST 1048576: true; the input reads as it did. -/
def fnExactIsConvexAtUptoRow : OpenClaim := { program := "ytgenllnpmjialaa", sum := "91446ec3c22a4763e62de6fd5d5a4de67443c37c6cc62bed42e34e97514b4c76", func := "loop.example/g03405/laws.FnExactIsConvexAt", spec := "fnExactIsConvexAt", unfollowed := true, recurses := true, apart := false, narrowed := true }
def FnExactIsConvexAtUptoSaid : Prop := fnExactIsConvexAtUptoRow.holds Try.pinned (OpenSpec.upto fnExactIsConvexAtSpec)

/-- 'laws.FnExactLeastVector', WHERE WHAT IT READS IS OF BULK AT MOST 1048576: true; the input reads as it did. -/
def fnExactLeastVectorUptoRow : OpenClaim := { program := "ytgenllnpmjialaa", sum := "91446ec3c22a4763e62de6fd5d5a4de67443c37c6cc62bed42e34e97514b4c76", func := "loop.example/g03405/laws.FnExactLeastVector", spec := "fnExactLeastVector", unfollowed := true, recurses := true, apart := false, narrowed := true }
def FnExactLeastVectorUptoSaid : Prop := fnExactLeastVectorUptoRow.holds Try.pinned (OpenSpec.upto fnExactLeastVectorSpec)

/-- 'laws.FnExactGreatestVector', WHERE WHAT IT READS IS OF BULK AT MOST 1048576: true; the input reads as it did. -/
def fnExactGreatestVectorUptoRow : OpenClaim := { program := "ytgenllnpmjialaa", sum := "91446ec3c22a4763e62de6fd5d5a4de67443c37c6cc62bed42e34e97514b4c76", func := "loop.example/g03405/laws.FnExactGreatestVector", spec := "fnExactGreatestVector", unfollowed := true, recurses := true, apart := false, narrowed := true }
def FnExactGreatestVectorUptoSaid : Prop := fnExactGreatestVectorUptoRow.holds Try.pinned (OpenSpec.upto fnExactGreatestVectorSpec)

/-- 'laws.FnExactPairingOf', WHERE WHAT IT READS IS OF BULK AT MOST 1048576: true; the input reads as it did. -/
def fnExactPairingOfUptoRow : OpenClaim := { program := "ytgenllnpmjialaa", sum := "91446ec3c22a4763e62de6fd5d5a4de67443c37c6cc62bed42e34e97514b4c76", func := "loop.example/g03405/laws.FnExactPairingOf", spec := "fnExactPairingOf", apart := false, narrowed := true }
def FnExactPairingOfUptoSaid : Prop := fnExactPairingOfUptoRow.holds Try.pinned (OpenSpec.upto fnExactPairingOfSpec)

end Rows
end Go.Proofs.Ytgenllnpmjialaa
