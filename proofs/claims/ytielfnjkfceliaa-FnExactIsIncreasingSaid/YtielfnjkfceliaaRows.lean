/-
  No cell of these rows narrows 'for every input' (looked for: loops, veiled, ifaces, maps, wideKeys, modest, calm, conditions, laid).
  DERIVED. THE GIVEN ROWS OF THIS SEAT. 7 by the template 'for every input the law returns true; each argument reads behind the call as it read before'; 0 by the template 'total and deterministic' (their statements: YtielfnjkfceliaaTotals.lean).
  GIVEN WITH THE SEED: the statements are not yours to turn. If you find one false, say at which input.
  Laid BY PROGRAM, IN A SANDBOX (cutbox-rows.mjs): the forced cells as the released guide's own fill.sh prints them over the translation d91328da27600745… (all of the seat's roots in one cut). By AI agents, Wed Nov 11 2026. No macro, syntax, notation, axiom, sorry.
-/
import Derived.Test.YtielfnjkfceliaaChecked
import GoSem.Claim
import GoSem.ClaimJoined
import GoSem.ClaimMapViews
import Derived.JoinedTies
import Derived.KernelRfl
namespace Go.Proofs.Ytielfnjkfceliaa
/- THE CELL 'sum', in the pinned program and in every row, IS THE sha256 OF THE DUMP (.gsa) THAT YtielfnjkfceliaaProg.lean LOADS. Nothing in Lean hashes anything: it is a label: what it is worth is what the hold of that sum in a sandbox is worth. -/
noncomputable def Try.pinned : Pinned := { name := "ytielfnjkfceliaa", sum := "d91328da27600745707d110b465b33bf3f8bc54d374eea0d55db5d18dc3e4fa7", checked := Try.checked }
namespace Rows
def none {H : Type} : Left H := { results := [], args := [] }

/-- 'laws.FnExactIsSubmodular': WHATEVER THE INPUT: true; the input reads as it did. -/
def fnExactIsSubmodularSpec : ChangeSpec := { name := "fnExactIsSubmodular", fn := fun _ => fun
  | [d] => { results := [.lit (.bool true)], args := [d] }
  | _ => none }
def fnExactIsSubmodularRow : OpenClaim := { program := "ytielfnjkfceliaa", sum := "d91328da27600745707d110b465b33bf3f8bc54d374eea0d55db5d18dc3e4fa7", func := "loop.example/g03405/laws.FnExactIsSubmodular", spec := "fnExactIsSubmodular", apart := false }
def FnExactIsSubmodularSaid : Prop := fnExactIsSubmodularRow.holds Try.pinned (OpenSpec.ofChange fnExactIsSubmodularSpec)

/-- ITS FALSE NEIGHBOUR: 'it returns false'. Refute it at one input. -/
def fnExactIsSubmodularWrong : ChangeSpec := { name := "fnExactIsSubmodular", fn := fun _ => fun
  | [d] => { results := [.lit (.bool false)], args := [d] }
  | _ => none }
def FnExactIsSubmodularWrongFalsely : Prop := fnExactIsSubmodularRow.holds Try.pinned (OpenSpec.ofChange fnExactIsSubmodularWrong)

/-- 'laws.FnExactViolationOf': WHATEVER THE INPUT: true; the input reads as it did. -/
def fnExactViolationOfSpec : ChangeSpec := { name := "fnExactViolationOf", fn := fun _ => fun
  | [d] => { results := [.lit (.bool true)], args := [d] }
  | _ => none }
def fnExactViolationOfRow : OpenClaim := { program := "ytielfnjkfceliaa", sum := "d91328da27600745707d110b465b33bf3f8bc54d374eea0d55db5d18dc3e4fa7", func := "loop.example/g03405/laws.FnExactViolationOf", spec := "fnExactViolationOf", apart := false }
def FnExactViolationOfSaid : Prop := fnExactViolationOfRow.holds Try.pinned (OpenSpec.ofChange fnExactViolationOfSpec)

/-- ITS FALSE NEIGHBOUR: 'it returns false'. Refute it at one input. -/
def fnExactViolationOfWrong : ChangeSpec := { name := "fnExactViolationOf", fn := fun _ => fun
  | [d] => { results := [.lit (.bool false)], args := [d] }
  | _ => none }
def FnExactViolationOfWrongFalsely : Prop := fnExactViolationOfRow.holds Try.pinned (OpenSpec.ofChange fnExactViolationOfWrong)

/-- 'laws.FnExactIsIncreasing': WHATEVER THE INPUT: true; the input reads as it did. -/
def fnExactIsIncreasingSpec : ChangeSpec := { name := "fnExactIsIncreasing", fn := fun _ => fun
  | [d] => { results := [.lit (.bool true)], args := [d] }
  | _ => none }
def fnExactIsIncreasingRow : OpenClaim := { program := "ytielfnjkfceliaa", sum := "d91328da27600745707d110b465b33bf3f8bc54d374eea0d55db5d18dc3e4fa7", func := "loop.example/g03405/laws.FnExactIsIncreasing", spec := "fnExactIsIncreasing", apart := false }
def FnExactIsIncreasingSaid : Prop := fnExactIsIncreasingRow.holds Try.pinned (OpenSpec.ofChange fnExactIsIncreasingSpec)

/-- ITS FALSE NEIGHBOUR: 'it returns false'. Refute it at one input. -/
def fnExactIsIncreasingWrong : ChangeSpec := { name := "fnExactIsIncreasing", fn := fun _ => fun
  | [d] => { results := [.lit (.bool false)], args := [d] }
  | _ => none }
def FnExactIsIncreasingWrongFalsely : Prop := fnExactIsIncreasingRow.holds Try.pinned (OpenSpec.ofChange fnExactIsIncreasingWrong)

/-- 'laws.FnExactIsModular': WHATEVER THE INPUT: true; the input reads as it did. -/
def fnExactIsModularSpec : ChangeSpec := { name := "fnExactIsModular", fn := fun _ => fun
  | [d] => { results := [.lit (.bool true)], args := [d] }
  | _ => none }
def fnExactIsModularRow : OpenClaim := { program := "ytielfnjkfceliaa", sum := "d91328da27600745707d110b465b33bf3f8bc54d374eea0d55db5d18dc3e4fa7", func := "loop.example/g03405/laws.FnExactIsModular", spec := "fnExactIsModular", unfollowed := true, recurses := true, apart := false }
def FnExactIsModularSaid : Prop := fnExactIsModularRow.holds Try.pinned (OpenSpec.ofChange fnExactIsModularSpec)

/-- ITS FALSE NEIGHBOUR: 'it returns false'. Refute it at one input. -/
def fnExactIsModularWrong : ChangeSpec := { name := "fnExactIsModular", fn := fun _ => fun
  | [d] => { results := [.lit (.bool false)], args := [d] }
  | _ => none }
def FnExactIsModularWrongFalsely : Prop := fnExactIsModularRow.holds Try.pinned (OpenSpec.ofChange fnExactIsModularWrong)

/-- 'laws.FnExactIsSupermodular': WHATEVER THE INPUT: true; the input reads as it did. -/
def fnExactIsSupermodularSpec : ChangeSpec := { name := "fnExactIsSupermodular", fn := fun _ => fun
  | [d] => { results := [.lit (.bool true)], args := [d] }
  | _ => none }
def fnExactIsSupermodularRow : OpenClaim := { program := "ytielfnjkfceliaa", sum := "d91328da27600745707d110b465b33bf3f8bc54d374eea0d55db5d18dc3e4fa7", func := "loop.example/g03405/laws.FnExactIsSupermodular", spec := "fnExactIsSupermodular", unfollowed := true, recurses := true, apart := false }
def FnExactIsSupermodularSaid : Prop := fnExactIsSupermodularRow.holds Try.pinned (OpenSpec.ofChange fnExactIsSupermodularSpec)

/-- ITS FALSE NEIGHBOUR: 'it returns false'. Refute it at one input. -/
def fnExactIsSupermodularWrong : ChangeSpec := { name := "fnExactIsSupermodular", fn := fun _ => fun
  | [d] => { results := [.lit (.bool false)], args := [d] }
  | _ => none }
def FnExactIsSupermodularWrongFalsely : Prop := fnExactIsSupermodularRow.holds Try.pinned (OpenSpec.ofChange fnExactIsSupermodularWrong)

/-- 'laws.FnExactIsGrounded': WHATEVER THE INPUT: true; the input reads as it did. -/
def fnExactIsGroundedSpec : ChangeSpec := { name := "fnExactIsGrounded", fn := fun _ => fun
  | [d] => { results := [.lit (.bool true)], args := [d] }
  | _ => none }
def fnExactIsGroundedRow : OpenClaim := { program := "ytielfnjkfceliaa", sum := "d91328da27600745707d110b465b33bf3f8bc54d374eea0d55db5d18dc3e4fa7", func := "loop.example/g03405/laws.FnExactIsGrounded", spec := "fnExactIsGrounded", apart := false }
def FnExactIsGroundedSaid : Prop := fnExactIsGroundedRow.holds Try.pinned (OpenSpec.ofChange fnExactIsGroundedSpec)

/-- ITS FALSE NEIGHBOUR: 'it returns false'. Refute it at one input. -/
def fnExactIsGroundedWrong : ChangeSpec := { name := "fnExactIsGrounded", fn := fun _ => fun
  | [d] => { results := [.lit (.bool false)], args := [d] }
  | _ => none }
def FnExactIsGroundedWrongFalsely : Prop := fnExactIsGroundedRow.holds Try.pinned (OpenSpec.ofChange fnExactIsGroundedWrong)

/-- 'laws.FnExactIsPolymatroid': WHATEVER THE INPUT: true; the input reads as it did. -/
def fnExactIsPolymatroidSpec : ChangeSpec := { name := "fnExactIsPolymatroid", fn := fun _ => fun
  | [d] => { results := [.lit (.bool true)], args := [d] }
  | _ => none }
def fnExactIsPolymatroidRow : OpenClaim := { program := "ytielfnjkfceliaa", sum := "d91328da27600745707d110b465b33bf3f8bc54d374eea0d55db5d18dc3e4fa7", func := "loop.example/g03405/laws.FnExactIsPolymatroid", spec := "fnExactIsPolymatroid", apart := false }
def FnExactIsPolymatroidSaid : Prop := fnExactIsPolymatroidRow.holds Try.pinned (OpenSpec.ofChange fnExactIsPolymatroidSpec)

/-- ITS FALSE NEIGHBOUR: 'it returns false'. Refute it at one input. -/
def fnExactIsPolymatroidWrong : ChangeSpec := { name := "fnExactIsPolymatroid", fn := fun _ => fun
  | [d] => { results := [.lit (.bool false)], args := [d] }
  | _ => none }
def FnExactIsPolymatroidWrongFalsely : Prop := fnExactIsPolymatroidRow.holds Try.pinned (OpenSpec.ofChange fnExactIsPolymatroidWrong)

/- THE SECOND FORM. 'bulk': how many values and letters a reading holds, each counted each time it is reached (what is shared counts as often as it is met; a slice's spare places count too). A statement '..UptoSaid' is the law's where the arguments, and the package variables that the reading takes, are together of bulk at most 1048576: NARROWER than '..Said'. Prove '..Said' where nothing that the law and all that it calls make is longer than what came in: it says more and counts as full. Else prove '..UptoSaid'. A law counts once. -/
mutual
def uptoBulk {H : Type} : DataW H → Nat
  | .lit (.string bytes) => bytes.length + 1
  | .lit _ => 1
  | .nil => 1
  | .ptr d => uptoBulk d + 1
  | .slice elems spare => uptoBulkAll elems + uptoBulkAll spare + 1
  | .agg parts => uptoBulkAll parts + 1
  | .iface _ d => uptoBulk d + 1
  | .map entries => uptoBulkEntries entries + 1
  | .held _ => 1
def uptoBulkAll {H : Type} : List (DataW H) → Nat
  | [] => 0
  | d :: r => uptoBulk d + uptoBulkAll r
def uptoBulkEntries {H : Type} : List (Lit × DataW H) → Nat
  | [] => 0
  | x :: r => uptoBulkEntry x + uptoBulkEntries r
def uptoBulkEntry {H : Type} : Lit × DataW H → Nat
  | (.string bytes, d) => bytes.length + uptoBulk d + 1
  | (_, d) => uptoBulk d + 1
 end
def uptoSmall : (H : Type) → List (DataW H) → Bool := fun _ ds => decide (uptoBulkAll ds ≤ 1048576)
def OpenSpec.upto (s : _root_.Go.ChangeSpec) : _root_.Go.OpenSpec := { _root_.Go.OpenSpec.ofChange s with cond := some uptoSmall }

/-- 'laws.FnExactIsSubmodular', WHERE WHAT IT READS IS OF BULK AT MOST 1048576: true; the input reads as it did. -/
def fnExactIsSubmodularUptoRow : OpenClaim := { program := "ytielfnjkfceliaa", sum := "d91328da27600745707d110b465b33bf3f8bc54d374eea0d55db5d18dc3e4fa7", func := "loop.example/g03405/laws.FnExactIsSubmodular", spec := "fnExactIsSubmodular", apart := false, narrowed := true }
def FnExactIsSubmodularUptoSaid : Prop := fnExactIsSubmodularUptoRow.holds Try.pinned (OpenSpec.upto fnExactIsSubmodularSpec)

/-- 'laws.FnExactViolationOf', WHERE WHAT IT READS IS OF BULK AT MOST 1048576: true; the input reads as it did. -/
def fnExactViolationOfUptoRow : OpenClaim := { program := "ytielfnjkfceliaa", sum := "d91328da27600745707d110b465b33bf3f8bc54d374eea0d55db5d18dc3e4fa7", func := "loop.example/g03405/laws.FnExactViolationOf", spec := "fnExactViolationOf", apart := false, narrowed := true }
def FnExactViolationOfUptoSaid : Prop := fnExactViolationOfUptoRow.holds Try.pinned (OpenSpec.upto fnExactViolationOfSpec)

/-- 'laws.FnExactIsIncreasing', WHERE WHAT IT READS IS OF BULK AT MOST 1048576: true; the input reads as it did. -/
def fnExactIsIncreasingUptoRow : OpenClaim := { program := "ytielfnjkfceliaa", sum := "d91328da27600745707d110b465b33bf3f8bc54d374eea0d55db5d18dc3e4fa7", func := "loop.example/g03405/laws.FnExactIsIncreasing", spec := "fnExactIsIncreasing", apart := false, narrowed := true }
def FnExactIsIncreasingUptoSaid : Prop := fnExactIsIncreasingUptoRow.holds Try.pinned (OpenSpec.upto fnExactIsIncreasingSpec)

/-- 'laws.FnExactIsModular', WHERE WHAT IT READS IS OF BULK AT MOST 1048576: true; the input reads as it did. -/
def fnExactIsModularUptoRow : OpenClaim := { program := "ytielfnjkfceliaa", sum := "d91328da27600745707d110b465b33bf3f8bc54d374eea0d55db5d18dc3e4fa7", func := "loop.example/g03405/laws.FnExactIsModular", spec := "fnExactIsModular", unfollowed := true, recurses := true, apart := false, narrowed := true }
def FnExactIsModularUptoSaid : Prop := fnExactIsModularUptoRow.holds Try.pinned (OpenSpec.upto fnExactIsModularSpec)

/-- 'laws.FnExactIsSupermodular', WHERE WHAT IT READS IS OF BULK AT MOST 1048576: true; the input reads as it did. -/
def fnExactIsSupermodularUptoRow : OpenClaim := { program := "ytielfnjkfceliaa", sum := "d91328da27600745707d110b465b33bf3f8bc54d374eea0d55db5d18dc3e4fa7", func := "loop.example/g03405/laws.FnExactIsSupermodular", spec := "fnExactIsSupermodular", unfollowed := true, recurses := true, apart := false, narrowed := true }
def FnExactIsSupermodularUptoSaid : Prop := fnExactIsSupermodularUptoRow.holds Try.pinned (OpenSpec.upto fnExactIsSupermodularSpec)

/-- 'laws.FnExactIsGrounded', WHERE WHAT IT READS IS OF BULK AT MOST 1048576: true; the input reads as it did. -/
def fnExactIsGroundedUptoRow : OpenClaim := { program := "ytielfnjkfceliaa", sum := "d91328da27600745707d110b465b33bf3f8bc54d374eea0d55db5d18dc3e4fa7", func := "loop.example/g03405/laws.FnExactIsGrounded", spec := "fnExactIsGrounded", apart := false, narrowed := true }
def FnExactIsGroundedUptoSaid : Prop := fnExactIsGroundedUptoRow.holds Try.pinned (OpenSpec.upto fnExactIsGroundedSpec)

/-- 'laws.FnExactIsPolymatroid', WHERE WHAT IT READS IS OF BULK AT MOST 1048576: true; the input reads as it did. -/
def fnExactIsPolymatroidUptoRow : OpenClaim := { program := "ytielfnjkfceliaa", sum := "d91328da27600745707d110b465b33bf3f8bc54d374eea0d55db5d18dc3e4fa7", func := "loop.example/g03405/laws.FnExactIsPolymatroid", spec := "fnExactIsPolymatroid", apart := false, narrowed := true }
def FnExactIsPolymatroidUptoSaid : Prop := fnExactIsPolymatroidUptoRow.holds Try.pinned (OpenSpec.upto fnExactIsPolymatroidSpec)

end Rows
end Go.Proofs.Ytielfnjkfceliaa
