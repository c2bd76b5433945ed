/-
  No cell of these rows narrows 'for every input' (looked for: loops, veiled, ifaces, maps, wideKeys, modest, calm, conditions, laid).
  DERIVED. THE GIVEN ROWS OF THIS SEAT. 7 by the template 'for every input the law returns true; each argument reads behind the call as it read before'; 0 by the template 'total and deterministic' (their statements: YtlfbgaapigcpjaaTotals.lean).
  GIVEN WITH THE SEED: the statements are not yours to turn. If you find one false, say at which input.
  Laid BY PROGRAM, IN A SANDBOX (cutbox-rows.mjs): the forced cells as the released guide's own fill.sh prints them over the translation 2d617b9f2df1298a… (all of the seat's roots in one cut). By AI agents, Wed Nov 11 2026. No macro, syntax, notation, axiom, sorry.
-/
import Derived.Test.YtlfbgaapigcpjaaChecked
import GoSem.Claim
import GoSem.ClaimJoined
import GoSem.ClaimMapViews
import Derived.JoinedTies
import Derived.KernelRfl
namespace Go.Proofs.Ytlfbgaapigcpjaa
/- THE CELL 'sum', in the pinned program and in every row, IS THE sha256 OF THE DUMP (.gsa) THAT YtlfbgaapigcpjaaProg.lean LOADS. Nothing in Lean hashes anything: it is a label: what it is worth is what the hold of that sum in a sandbox is worth. -/
noncomputable def Try.pinned : Pinned := { name := "ytlfbgaapigcpjaa", sum := "2d617b9f2df1298a9e1061c85e621784c67eddf7b7b1742e48a7fb83f9de1877", checked := Try.checked }
namespace Rows
def none {H : Type} : Left H := { results := [], args := [] }

/-- 'laws.FnMinima': WHATEVER THE INPUT: true; the input reads as it did. -/
def fnMinimaSpec : ChangeSpec := { name := "fnMinima", fn := fun _ => fun
  | [d] => { results := [.lit (.bool true)], args := [d] }
  | _ => none }
def fnMinimaRow : OpenClaim := { program := "ytlfbgaapigcpjaa", sum := "2d617b9f2df1298a9e1061c85e621784c67eddf7b7b1742e48a7fb83f9de1877", func := "loop.example/g03405/laws.FnMinima", spec := "fnMinima", unfollowed := true, recurses := true, apart := false }
def FnMinimaSaid : Prop := fnMinimaRow.holds Try.pinned (OpenSpec.ofChange fnMinimaSpec)

/-- ITS FALSE NEIGHBOUR: 'it returns false'. Refute it at one input. -/
def fnMinimaWrong : ChangeSpec := { name := "fnMinima", fn := fun _ => fun
  | [d] => { results := [.lit (.bool false)], args := [d] }
  | _ => none }
def FnMinimaWrongFalsely : Prop := fnMinimaRow.holds Try.pinned (OpenSpec.ofChange fnMinimaWrong)

/-- 'laws.FnExactMinimumOf': WHATEVER THE INPUT: true; the input reads as it did. -/
def fnExactMinimumOfSpec : ChangeSpec := { name := "fnExactMinimumOf", fn := fun _ => fun
  | [d] => { results := [.lit (.bool true)], args := [d] }
  | _ => none }
def fnExactMinimumOfRow : OpenClaim := { program := "ytlfbgaapigcpjaa", sum := "2d617b9f2df1298a9e1061c85e621784c67eddf7b7b1742e48a7fb83f9de1877", func := "loop.example/g03405/laws.FnExactMinimumOf", spec := "fnExactMinimumOf", apart := false }
def FnExactMinimumOfSaid : Prop := fnExactMinimumOfRow.holds Try.pinned (OpenSpec.ofChange fnExactMinimumOfSpec)

/-- ITS FALSE NEIGHBOUR: 'it returns false'. Refute it at one input. -/
def fnExactMinimumOfWrong : ChangeSpec := { name := "fnExactMinimumOf", fn := fun _ => fun
  | [d] => { results := [.lit (.bool false)], args := [d] }
  | _ => none }
def FnExactMinimumOfWrongFalsely : Prop := fnExactMinimumOfRow.holds Try.pinned (OpenSpec.ofChange fnExactMinimumOfWrong)

/-- 'laws.FnExactMinimizersOf': WHATEVER THE INPUT: true; the input reads as it did. -/
def fnExactMinimizersOfSpec : ChangeSpec := { name := "fnExactMinimizersOf", fn := fun _ => fun
  | [d] => { results := [.lit (.bool true)], args := [d] }
  | _ => none }
def fnExactMinimizersOfRow : OpenClaim := { program := "ytlfbgaapigcpjaa", sum := "2d617b9f2df1298a9e1061c85e621784c67eddf7b7b1742e48a7fb83f9de1877", func := "loop.example/g03405/laws.FnExactMinimizersOf", spec := "fnExactMinimizersOf", recurses := true, apart := false }
def FnExactMinimizersOfSaid : Prop := fnExactMinimizersOfRow.holds Try.pinned (OpenSpec.ofChange fnExactMinimizersOfSpec)

/-- ITS FALSE NEIGHBOUR: 'it returns false'. Refute it at one input. -/
def fnExactMinimizersOfWrong : ChangeSpec := { name := "fnExactMinimizersOf", fn := fun _ => fun
  | [d] => { results := [.lit (.bool false)], args := [d] }
  | _ => none }
def FnExactMinimizersOfWrongFalsely : Prop := fnExactMinimizersOfRow.holds Try.pinned (OpenSpec.ofChange fnExactMinimizersOfWrong)

/-- 'laws.FnExactLeastMinimizer': WHATEVER THE INPUT: true; the input reads as it did. -/
def fnExactLeastMinimizerSpec : ChangeSpec := { name := "fnExactLeastMinimizer", fn := fun _ => fun
  | [d] => { results := [.lit (.bool true)], args := [d] }
  | _ => none }
def fnExactLeastMinimizerRow : OpenClaim := { program := "ytlfbgaapigcpjaa", sum := "2d617b9f2df1298a9e1061c85e621784c67eddf7b7b1742e48a7fb83f9de1877", func := "loop.example/g03405/laws.FnExactLeastMinimizer", spec := "fnExactLeastMinimizer", apart := false }
def FnExactLeastMinimizerSaid : Prop := fnExactLeastMinimizerRow.holds Try.pinned (OpenSpec.ofChange fnExactLeastMinimizerSpec)

/-- ITS FALSE NEIGHBOUR: 'it returns false'. Refute it at one input. -/
def fnExactLeastMinimizerWrong : ChangeSpec := { name := "fnExactLeastMinimizer", fn := fun _ => fun
  | [d] => { results := [.lit (.bool false)], args := [d] }
  | _ => none }
def FnExactLeastMinimizerWrongFalsely : Prop := fnExactLeastMinimizerRow.holds Try.pinned (OpenSpec.ofChange fnExactLeastMinimizerWrong)

/-- 'laws.FnExactGreatestMinimizer': WHATEVER THE INPUT: true; the input reads as it did. -/
def fnExactGreatestMinimizerSpec : ChangeSpec := { name := "fnExactGreatestMinimizer", fn := fun _ => fun
  | [d] => { results := [.lit (.bool true)], args := [d] }
  | _ => none }
def fnExactGreatestMinimizerRow : OpenClaim := { program := "ytlfbgaapigcpjaa", sum := "2d617b9f2df1298a9e1061c85e621784c67eddf7b7b1742e48a7fb83f9de1877", func := "loop.example/g03405/laws.FnExactGreatestMinimizer", spec := "fnExactGreatestMinimizer", apart := false }
def FnExactGreatestMinimizerSaid : Prop := fnExactGreatestMinimizerRow.holds Try.pinned (OpenSpec.ofChange fnExactGreatestMinimizerSpec)

/-- ITS FALSE NEIGHBOUR: 'it returns false'. Refute it at one input. -/
def fnExactGreatestMinimizerWrong : ChangeSpec := { name := "fnExactGreatestMinimizer", fn := fun _ => fun
  | [d] => { results := [.lit (.bool false)], args := [d] }
  | _ => none }
def FnExactGreatestMinimizerWrongFalsely : Prop := fnExactGreatestMinimizerRow.holds Try.pinned (OpenSpec.ofChange fnExactGreatestMinimizerWrong)

/-- 'laws.FnExactIsLattice': WHATEVER THE INPUT: true; the input reads as it did. -/
def fnExactIsLatticeSpec : ChangeSpec := { name := "fnExactIsLattice", fn := fun _ => fun
  | [d] => { results := [.lit (.bool true)], args := [d] }
  | _ => none }
def fnExactIsLatticeRow : OpenClaim := { program := "ytlfbgaapigcpjaa", sum := "2d617b9f2df1298a9e1061c85e621784c67eddf7b7b1742e48a7fb83f9de1877", func := "loop.example/g03405/laws.FnExactIsLattice", spec := "fnExactIsLattice", apart := false }
def FnExactIsLatticeSaid : Prop := fnExactIsLatticeRow.holds Try.pinned (OpenSpec.ofChange fnExactIsLatticeSpec)

/-- ITS FALSE NEIGHBOUR: 'it returns false'. Refute it at one input. -/
def fnExactIsLatticeWrong : ChangeSpec := { name := "fnExactIsLattice", fn := fun _ => fun
  | [d] => { results := [.lit (.bool false)], args := [d] }
  | _ => none }
def FnExactIsLatticeWrongFalsely : Prop := fnExactIsLatticeRow.holds Try.pinned (OpenSpec.ofChange fnExactIsLatticeWrong)

/-- 'laws.FnExactMinimumBetween': WHATEVER THE INPUT: true; the input reads as it did. -/
def fnExactMinimumBetweenSpec : ChangeSpec := { name := "fnExactMinimumBetween", fn := fun _ => fun
  | [d1, d2, d3] => { results := [.lit (.bool true)], args := [d1, d2, d3] }
  | _ => none }
def fnExactMinimumBetweenRow : OpenClaim := { program := "ytlfbgaapigcpjaa", sum := "2d617b9f2df1298a9e1061c85e621784c67eddf7b7b1742e48a7fb83f9de1877", func := "loop.example/g03405/laws.FnExactMinimumBetween", spec := "fnExactMinimumBetween", unfollowed := true, recurses := true, apart := false }
def FnExactMinimumBetweenSaid : Prop := fnExactMinimumBetweenRow.holds Try.pinned (OpenSpec.ofChange fnExactMinimumBetweenSpec)

/-- ITS FALSE NEIGHBOUR: 'it returns false'. Refute it at one input. -/
def fnExactMinimumBetweenWrong : ChangeSpec := { name := "fnExactMinimumBetween", fn := fun _ => fun
  | [d1, d2, d3] => { results := [.lit (.bool false)], args := [d1, d2, d3] }
  | _ => none }
def FnExactMinimumBetweenWrongFalsely : Prop := fnExactMinimumBetweenRow.holds Try.pinned (OpenSpec.ofChange fnExactMinimumBetweenWrong)

/- THE SECOND FORM. 'bulk': how many values and letters a reading holds, each counted each time it is reached (what is shared counts as often as it is met; a slice's spare places count too). A statement '..UptoSaid' is the law's where the arguments, and the package variables that the reading takes, are together of bulk at most 1048576: NARROWER than '..Said'. Prove '..Said' where nothing that the law and all that it calls make is longer than what came in: it says more and counts as full. Else prove '..UptoSaid'. A law counts once. -/
mutual
def uptoBulk {H : Type} : DataW H → Nat
  | .lit (.string bytes) => bytes.length + 1
  | .lit _ => 1
  | .nil => 1
  | .ptr d => uptoBulk d + 1
  | .slice elems spare => uptoBulkAll elems + uptoBulkAll spare + 1
  | .agg parts => uptoBulkAll parts + 1
  | .iface _ d => uptoBulk d + 1
  | .map entries => uptoBulkEntries entries + 1
  | .held _ => 1
def uptoBulkAll {H : Type} : List (DataW H) → Nat
  | [] => 0
  | d :: r => uptoBulk d + uptoBulkAll r
def uptoBulkEntries {H : Type} : List (Lit × DataW H) → Nat
  | [] => 0
  | x :: r => uptoBulkEntry x + uptoBulkEntries r
def uptoBulkEntry {H : Type} : Lit × DataW H → Nat
  | (.string bytes, d) => bytes.length + uptoBulk d + 1
  | (_, d) => uptoBulk d + 1
 end
def uptoSmall : (H : Type) → List (DataW H) → Bool := fun _ ds => decide (uptoBulkAll ds ≤ 1048576)
def OpenSpec.upto (s : _root_.Go.ChangeSpec) : _root_.Go.OpenSpec := { _root_.Go.OpenSpec.ofChange s with cond := some uptoSmall }

/-- 'laws.FnMinima', WHERE WHAT IT READS IS OF BULK AT MOST 1048576: true; the input reads as it did. -/
def fnMinimaUptoRow : OpenClaim := { program := "ytlfbgaapigcpjaa", sum := "2d617b9f2df1298a9e1061c85e621784c67eddf7b7b1742e48a7fb83f9de1877", func := "loop.example/g03405/laws.FnMinima", spec := "fnMinima", unfollowed := true, recurses := true, apart := false, narrowed := true }
def FnMinimaUptoSaid : Prop := fnMinimaUptoRow.holds Try.pinned (OpenSpec.upto fnMinimaSpec)

/-- 'laws.FnExactMinimumOf', WHERE WHAT IT READS IS OF BULK AT MOST 1048576: true; the input reads as it did. -/
def fnExactMinimumOfUptoRow : OpenClaim := { program := "ytlfbgaapigcpjaa", sum := "2d617b9f2df1298a9e1061c85e621784c67eddf7b7b1742e48a7fb83f9de1877", func := "loop.example/g03405/laws.FnExactMinimumOf", spec := "fnExactMinimumOf", apart := false, narrowed := true }
def FnExactMinimumOfUptoSaid : Prop := fnExactMinimumOfUptoRow.holds Try.pinned (OpenSpec.upto fnExactMinimumOfSpec)

/-- 'laws.FnExactMinimizersOf', WHERE WHAT IT READS IS OF BULK AT MOST 1048576: true; the input reads as it did. -/
def fnExactMinimizersOfUptoRow : OpenClaim := { program := "ytlfbgaapigcpjaa", sum := "2d617b9f2df1298a9e1061c85e621784c67eddf7b7b1742e48a7fb83f9de1877", func := "loop.example/g03405/laws.FnExactMinimizersOf", spec := "fnExactMinimizersOf", recurses := true, apart := false, narrowed := true }
def FnExactMinimizersOfUptoSaid : Prop := fnExactMinimizersOfUptoRow.holds Try.pinned (OpenSpec.upto fnExactMinimizersOfSpec)

/-- 'laws.FnExactLeastMinimizer', WHERE WHAT IT READS IS OF BULK AT MOST 1048576: true; the input reads as it did. -/
def fnExactLeastMinimizerUptoRow : OpenClaim := { program := "ytlfbgaapigcpjaa", sum := "2d617b9f2df1298a9e1061c85e621784c67eddf7b7b1742e48a7fb83f9de1877", func := "loop.example/g03405/laws.FnExactLeastMinimizer", spec := "fnExactLeastMinimizer", apart := false, narrowed := true }
def FnExactLeastMinimizerUptoSaid : Prop := fnExactLeastMinimizerUptoRow.holds Try.pinned (OpenSpec.upto fnExactLeastMinimizerSpec)

/-- 'laws.FnExactGreatestMinimizer', WHERE WHAT IT READS IS OF BULK AT MOST 1048576: true; the input reads as it did. -/
def fnExactGreatestMinimizerUptoRow : OpenClaim := { program := "ytlfbgaapigcpjaa", sum := "2d617b9f2df1298a9e1061c85e621784c67eddf7b7b1742e48a7fb83f9de1877", func := "loop.example/g03405/laws.FnExactGreatestMinimizer", spec := "fnExactGreatestMinimizer", apart := false, narrowed := true }
def FnExactGreatestMinimizerUptoSaid : Prop := fnExactGreatestMinimizerUptoRow.holds Try.pinned (OpenSpec.upto fnExactGreatestMinimizerSpec)

/-- 'laws.FnExactIsLattice', WHERE WHAT IT READS IS OF BULK AT MOST 1048576: true; the input reads as it did. -/
def fnExactIsLatticeUptoRow : OpenClaim := { program := "ytlfbgaapigcpjaa", sum := "2d617b9f2df1298a9e1061c85e621784c67eddf7b7b1742e48a7fb83f9de1877", func := "loop.example/g03405/laws.FnExactIsLattice", spec := "fnExactIsLattice", apart := false, narrowed := true }
def FnExactIsLatticeUptoSaid : Prop := fnExactIsLatticeUptoRow.holds Try.pinned (OpenSpec.upto fnExactIsLatticeSpec)

/-- 'laws.FnExactMinimumBetween', WHERE WHAT IT READS IS OF BULK AT MOST 1048576: true; the input reads as it did. -/
def fnExactMinimumBetweenUptoRow : OpenClaim := { program := "ytlfbgaapigcpjaa", sum := "2d617b9f2df1298a9e1061c85e621784c67eddf7b7b1742e48a7fb83f9de1877", func := "loop.example/g03405/laws.FnExactMinimumBetween", spec := "fnExactMinimumBetween", unfollowed := true, recurses := true, apart := false, narrowed := true }
def FnExactMinimumBetweenUptoSaid : Prop := fnExactMinimumBetweenUptoRow.holds Try.pinned (OpenSpec.upto fnExactMinimumBetweenSpec)

end Rows
end Go.Proofs.Ytlfbgaapigcpjaa
