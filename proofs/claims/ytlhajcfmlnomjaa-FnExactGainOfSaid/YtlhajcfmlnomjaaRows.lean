/-
  No cell of these rows narrows 'for every input' (looked for: loops, veiled, ifaces, maps, wideKeys, modest, calm, conditions, laid).
  DERIVED. THE GIVEN ROWS OF THIS SEAT. 7 by the template 'for every input the law returns true; each argument reads behind the call as it read before'; 0 by the template 'total and deterministic' (their statements: YtlhajcfmlnomjaaTotals.lean).
  GIVEN WITH THE SEED: the statements are not yours to turn. If you find one false, say at which input.
  Laid BY PROGRAM, IN A SANDBOX (cutbox-rows.mjs): the forced cells as the released guide's own fill.sh prints them over the translation 08de55d948109dce… (all of the seat's roots in one cut). By AI agents, Wed Nov 11 2026. No macro, syntax, notation, axiom, sorry.
-/
import Derived.Test.YtlhajcfmlnomjaaChecked
import GoSem.Claim
import GoSem.ClaimJoined
import GoSem.ClaimMapViews
import Derived.JoinedTies
import Derived.KernelRfl
namespace Go.Proofs.Ytlhajcfmlnomjaa
/- THE CELL 'sum', in the pinned program and in every row, IS THE sha256 OF THE DUMP (.gsa) THAT YtlhajcfmlnomjaaProg.lean LOADS. Nothing in Lean hashes anything: it is a label: what it is worth is what the hold of that sum in a sandbox is worth. -/
noncomputable def Try.pinned : Pinned := { name := "ytlhajcfmlnomjaa", sum := "08de55d948109dceb9cfdb96e0081dd051a3bdc02560113d24d31d162fba2693", checked := Try.checked }
namespace Rows
def none {H : Type} : Left H := { results := [], args := [] }

/-- 'laws.FnExactIsFunction': WHATEVER THE INPUT: true; the input reads as it did. -/
def fnExactIsFunctionSpec : ChangeSpec := { name := "fnExactIsFunction", fn := fun _ => fun
  | [d] => { results := [.lit (.bool true)], args := [d] }
  | _ => none }
def fnExactIsFunctionRow : OpenClaim := { program := "ytlhajcfmlnomjaa", sum := "08de55d948109dceb9cfdb96e0081dd051a3bdc02560113d24d31d162fba2693", func := "loop.example/g03405/laws.FnExactIsFunction", spec := "fnExactIsFunction", apart := false }
def FnExactIsFunctionSaid : Prop := fnExactIsFunctionRow.holds Try.pinned (OpenSpec.ofChange fnExactIsFunctionSpec)

/-- ITS FALSE NEIGHBOUR: 'it returns false'. Refute it at one input. -/
def fnExactIsFunctionWrong : ChangeSpec := { name := "fnExactIsFunction", fn := fun _ => fun
  | [d] => { results := [.lit (.bool false)], args := [d] }
  | _ => none }
def FnExactIsFunctionWrongFalsely : Prop := fnExactIsFunctionRow.holds Try.pinned (OpenSpec.ofChange fnExactIsFunctionWrong)

/-- 'laws.FnExactValueOf': WHATEVER THE INPUT: true; the input reads as it did. -/
def fnExactValueOfSpec : ChangeSpec := { name := "fnExactValueOf", fn := fun _ => fun
  | [d1, d2] => { results := [.lit (.bool true)], args := [d1, d2] }
  | _ => none }
def fnExactValueOfRow : OpenClaim := { program := "ytlhajcfmlnomjaa", sum := "08de55d948109dceb9cfdb96e0081dd051a3bdc02560113d24d31d162fba2693", func := "loop.example/g03405/laws.FnExactValueOf", spec := "fnExactValueOf", apart := false }
def FnExactValueOfSaid : Prop := fnExactValueOfRow.holds Try.pinned (OpenSpec.ofChange fnExactValueOfSpec)

/-- ITS FALSE NEIGHBOUR: 'it returns false'. Refute it at one input. -/
def fnExactValueOfWrong : ChangeSpec := { name := "fnExactValueOf", fn := fun _ => fun
  | [d1, d2] => { results := [.lit (.bool false)], args := [d1, d2] }
  | _ => none }
def FnExactValueOfWrongFalsely : Prop := fnExactValueOfRow.holds Try.pinned (OpenSpec.ofChange fnExactValueOfWrong)

/-- 'laws.FnExactGainOf': WHATEVER THE INPUT: true; the input reads as it did. -/
def fnExactGainOfSpec : ChangeSpec := { name := "fnExactGainOf", fn := fun _ => fun
  | [d1, d2, d3] => { results := [.lit (.bool true)], args := [d1, d2, d3] }
  | _ => none }
def fnExactGainOfRow : OpenClaim := { program := "ytlhajcfmlnomjaa", sum := "08de55d948109dceb9cfdb96e0081dd051a3bdc02560113d24d31d162fba2693", func := "loop.example/g03405/laws.FnExactGainOf", spec := "fnExactGainOf", apart := false }
def FnExactGainOfSaid : Prop := fnExactGainOfRow.holds Try.pinned (OpenSpec.ofChange fnExactGainOfSpec)

/-- ITS FALSE NEIGHBOUR: 'it returns false'. Refute it at one input. -/
def fnExactGainOfWrong : ChangeSpec := { name := "fnExactGainOf", fn := fun _ => fun
  | [d1, d2, d3] => { results := [.lit (.bool false)], args := [d1, d2, d3] }
  | _ => none }
def FnExactGainOfWrongFalsely : Prop := fnExactGainOfRow.holds Try.pinned (OpenSpec.ofChange fnExactGainOfWrong)

/-- 'laws.FnExactAddFunctions': WHATEVER THE INPUT: true; the input reads as it did. -/
def fnExactAddFunctionsSpec : ChangeSpec := { name := "fnExactAddFunctions", fn := fun _ => fun
  | [d1, d2] => { results := [.lit (.bool true)], args := [d1, d2] }
  | _ => none }
def fnExactAddFunctionsRow : OpenClaim := { program := "ytlhajcfmlnomjaa", sum := "08de55d948109dceb9cfdb96e0081dd051a3bdc02560113d24d31d162fba2693", func := "loop.example/g03405/laws.FnExactAddFunctions", spec := "fnExactAddFunctions", unfollowed := true, recurses := true, apart := false }
def FnExactAddFunctionsSaid : Prop := fnExactAddFunctionsRow.holds Try.pinned (OpenSpec.ofChange fnExactAddFunctionsSpec)

/-- ITS FALSE NEIGHBOUR: 'it returns false'. Refute it at one input. -/
def fnExactAddFunctionsWrong : ChangeSpec := { name := "fnExactAddFunctions", fn := fun _ => fun
  | [d1, d2] => { results := [.lit (.bool false)], args := [d1, d2] }
  | _ => none }
def FnExactAddFunctionsWrongFalsely : Prop := fnExactAddFunctionsRow.holds Try.pinned (OpenSpec.ofChange fnExactAddFunctionsWrong)

/-- 'laws.FnExactScaleFunction': WHATEVER THE INPUT: true; the input reads as it did. -/
def fnExactScaleFunctionSpec : ChangeSpec := { name := "fnExactScaleFunction", fn := fun _ => fun
  | [d1, d2] => { results := [.lit (.bool true)], args := [d1, d2] }
  | _ => none }
def fnExactScaleFunctionRow : OpenClaim := { program := "ytlhajcfmlnomjaa", sum := "08de55d948109dceb9cfdb96e0081dd051a3bdc02560113d24d31d162fba2693", func := "loop.example/g03405/laws.FnExactScaleFunction", spec := "fnExactScaleFunction", unfollowed := true, recurses := true, apart := false }
def FnExactScaleFunctionSaid : Prop := fnExactScaleFunctionRow.holds Try.pinned (OpenSpec.ofChange fnExactScaleFunctionSpec)

/-- ITS FALSE NEIGHBOUR: 'it returns false'. Refute it at one input. -/
def fnExactScaleFunctionWrong : ChangeSpec := { name := "fnExactScaleFunction", fn := fun _ => fun
  | [d1, d2] => { results := [.lit (.bool false)], args := [d1, d2] }
  | _ => none }
def FnExactScaleFunctionWrongFalsely : Prop := fnExactScaleFunctionRow.holds Try.pinned (OpenSpec.ofChange fnExactScaleFunctionWrong)

/-- 'laws.FnExactLowerFunction': WHATEVER THE INPUT: true; the input reads as it did. -/
def fnExactLowerFunctionSpec : ChangeSpec := { name := "fnExactLowerFunction", fn := fun _ => fun
  | [d] => { results := [.lit (.bool true)], args := [d] }
  | _ => none }
def fnExactLowerFunctionRow : OpenClaim := { program := "ytlhajcfmlnomjaa", sum := "08de55d948109dceb9cfdb96e0081dd051a3bdc02560113d24d31d162fba2693", func := "loop.example/g03405/laws.FnExactLowerFunction", spec := "fnExactLowerFunction", unfollowed := true, recurses := true, apart := false }
def FnExactLowerFunctionSaid : Prop := fnExactLowerFunctionRow.holds Try.pinned (OpenSpec.ofChange fnExactLowerFunctionSpec)

/-- ITS FALSE NEIGHBOUR: 'it returns false'. Refute it at one input. -/
def fnExactLowerFunctionWrong : ChangeSpec := { name := "fnExactLowerFunction", fn := fun _ => fun
  | [d] => { results := [.lit (.bool false)], args := [d] }
  | _ => none }
def FnExactLowerFunctionWrongFalsely : Prop := fnExactLowerFunctionRow.holds Try.pinned (OpenSpec.ofChange fnExactLowerFunctionWrong)

/-- 'laws.FnExactEqualFunctions': WHATEVER THE INPUT: true; the input reads as it did. -/
def fnExactEqualFunctionsSpec : ChangeSpec := { name := "fnExactEqualFunctions", fn := fun _ => fun
  | [d1, d2] => { results := [.lit (.bool true)], args := [d1, d2] }
  | _ => none }
def fnExactEqualFunctionsRow : OpenClaim := { program := "ytlhajcfmlnomjaa", sum := "08de55d948109dceb9cfdb96e0081dd051a3bdc02560113d24d31d162fba2693", func := "loop.example/g03405/laws.FnExactEqualFunctions", spec := "fnExactEqualFunctions", apart := false }
def FnExactEqualFunctionsSaid : Prop := fnExactEqualFunctionsRow.holds Try.pinned (OpenSpec.ofChange fnExactEqualFunctionsSpec)

/-- ITS FALSE NEIGHBOUR: 'it returns false'. Refute it at one input. -/
def fnExactEqualFunctionsWrong : ChangeSpec := { name := "fnExactEqualFunctions", fn := fun _ => fun
  | [d1, d2] => { results := [.lit (.bool false)], args := [d1, d2] }
  | _ => none }
def FnExactEqualFunctionsWrongFalsely : Prop := fnExactEqualFunctionsRow.holds Try.pinned (OpenSpec.ofChange fnExactEqualFunctionsWrong)

/- THE SECOND FORM. 'bulk': how many values and letters a reading holds, each counted each time it is reached (what is shared counts as often as it is met; a slice's spare places count too). A statement '..UptoSaid' is the law's where the arguments, and the package variables that the reading takes, are together of bulk at most 1048576: NARROWER than '..Said'. Prove '..Said' where nothing that the law and all that it calls make is longer than what came in: it says more and counts as full. Else prove '..UptoSaid'. A law counts once. -/
mutual
def uptoBulk {H : Type} : DataW H → Nat
  | .lit (.string bytes) => bytes.length + 1
  | .lit _ => 1
  | .nil => 1
  | .ptr d => uptoBulk d + 1
  | .slice elems spare => uptoBulkAll elems + uptoBulkAll spare + 1
  | .agg parts => uptoBulkAll parts + 1
  | .iface _ d => uptoBulk d + 1
  | .map entries => uptoBulkEntries entries + 1
  | .held _ => 1
def uptoBulkAll {H : Type} : List (DataW H) → Nat
  | [] => 0
  | d :: r => uptoBulk d + uptoBulkAll r
def uptoBulkEntries {H : Type} : List (Lit × DataW H) → Nat
  | [] => 0
  | x :: r => uptoBulkEntry x + uptoBulkEntries r
def uptoBulkEntry {H : Type} : Lit × DataW H → Nat
  | (.string bytes, d) => bytes.length + uptoBulk d + 1
  | (_, d) => uptoBulk d + 1
 end
def uptoSmall : (H : Type) → List (DataW H) → Bool := fun _ ds => decide (uptoBulkAll ds ≤ 1048576)
def OpenSpec.upto (s : _root_.Go.ChangeSpec) : _root_.Go.OpenSpec := { _root_.Go.OpenSpec.ofChange s with cond := some uptoSmall }

/-- 'laws.FnExactIsFunction', WHERE WHAT IT READS IS OF BULK AT MOST 1048576: true; the input reads as it did. -/
def fnExactIsFunctionUptoRow : OpenClaim := { program := "ytlhajcfmlnomjaa", sum := "08de55d948109dceb9cfdb96e0081dd051a3bdc02560113d24d31d162fba2693", func := "loop.example/g03405/laws.FnExactIsFunction", spec := "fnExactIsFunction", apart := false, narrowed := true }
def FnExactIsFunctionUptoSaid : Prop := fnExactIsFunctionUptoRow.holds Try.pinned (OpenSpec.upto fnExactIsFunctionSpec)

/-- 'laws.FnExactValueOf', WHERE WHAT IT READS IS OF BULK AT MOST 1048576: true; the input reads as it did. -/
def fnExactValueOfUptoRow : OpenClaim := { program := "ytlhajcfmlnomjaa", sum := "08de55d948109dceb9cfdb96e0081dd051a3bdc02560113d24d31d162fba2693", func := "loop.example/g03405/laws.FnExactValueOf", spec := "fnExactValueOf", apart := false, narrowed := true }
def FnExactValueOfUptoSaid : Prop := fnExactValueOfUptoRow.holds Try.pinned (OpenSpec.upto fnExactValueOfSpec)

/-- 'laws.FnExactGainOf', WHERE WHAT IT READS IS OF BULK AT MOST 1048576: true; the input reads as it did. -/
def fnExactGainOfUptoRow : OpenClaim := { program := "ytlhajcfmlnomjaa", sum := "08de55d948109dceb9cfdb96e0081dd051a3bdc02560113d24d31d162fba2693", func := "loop.example/g03405/laws.FnExactGainOf", spec := "fnExactGainOf", apart := false, narrowed := true }
def FnExactGainOfUptoSaid : Prop := fnExactGainOfUptoRow.holds Try.pinned (OpenSpec.upto fnExactGainOfSpec)

/-- 'laws.FnExactAddFunctions', WHERE WHAT IT READS IS OF BULK AT MOST 1048576: true; the input reads as it did. -/
def fnExactAddFunctionsUptoRow : OpenClaim := { program := "ytlhajcfmlnomjaa", sum := "08de55d948109dceb9cfdb96e0081dd051a3bdc02560113d24d31d162fba2693", func := "loop.example/g03405/laws.FnExactAddFunctions", spec := "fnExactAddFunctions", unfollowed := true, recurses := true, apart := false, narrowed := true }
def FnExactAddFunctionsUptoSaid : Prop := fnExactAddFunctionsUptoRow.holds Try.pinned (OpenSpec.upto fnExactAddFunctionsSpec)

/-- 'laws.FnExactScaleFunction', WHERE WHAT IT READS IS OF BULK AT MOST 1048576: true; the input reads as it did. -/
def fnExactScaleFunctionUptoRow : OpenClaim := { program := "ytlhajcfmlnomjaa", sum := "08de55d948109dceb9cfdb96e0081dd051a3bdc02560113d24d31d162fba2693", func := "loop.example/g03405/laws.FnExactScaleFunction", spec := "fnExactScaleFunction", unfollowed := true, recurses := true, apart := false, narrowed := true }
def FnExactScaleFunctionUptoSaid : Prop := fnExactScaleFunctionUptoRow.holds Try.pinned (OpenSpec.upto fnExactScaleFunctionSpec)

/-- 'laws.FnExactLowerFunction', WHERE WHAT IT READS IS OF BULK AT MOST 1048576: true; the input reads as it did. -/
def fnExactLowerFunctionUptoRow : OpenClaim := { program := "ytlhajcfmlnomjaa", sum := "08de55d948109dceb9cfdb96e0081dd051a3bdc02560113d24d31d162fba2693", func := "loop.example/g03405/laws.FnExactLowerFunction", spec := "fnExactLowerFunction", unfollowed := true, recurses := true, apart := false, narrowed := true }
def FnExactLowerFunctionUptoSaid : Prop := fnExactLowerFunctionUptoRow.holds Try.pinned (OpenSpec.upto fnExactLowerFunctionSpec)

/-- 'laws.FnExactEqualFunctions', WHERE WHAT IT READS IS OF BULK AT MOST 1048576: true; the input reads as it did. -/
def fnExactEqualFunctionsUptoRow : OpenClaim := { program := "ytlhajcfmlnomjaa", sum := "08de55d948109dceb9cfdb96e0081dd051a3bdc02560113d24d31d162fba2693", func := "loop.example/g03405/laws.FnExactEqualFunctions", spec := "fnExactEqualFunctions", apart := false, narrowed := true }
def FnExactEqualFunctionsUptoSaid : Prop := fnExactEqualFunctionsUptoRow.holds Try.pinned (OpenSpec.upto fnExactEqualFunctionsSpec)

end Rows
end Go.Proofs.Ytlhajcfmlnomjaa
