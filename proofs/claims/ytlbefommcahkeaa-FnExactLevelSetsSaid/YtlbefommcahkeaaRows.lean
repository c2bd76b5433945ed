/-
  No cell of these rows narrows 'for every input' (looked for: loops, veiled, ifaces, maps, wideKeys, modest, calm, conditions, laid).
  DERIVED. THE GIVEN ROWS OF THIS SEAT. 4 by the template 'for every input the law returns true; each argument reads behind the call as it read before'; 0 by the template 'total and deterministic' (their statements: YtlbefommcahkeaaTotals.lean).
  GIVEN WITH THE SEED: the statements are not yours to turn. If you find one false, say at which input.
  Laid BY PROGRAM, IN A SANDBOX (cutbox-rows.mjs): the forced cells as the released guide's own fill.sh prints them over the translation 3198428cf540fa4b… (all of the seat's roots in one cut). By AI agents, Wed Nov 11 2026. No macro, syntax, notation, axiom, sorry.
-/
import Derived.Test.YtlbefommcahkeaaChecked
import GoSem.Claim
import GoSem.ClaimJoined
import GoSem.ClaimMapViews
import Derived.JoinedTies
import Derived.KernelRfl
namespace Go.Proofs.Ytlbefommcahkeaa
/- THE CELL 'sum', in the pinned program and in every row, IS THE sha256 OF THE DUMP (.gsa) THAT YtlbefommcahkeaaProg.lean LOADS. Nothing in Lean hashes anything: it is a label: what it is worth is what the hold of that sum in a sandbox is worth. -/
noncomputable def Try.pinned : Pinned := { name := "ytlbefommcahkeaa", sum := "3198428cf540fa4b9f6303db379bb83e804f1c5f7a4625ec648fd5b21b06dac7", checked := Try.checked }
namespace Rows
def none {H : Type} : Left H := { results := [], args := [] }

/-- 'laws.FnExactBestOrder': WHATEVER THE INPUT: true; the input reads as it did. -/
def fnExactBestOrderSpec : ChangeSpec := { name := "fnExactBestOrder", fn := fun _ => fun
  | [d1, d2] => { results := [.lit (.bool true)], args := [d1, d2] }
  | _ => none }
def fnExactBestOrderRow : OpenClaim := { program := "ytlbefommcahkeaa", sum := "3198428cf540fa4b9f6303db379bb83e804f1c5f7a4625ec648fd5b21b06dac7", func := "loop.example/g03405/laws.FnExactBestOrder", spec := "fnExactBestOrder", unfollowed := true, recurses := true, apart := false }
def FnExactBestOrderSaid : Prop := fnExactBestOrderRow.holds Try.pinned (OpenSpec.ofChange fnExactBestOrderSpec)

/-- ITS FALSE NEIGHBOUR: 'it returns false'. Refute it at one input. -/
def fnExactBestOrderWrong : ChangeSpec := { name := "fnExactBestOrder", fn := fun _ => fun
  | [d1, d2] => { results := [.lit (.bool false)], args := [d1, d2] }
  | _ => none }
def FnExactBestOrderWrongFalsely : Prop := fnExactBestOrderRow.holds Try.pinned (OpenSpec.ofChange fnExactBestOrderWrong)

/-- 'laws.FnExactMaximumFor': WHATEVER THE INPUT: true; the input reads as it did. -/
def fnExactMaximumForSpec : ChangeSpec := { name := "fnExactMaximumFor", fn := fun _ => fun
  | [d1, d2] => { results := [.lit (.bool true)], args := [d1, d2] }
  | _ => none }
def fnExactMaximumForRow : OpenClaim := { program := "ytlbefommcahkeaa", sum := "3198428cf540fa4b9f6303db379bb83e804f1c5f7a4625ec648fd5b21b06dac7", func := "loop.example/g03405/laws.FnExactMaximumFor", spec := "fnExactMaximumFor", unfollowed := true, recurses := true, apart := false }
def FnExactMaximumForSaid : Prop := fnExactMaximumForRow.holds Try.pinned (OpenSpec.ofChange fnExactMaximumForSpec)

/-- ITS FALSE NEIGHBOUR: 'it returns false'. Refute it at one input. -/
def fnExactMaximumForWrong : ChangeSpec := { name := "fnExactMaximumFor", fn := fun _ => fun
  | [d1, d2] => { results := [.lit (.bool false)], args := [d1, d2] }
  | _ => none }
def FnExactMaximumForWrongFalsely : Prop := fnExactMaximumForRow.holds Try.pinned (OpenSpec.ofChange fnExactMaximumForWrong)

/-- 'laws.FnExactMinimumFor': WHATEVER THE INPUT: true; the input reads as it did. -/
def fnExactMinimumForSpec : ChangeSpec := { name := "fnExactMinimumFor", fn := fun _ => fun
  | [d1, d2] => { results := [.lit (.bool true)], args := [d1, d2] }
  | _ => none }
def fnExactMinimumForRow : OpenClaim := { program := "ytlbefommcahkeaa", sum := "3198428cf540fa4b9f6303db379bb83e804f1c5f7a4625ec648fd5b21b06dac7", func := "loop.example/g03405/laws.FnExactMinimumFor", spec := "fnExactMinimumFor", unfollowed := true, recurses := true, apart := false }
def FnExactMinimumForSaid : Prop := fnExactMinimumForRow.holds Try.pinned (OpenSpec.ofChange fnExactMinimumForSpec)

/-- ITS FALSE NEIGHBOUR: 'it returns false'. Refute it at one input. -/
def fnExactMinimumForWrong : ChangeSpec := { name := "fnExactMinimumFor", fn := fun _ => fun
  | [d1, d2] => { results := [.lit (.bool false)], args := [d1, d2] }
  | _ => none }
def FnExactMinimumForWrongFalsely : Prop := fnExactMinimumForRow.holds Try.pinned (OpenSpec.ofChange fnExactMinimumForWrong)

/-- 'laws.FnExactLevelSets': WHATEVER THE INPUT: true; the input reads as it did. -/
def fnExactLevelSetsSpec : ChangeSpec := { name := "fnExactLevelSets", fn := fun _ => fun
  | [d] => { results := [.lit (.bool true)], args := [d] }
  | _ => none }
def fnExactLevelSetsRow : OpenClaim := { program := "ytlbefommcahkeaa", sum := "3198428cf540fa4b9f6303db379bb83e804f1c5f7a4625ec648fd5b21b06dac7", func := "loop.example/g03405/laws.FnExactLevelSets", spec := "fnExactLevelSets", unfollowed := true, recurses := true, apart := false }
def FnExactLevelSetsSaid : Prop := fnExactLevelSetsRow.holds Try.pinned (OpenSpec.ofChange fnExactLevelSetsSpec)

/-- ITS FALSE NEIGHBOUR: 'it returns false'. Refute it at one input. -/
def fnExactLevelSetsWrong : ChangeSpec := { name := "fnExactLevelSets", fn := fun _ => fun
  | [d] => { results := [.lit (.bool false)], args := [d] }
  | _ => none }
def FnExactLevelSetsWrongFalsely : Prop := fnExactLevelSetsRow.holds Try.pinned (OpenSpec.ofChange fnExactLevelSetsWrong)

/- THE SECOND FORM. 'bulk': how many values and letters a reading holds, each counted each time it is reached (what is shared counts as often as it is met; a slice's spare places count too). A statement '..UptoSaid' is the law's where the arguments, and the package variables that the reading takes, are together of bulk at most 1048576: NARROWER than '..Said'. Prove '..Said' where nothing that the law and all that it calls make is longer than what came in: it says more and counts as full. Else prove '..UptoSaid'. A law counts once. -/
mutual
def uptoBulk {H : Type} : DataW H → Nat
  | .lit (.string bytes) => bytes.length + 1
  | .lit _ => 1
  | .nil => 1
  | .ptr d => uptoBulk d + 1
  | .slice elems spare => uptoBulkAll elems + uptoBulkAll spare + 1
  | .agg parts => uptoBulkAll parts + 1
  | .iface _ d => uptoBulk d + 1
  | .map entries => uptoBulkEntries entries + 1
  | .held _ => 1
def uptoBulkAll {H : Type} : List (DataW H) → Nat
  | [] => 0
  | d :: r => uptoBulk d + uptoBulkAll r
def uptoBulkEntries {H : Type} : List (Lit × DataW H) → Nat
  | [] => 0
  | x :: r => uptoBulkEntry x + uptoBulkEntries r
def uptoBulkEntry {H : Type} : Lit × DataW H → Nat
  | (.string bytes, d) => bytes.length + uptoBulk d + 1
  | (_, d) => uptoBulk d + 1
 end
def uptoSmall : (H : Type) → List (DataW H) → Bool := fun _ ds => decide (uptoBulkAll ds ≤ 1048576)
def OpenSpec.upto (s : _root_.Go.ChangeSpec) : _root_.Go.OpenSpec := { _root_.Go.OpenSpec.ofChange s with cond := some uptoSmall }

/-- 'laws.FnExactBestOrder', WHERE WHAT IT READS IS OF BULK AT MOST 1048576: true; the input reads as it did. -/
def fnExactBestOrderUptoRow : OpenClaim := { program := "ytlbefommcahkeaa", sum := "3198428cf540fa4b9f6303db379bb83e804f1c5f7a4625ec648fd5b21b06dac7", func := "loop.example/g03405/laws.FnExactBestOrder", spec := "fnExactBestOrder", unfollowed := true, recurses := true, apart := false, narrowed := true }
def FnExactBestOrderUptoSaid : Prop := fnExactBestOrderUptoRow.holds Try.pinned (OpenSpec.upto fnExactBestOrderSpec)

/-- 'laws.FnExactMaximumFor', WHERE WHAT IT READS IS OF BULK AT MOST 1048576: true; the input reads as it did. -/
def fnExactMaximumForUptoRow : OpenClaim := { program := "ytlbefommcahkeaa", sum := "3198428cf540fa4b9f6303db379bb83e804f1c5f7a4625ec648fd5b21b06dac7", func := "loop.example/g03405/laws.FnExactMaximumFor", spec := "fnExactMaximumFor", unfollowed := true, recurses := true, apart := false, narrowed := true }
def FnExactMaximumForUptoSaid : Prop := fnExactMaximumForUptoRow.holds Try.pinned (OpenSpec.upto fnExactMaximumForSpec)

/-- 'laws.FnExactMinimumFor', WHERE WHAT IT READS IS OF BULK AT MOST 1048576: true; the input reads as it did. -/
def fnExactMinimumForUptoRow : OpenClaim := { program := "ytlbefommcahkeaa", sum := "3198428cf540fa4b9f6303db379bb83e804f1c5f7a4625ec648fd5b21b06dac7", func := "loop.example/g03405/laws.FnExactMinimumFor", spec := "fnExactMinimumFor", unfollowed := true, recurses := true, apart := false, narrowed := true }
def FnExactMinimumForUptoSaid : Prop := fnExactMinimumForUptoRow.holds Try.pinned (OpenSpec.upto fnExactMinimumForSpec)

/-- 'laws.FnExactLevelSets', WHERE WHAT IT READS IS OF BULK AT MOST 1048576: true; the input reads as it did. -/
def fnExactLevelSetsUptoRow : OpenClaim := { program := "ytlbefommcahkeaa", sum := "3198428cf540fa4b9f6303db379bb83e804f1c5f7a4625ec648fd5b21b06dac7", func := "loop.example/g03405/laws.FnExactLevelSets", spec := "fnExactLevelSets", unfollowed := true, recurses := true, apart := false, narrowed := true }
def FnExactLevelSetsUptoSaid : Prop := fnExactLevelSetsUptoRow.holds Try.pinned (OpenSpec.upto fnExactLevelSetsSpec)

end Rows
end Go.Proofs.Ytlbefommcahkeaa
