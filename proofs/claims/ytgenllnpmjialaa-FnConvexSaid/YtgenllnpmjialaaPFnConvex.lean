/-
  The proof of the statement 'Rows.FnConvexSaid': for every input, with no condition, the law returns true, and what was there before the call is as it was.
-/
import Derived.Test.YtgenllnpmjialaaRows
import Derived.WalkKit
import Derived.ProofKit
import Derived.OpenShut
import Derived.ShutString
import Derived.Below
import Derived.Carry
import Derived.ChangeOld
import Derived.Test.YtgenllnpmjialaaOpen
import Derived.Test.YtgenllnpmjialaaLawConvex
import Derived.Test.YtgenllnpmjialaaCmJ
import Derived.Test.YtgenllnpmjialaaExtI
import Derived.Test.YtgenllnpmjialaaCvxI
import Derived.Test.YtgenllnpmjialaaByIn
namespace Go.Proofs.Ytgenllnpmjialaa.fnConvex
open Go.ChangeShapes Go.WideShapes Go.ChangeAt Go.RowKit
open Go.ChangeMaps (open_string shut_string)
set_option linter.unusedVariables false

theorem own : ownKnob Try.prog.godebug = none := by kernel_rfl
theorem laidOut : laidOutB Try.prog = true := by kernel_rfl

set_option maxRecDepth 100000 in
theorem lifted (os : Os) (started : os.Started) (H : Type) (enc : TypeId × Value → H) :
    ReturnsInHanded {} Try.checked os 3 .any (Rows.fnConvexSpec.pre6 enc Try.prog Try.f3 Rows.fnConvexRow.domain false) (Rows.fnConvexSpec.post enc Try.prog Try.f3 false true false false) := by
  refine returnsInHanded_of_change (C := Try.checked) own started (by kernel_rfl) Try.func3
    (ChangeSpec.witness6 (enc := enc) (C := Try.checked) false ⟨#[], #[.slice none 0 0], []⟩ 8 (by kernel_rfl) (by kernel_rfl) (by kernel_rfl) (by kernel_rfl)) ?_
  intro W base args ds gs before hval0 hW hcnd _
  have hval : ∀ (j : Nat) t v, Try.f3.params[j]? = some t → args[j]? = some v → Value.okWide Try.prog W .any base t v := hval0
  have hW' := hW
  obtain ⟨p, q, hA0, hV, rfl, hfz, hnd⟩ := hW
  have hA : DataW.TrodAll enc Try.prog W 0 (fun _ => true) true Try.f3.params.toList args.toList ds p := hA0
  rw [Try.params3] at hA hval
  obtain ⟨v0, vs0, d0, ds0, p0, q0, hargs, rfl, rfl, h0, r0⟩ := trodAll_cons hA
  obtain ⟨rfl, rfl, rfl⟩ := trodAll_nil r0
  obtain rfl : args = #[v0] := by cases args; simp_all
  obtain ⟨rfl, rfl⟩ := trodVars_none hV
  have k0 := h0
  have lt0 : ∀ x ∈ p0, x.block < W.heap.size := by obtain ⟨m, hm⟩ := k0; exact DataW.trod_lt m _ _ _ hm
  obtain ⟨A0, len0, cap0, rfl, l0, i0⟩ := C.bytes_in (hval 0 22 v0 rfl rfl) h0
  clear hA0 hval0
  refine ((C.law_convex (fun _ => True) (fun _ _ _ _ => trivial) A0 len0 cap0 W l0 (Lib.hid i0) (Lib.hid trivial) (Lib.hid fun W A xs c D ys d _ h g hx hy => C.leastI_any A xs c D ys d W h g hx hy) (Lib.hid fun W A xs c D ys d _ h g hx hy => C.greatI_any A xs c D ys d W h g hx hy) (Lib.hid fun W n A xs c D ws d _ h g hl => C.extI_any n A xs c D ws d W h g hl) (Lib.hid fun W n F fs f A xs c D ys d _ h0 h g hx hy => C.convatI_any n F fs f A xs c D ys d W h0 h g hx hy))).mono fun e W' ⟨he, bel⟩ => ?_
  subst he
  exact ⟨_, rfl, _, _, _, [], _, [], hW', trodAll_mk1 (shut_bool Try.underlying4 _), (trodAll_cons_mk (Below.trod laidOut (by kernel_rfl) (of_decide_eq_true (by kernel_rfl)) k0 bel lt0) trodAll_mk0), rfl, bel.frame _, fun h => by cases h⟩

theorem over : Rows.fnConvexRow.holds Try.pinned (OpenSpec.ofChange Rows.fnConvexSpec) :=
  OpenClaim.holds_of_wide 3 Try.f3 rfl rfl rfl rfl rfl rfl rfl ⟨rfl, rfl, rfl, rfl, rfl⟩ rfl rfl rfl rfl rfl (by kernel_rfl) Try.func3 (by kernel_rfl)
    (of_decide_eq_true (by kernel_rfl)) (by unfold Func.isWrapper; first | (rw [if_pos (by decide +kernel)]; kernel_rfl) | (rw [if_neg (by decide +kernel)]; exact ⟨rfl, rfl⟩))
    (fun os started H enc _ => lifted os started H enc)

/-- THE STATEMENT -/
theorem proved : Rows.FnConvexSaid :=
  over
#print axioms proved
end Go.Proofs.Ytgenllnpmjialaa.fnConvex
