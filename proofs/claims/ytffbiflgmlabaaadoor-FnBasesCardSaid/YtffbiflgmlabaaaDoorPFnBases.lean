/-
  The proof of the statement 'Rows.FnBasesCardSaid': for every input, with no condition, the law returns true, and what was there before the call is as it was.
-/
import Derived.Test.YtffbiflgmlabaaaDoorRows
import Derived.WalkKit
import Derived.Test.YtffbiflgmlabaaaDoorCards
import Derived.Test.YtffbiflgmlabaaaDoorTie
import Derived.SevenTiedAt
import Derived.Lib.LaidTab
import Derived.Lib.LaidU8
import Derived.Stop.Joined
import Derived.LaidMore
import Derived.ProofKit
import Derived.OpenShut
import Derived.ShutString
import Derived.Below
import Derived.Carry
import Derived.ChangeOld
import Derived.Test.YtffbiflgmlabaaaDoorOpen
import Derived.Test.YtffbiflgmlabaaaDoorDuB
import Derived.Test.YtffbiflgmlabaaaDoorImB
import Derived.Test.YtffbiflgmlabaaaDoorImD
import Derived.Test.YtffbiflgmlabaaaDoorLtI
import Derived.Test.YtffbiflgmlabaaaDoorVal
import Derived.Test.YtffbiflgmlabaaaDoorNgI
import Derived.Test.YtffbiflgmlabaaaDoorIdI
import Derived.Test.YtffbiflgmlabaaaDoorRvI
import Derived.Test.YtffbiflgmlabaaaDoorRkI
import Derived.Test.YtffbiflgmlabaaaDoorLawBases
import Derived.Test.YtffbiflgmlabaaaDoorByIn
namespace Go.Proofs.YtffbiflgmlabaaaDoor.fnBases
open Go.ChangeShapes Go.WideShapes Go.ChangeAt Go.RowKit
open Go.ChangeMaps (open_string shut_string)
set_option linter.unusedVariables false

theorem own : ownKnob Tryd.prog.godebug = none := by kernel_rfl
theorem laidOut : laidOutB Tryd.prog = true := by kernel_rfl

/-- What the door's own run lays meets the condition. -/
theorem door_met (os : Os) (args : Array Value) : laidMetH Tryd.prog Rows.fnBasesRow.laid ((World.doorLaid Tryd.prog 400 os).forCall (fun _ _ => 0) ⟨#[], args, []⟩).memory :=
  laidMetH_of_parts3 (fuel := 8) (laidMet_of_run' 8 (by kernel_rfl) (by kernel_rfl)) (by kernel_rfl) (by kernel_rfl)

theorem brujn_of {W : World} (h : laidMetH Tryd.prog Rows.fnBasesRow.laid W) : C.Brujn W := by
  rw [MakeChecks.laidMetH_plain _ _ _ (by kernel_rfl)] at h
  obtain ⟨g', t', cs, fuel, p, hg', ht', hvar, hd⟩ := Lib.laidMet.reads (n := "math/bits.deBruijn64tab") (d := Lib.tabData .u8 (Lib.deBruijn64tab.map fun n : Nat => (n : Int))) h (.tail _ (.head _))
  obtain rfl := Option.some.inj ((show Tryd.prog.globalNamed "math/bits.deBruijn64tab" = some 1 by kernel_rfl).symm.trans hg')
  obtain rfl := Option.some.inj ((show (Tryd.prog.globals[1]?).map (·.type) = some 124 by kernel_rfl).symm.trans ht')
  unfold C.Brujn Lib.TabIs
  rw [hvar, ← Lib.cells_of_tab Tryd.underlying124 Tryd.underlying5 (by kernel_rfl) (by kernel_rfl) hd]

set_option maxRecDepth 100000 in
theorem lifted (os : Os) (started : os.Started) (H : Type) (enc : TypeId × Value → H) :
    ReturnsInHanded {} Tryd.checked os 3 .any (fun w args => (Rows.fnBasesSpec.pre enc Tryd.prog Tryd.f3 [] false w args ∧ laidMetH Tryd.prog Rows.fnBasesRow.laid w) ∧ sizedMet enc Tryd.prog Tryd.f3 (OpenSpec.ofChange Rows.fnBasesSpec) false w args) (Rows.fnBasesSpec.post enc Tryd.prog Tryd.f3 false true false false) := by
  refine returnsInHanded_of_change_and (C := Tryd.checked) (X := fun w _ => laidMetH Tryd.prog Rows.fnBasesRow.laid w) (fun _ _ _ hh h => h.of_heap hh) own started (by kernel_rfl) Tryd.func3
    (ChangeSpec.witness_shaped (enc := enc) (C := Tryd.checked) (os := os) (X := fun w _ => laidMetH Tryd.prog Rows.fnBasesRow.laid w) false (World.doorLaid Tryd.prog 400 os) #[.slice none 0 0] 8 rfl (World.shaped_of_RefB (by kernel_rfl) (by kernel_rfl)) (by kernel_rfl) (by kernel_rfl) (by kernel_rfl) (door_met os _)) ?_
  intro W base args ds gs before hval0 hW _ _ hL _
  have hval : ∀ (j : Nat) t v, Tryd.f3.params[j]? = some t → args[j]? = some v → Value.okWide Tryd.prog W .any base t v := hval0
  have hW' := hW
  obtain ⟨p, q, hA0, hV, rfl, hfz, hnd⟩ := hW
  have hA : DataW.TrodAll enc Tryd.prog W 0 (fun _ => true) true Tryd.f3.params.toList args.toList ds p := hA0
  rw [Tryd.params3] at hA hval
  obtain ⟨v0, vs0, d0, ds0, p0, q0, hargs, rfl, rfl, h0, r0⟩ := trodAll_cons hA
  obtain ⟨rfl, rfl, rfl⟩ := trodAll_nil r0
  obtain rfl : args = #[v0] := by cases args; simp_all
  obtain ⟨rfl, rfl⟩ := trodVars_none hV
  have k0 := h0
  have lt0 : ∀ x ∈ p0, x.block < W.heap.size := by obtain ⟨m, hm⟩ := k0; exact DataW.trod_lt m _ _ _ hm
  obtain ⟨A0, len0, cap0, rfl, l0, i0⟩ := C.bytes_in (hval 0 22 v0 rfl rfl) h0
  clear hA0 hval0
  have hbr := brujn_of hL
  refine (C.law_bases C.Brujn (fun _ _ h hb => C.brujn_on h hb) A0 len0 cap0 W l0 (Lib.hid i0) (Lib.hid hbr) (Lib.hid fun W n A xs c D ws d hT h g ml => C.tightI_any n A xs c D ws d W h g ml (Lib.hid hT)) (Lib.hid fun W n A xs c D ws d hT h g ml => C.belowI_any n A xs c D ws d W h g ml (Lib.hid hT)) (Lib.hid fun W n A xs c D ws d hT h g ml => C.baseI_any n A xs c D ws d W h g ml (Lib.hid hT)) (Lib.hid fun W A xs c _ h _ => C.latI_any A xs c W h) (Lib.hid fun W n A xs c D ws d e hT h g ml => C.capI_any n A xs c D ws d W h g ml (Lib.hid hT) e) (Lib.hid fun W n A xs c D ws d e f hT h g ml => C.exchI_any n A xs c D ws d W h g ml (Lib.hid hT) e f) (Lib.hid fun W n A xs c D ws d _ h g _ => C.cornerI_any n A xs c D ws d W h g) (Lib.hid fun W n A xs c D ws d E ms e hT h g ml k m2 => C.raiseI_any n A xs c D ws d E ms e W h g k ml m2 (Lib.hid hT)) (Lib.hid fun W n A xs c D ws d hT h g ml => C.isDualI_any n A xs c D ws d W h g ml (Lib.hid hT)) (Lib.hid fun W n A xs c D ws d hT h g ml => C.rankVI_any n A xs c D ws d W h g ml (Lib.hid hT)) (Lib.hid fun W A xs c _ h _ => C.negPI_any A xs c W h) (Lib.hid fun W n A xs c s _ h => C.valI_any n A xs c s W h)).mono fun e W' ⟨he, bel⟩ => ?_
  subst he
  exact ⟨_, rfl, _, _, _, [], _, [], hW', trodAll_mk1 (shut_bool Tryd.underlying4 _), (trodAll_cons_mk (Below.trod laidOut (by kernel_rfl) (of_decide_eq_true (by kernel_rfl)) k0 bel lt0) trodAll_mk0), rfl, bel.frame _, fun h => by cases h⟩

theorem over : Rows.fnBasesRow.holds Tryd.pinned (OpenSpec.ofChange Rows.fnBasesSpec) :=
  OpenClaim.holds_of_wide 3 Tryd.f3 rfl rfl rfl rfl rfl rfl rfl ⟨rfl, rfl, rfl, rfl, rfl⟩ rfl rfl rfl rfl rfl (by kernel_rfl) Tryd.func3 (by kernel_rfl)
    (of_decide_eq_true (by kernel_rfl)) (by unfold Func.isWrapper; first | (rw [if_pos (by decide +kernel)]; kernel_rfl) | (rw [if_neg (by decide +kernel)]; exact ⟨rfl, rfl⟩))
    (fun os started H enc _ => lifted os started H enc)

/-- The tied card: the row, its listed variables tied to the program's text (the ties are given). -/
theorem proved : Rows.FnBasesCardSaid :=
  Claim7.holds_tied_plain_at .later [] [.data, .data] true (true, "b349f571ca0b127a0088e826b80d667142245a9e5ffc705dedfc2c2159d98b88") false
    over (fun _ h => by cases h) (by kernel_rfl) (fun _ h => by cases h) fnBases_row_tie rfl ⟨rfl, rfl⟩ (by kernel_rfl) rfl
    (fun f fn hf hfn => by
      obtain rfl : f = 3 := Option.some.inj ((show Tryd.prog.funcNamed "loop.example/g03405/laws.FnBases" = some 3 by kernel_rfl).symm.trans hf) |>.symm
      obtain rfl : fn = Tryd.f3 := (Option.some.inj (Tryd.func3.symm.trans hfn)).symm
      exact ⟨by kernel_rfl, fun j t ht => by
        rw [Tryd.params3] at ht
        have hm : t ∈ [22] := by simpa using Array.mem_of_getElem? ht
        have hall : ([22].all fun u => !Tryd.prog.wantsStandIn u) = true := by kernel_rfl
        exact (show Tryd.prog.wantsStandIn t = false by simpa using List.all_eq_true.1 hall t hm)⟩)
    (by kernel_rfl)
#print axioms proved
end Go.Proofs.YtffbiflgmlabaaaDoor.fnBases
