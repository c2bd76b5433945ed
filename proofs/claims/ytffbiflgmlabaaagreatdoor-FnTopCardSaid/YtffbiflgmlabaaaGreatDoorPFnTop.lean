/-
  The proof of the statement 'Rows.FnTopCardSaid': for every input, with no condition, the law returns true, and what was there before the call is as it was.
-/
import Derived.Test.YtffbiflgmlabaaaGreatDoorRows
import Derived.WalkKit
import Derived.Test.YtffbiflgmlabaaaGreatDoorCards
import Derived.Test.YtffbiflgmlabaaaGreatDoorTie
import Derived.SevenTiedAt
import Derived.Lib.LaidTab
import Derived.Lib.LaidU8
import Derived.Stop.Joined
import Derived.LaidMore
import Derived.ProofKit
import Derived.OpenShut
import Derived.ShutString
import Derived.Below
import Derived.Carry
import Derived.ChangeOld
import Derived.Test.YtffbiflgmlabaaaGreatDoorOpen
import Derived.Test.YtffbiflgmlabaaaGreatDoorDuB
import Derived.Test.YtffbiflgmlabaaaGreatDoorImB
import Derived.Test.YtffbiflgmlabaaaGreatDoorImD
import Derived.Test.YtffbiflgmlabaaaGreatDoorLtI
import Derived.Test.YtffbiflgmlabaaaGreatDoorLsI
import Derived.Test.YtffbiflgmlabaaaGreatDoorLgI
import Derived.Test.YtffbiflgmlabaaaGreatDoorMsI
import Derived.Test.YtffbiflgmlabaaaGreatDoorNgI
import Derived.Test.YtffbiflgmlabaaaGreatDoorIdI
import Derived.Test.YtffbiflgmlabaaaGreatDoorDvI
import Derived.Test.YtffbiflgmlabaaaGreatDoorLawTop
import Derived.Test.YtffbiflgmlabaaaGreatDoorByIn
namespace Go.Proofs.YtffbiflgmlabaaaGreatDoor.fnTop
open Go.ChangeShapes Go.WideShapes Go.ChangeAt Go.RowKit
open Go.ChangeMaps (open_string shut_string)
set_option linter.unusedVariables false

theorem own : ownKnob Tryz.prog.godebug = none := by kernel_rfl
theorem laidOut : laidOutB Tryz.prog = true := by kernel_rfl

/-- What the door's own run lays meets the condition. -/
theorem door_met (os : Os) (args : Array Value) : laidMetH Tryz.prog Rows.fnTopRow.laid ((World.doorLaid Tryz.prog 400 os).forCall (fun _ _ => 0) ⟨#[], args, []⟩).memory :=
  laidMetH_of_parts3 (fuel := 8) (laidMet_of_run' 8 (by kernel_rfl) (by kernel_rfl)) (by kernel_rfl) (by kernel_rfl)

theorem brujn_of {W : World} (h : laidMetH Tryz.prog Rows.fnTopRow.laid W) : C.Brujn W := by
  rw [MakeChecks.laidMetH_plain _ _ _ (by kernel_rfl)] at h
  obtain ⟨g', t', cs, fuel, p, hg', ht', hvar, hd⟩ := Lib.laidMet.reads (n := "math/bits.deBruijn64tab") (d := Lib.tabData .u8 (Lib.deBruijn64tab.map fun n : Nat => (n : Int))) h (.tail _ (.head _))
  obtain rfl := Option.some.inj ((show Tryz.prog.globalNamed "math/bits.deBruijn64tab" = some 1 by kernel_rfl).symm.trans hg')
  obtain rfl := Option.some.inj ((show (Tryz.prog.globals[1]?).map (·.type) = some 126 by kernel_rfl).symm.trans ht')
  unfold C.Brujn Lib.TabIs
  rw [hvar, ← Lib.cells_of_tab Tryz.underlying126 Tryz.underlying5 (by kernel_rfl) (by kernel_rfl) hd]

set_option maxRecDepth 100000 in
theorem lifted (os : Os) (started : os.Started) (H : Type) (enc : TypeId × Value → H) :
    ReturnsInHanded {} Tryz.checked os 3 .any (fun w args => (Rows.fnTopSpec.pre enc Tryz.prog Tryz.f3 [] false w args ∧ laidMetH Tryz.prog Rows.fnTopRow.laid w) ∧ sizedMet enc Tryz.prog Tryz.f3 (OpenSpec.ofChange Rows.fnTopSpec) false w args) (Rows.fnTopSpec.post enc Tryz.prog Tryz.f3 false true false false) := by
  refine returnsInHanded_of_change_and (C := Tryz.checked) (X := fun w _ => laidMetH Tryz.prog Rows.fnTopRow.laid w) (fun _ _ _ hh h => h.of_heap hh) own started (by kernel_rfl) Tryz.func3
    (ChangeSpec.witness_shaped (enc := enc) (C := Tryz.checked) (os := os) (X := fun w _ => laidMetH Tryz.prog Rows.fnTopRow.laid w) false (World.doorLaid Tryz.prog 400 os) #[.slice none 0 0] 8 rfl (World.shaped_of_RefB (by kernel_rfl) (by kernel_rfl)) (by kernel_rfl) (by kernel_rfl) (by kernel_rfl) (door_met os _)) ?_
  intro W base args ds gs before hval0 hW _ _ hL _
  have hval : ∀ (j : Nat) t v, Tryz.f3.params[j]? = some t → args[j]? = some v → Value.okWide Tryz.prog W .any base t v := hval0
  have hW' := hW
  obtain ⟨p, q, hA0, hV, rfl, hfz, hnd⟩ := hW
  have hA : DataW.TrodAll enc Tryz.prog W 0 (fun _ => true) true Tryz.f3.params.toList args.toList ds p := hA0
  rw [Tryz.params3] at hA hval
  obtain ⟨v0, vs0, d0, ds0, p0, q0, hargs, rfl, rfl, h0, r0⟩ := trodAll_cons hA
  obtain ⟨rfl, rfl, rfl⟩ := trodAll_nil r0
  obtain rfl : args = #[v0] := by cases args; simp_all
  obtain ⟨rfl, rfl⟩ := trodVars_none hV
  have k0 := h0
  have lt0 : ∀ x ∈ p0, x.block < W.heap.size := by obtain ⟨m, hm⟩ := k0; exact DataW.trod_lt m _ _ _ hm
  obtain ⟨A0, len0, cap0, rfl, l0, i0⟩ := C.bytes_in (hval 0 22 v0 rfl rfl) h0
  clear hA0 hval0
  have hbr := brujn_of hL
  refine (C.law_top C.Brujn (fun _ _ h hb => C.brujn_on h hb) A0 len0 cap0 W l0 (Lib.hid i0) (Lib.hid hbr) (Lib.hid fun W n A xs c _ h => C.violI_any n A xs c W h) (Lib.hid fun W n A xs c _ h => C.subI_any n A xs c W h) (Lib.hid fun W n A xs c E y e hT h g ml => C.baseI_any n A xs c E y e W h g ml (Lib.hid hT)) (Lib.hid fun W n A xs c hT h => C.dualVI_any n A xs c W h (Lib.hid hT)) (Lib.hid fun W n A xs c _ h => C.cornersI_any n A xs c W h) (Lib.hid fun W n A xs c _ h => C.minOfI_any n A xs c W h) (Lib.hid fun W E y e _ h _ => C.negPI_any E y e W h) (Lib.hid fun W n A xs c _ h => C.minsI_any n A xs c W h) (Lib.hid fun W n A xs c _ h => C.lminI_any n A xs c W h) (Lib.hid fun W n A xs c _ h => C.gminI_any n A xs c W h) (Lib.hid fun W n A xs c E y e hT h g ml => C.isDualI_any n A xs c E y e W h g ml (Lib.hid hT)) (Lib.hid fun W A xs c _ h _ => C.latI_any A xs c W h)).mono fun e W' ⟨he, bel⟩ => ?_
  subst he
  exact ⟨_, rfl, _, _, _, [], _, [], hW', trodAll_mk1 (shut_bool Tryz.underlying4 _), (trodAll_cons_mk (Below.trod laidOut (by kernel_rfl) (of_decide_eq_true (by kernel_rfl)) k0 bel lt0) trodAll_mk0), rfl, bel.frame _, fun h => by cases h⟩

theorem over : Rows.fnTopRow.holds Tryz.pinned (OpenSpec.ofChange Rows.fnTopSpec) :=
  OpenClaim.holds_of_wide 3 Tryz.f3 rfl rfl rfl rfl rfl rfl rfl ⟨rfl, rfl, rfl, rfl, rfl⟩ rfl rfl rfl rfl rfl (by kernel_rfl) Tryz.func3 (by kernel_rfl)
    (of_decide_eq_true (by kernel_rfl)) (by unfold Func.isWrapper; first | (rw [if_pos (by decide +kernel)]; kernel_rfl) | (rw [if_neg (by decide +kernel)]; exact ⟨rfl, rfl⟩))
    (fun os started H enc _ => lifted os started H enc)

/-- The tied card: the row, its listed variables tied to the program's text (the ties are given). -/
theorem proved : Rows.FnTopCardSaid :=
  Claim7.holds_tied_plain_at .later [] [.data, .data] true (true, "4753e2cca570bba60edd43ba1d1a93c377b2f5595031e8962be2ffabbb1c4595") false
    over (fun _ h => by cases h) (by kernel_rfl) (fun _ h => by cases h) fnTop_row_tie rfl ⟨rfl, rfl⟩ (by kernel_rfl) rfl
    (fun f fn hf hfn => by
      obtain rfl : f = 3 := Option.some.inj ((show Tryz.prog.funcNamed "loop.example/g03405/laws.FnTop" = some 3 by kernel_rfl).symm.trans hf) |>.symm
      obtain rfl : fn = Tryz.f3 := (Option.some.inj (Tryz.func3.symm.trans hfn)).symm
      exact ⟨by kernel_rfl, fun j t ht => by
        rw [Tryz.params3] at ht
        have hm : t ∈ [22] := by simpa using Array.mem_of_getElem? ht
        have hall : ([22].all fun u => !Tryz.prog.wantsStandIn u) = true := by kernel_rfl
        exact (show Tryz.prog.wantsStandIn t = false by simpa using List.all_eq_true.1 hall t hm)⟩)
    (by kernel_rfl)
#print axioms proved
end Go.Proofs.YtffbiflgmlabaaaGreatDoor.fnTop
