/-
  The proof of the statement 'Rows.FnFunctionsCardSaid': for every input, with no condition, the law returns true, and what was there before the call is as it was.
-/
import Derived.Test.YtielfnjkfceliaaGreatDoorRows
import Derived.WalkKit
import Derived.Test.YtielfnjkfceliaaGreatDoorCards
import Derived.Test.YtielfnjkfceliaaGreatDoorTie
import Derived.SevenTiedAt
import Derived.Lib.LaidTab
import Derived.Lib.LaidU8
import Derived.Stop.Joined
import Derived.LaidMore
import Derived.Lay
import Derived.Shelf.Vars
import Derived.HandedShaped
import Derived.ProofKit
import Derived.OpenShut
import Derived.ShutString
import Derived.Below
import Derived.Carry
import Derived.ChangeOld
import Derived.Test.YtielfnjkfceliaaGreatDoorOpen
import Derived.Test.YtielfnjkfceliaaGreatDoorLawFnAny
import Derived.Test.YtielfnjkfceliaaGreatDoorByIn
namespace Go.Proofs.YtielfnjkfceliaaGreatDoor.fnFunctions
open Go.ChangeShapes Go.WideShapes Go.ChangeAt Go.RowKit
open Go.ChangeMaps (open_string shut_string)
set_option linter.unusedVariables false

theorem own : ownKnob Tryz.prog.godebug = none := by kernel_rfl
theorem laidOut : laidOutB Tryz.prog = true := by kernel_rfl

/-- What is laid by the function meets the condition. -/
theorem door_met (os : Os) (args : Array Value) : laidMetH Tryz.prog Rows.fnFunctionsRow.laid ((World.laidAll Tryz.prog os Rows.fnFunctionsRow.laid).forCall (fun _ _ => 0) ⟨#[], args, []⟩).memory := by
  rw [MakeChecks.laidMetH_plain _ _ _ (by kernel_rfl)]
  exact laidMet_laidAll _ (by kernel_rfl) (by kernel_rfl)

theorem tab_of {W : World} (h : laidMetH Tryz.prog Rows.fnFunctionsRow.laid W) : C.Tab W := by
  rw [MakeChecks.laidMetH_plain _ _ _ (by kernel_rfl)] at h
  obtain ⟨g', t', cs, fuel, p, hg', ht', hvar, hd⟩ := Lib.laidMet.reads (n := "internal/strconv.uint64pow10") (d := Lib.tabData .u64 Lib.pow10Tab) h (.tail _ (.tail _ (.head _)))
  obtain rfl := Option.some.inj ((show Tryz.prog.globalNamed "internal/strconv.uint64pow10" = some 3 by kernel_rfl).symm.trans hg')
  obtain rfl := Option.some.inj ((show (Tryz.prog.globals[3]?).map (·.type) = some 117 by kernel_rfl).symm.trans ht')
  unfold C.Tab Lib.TabIs
  rw [hvar, ← Lib.cells_of_tab Tryz.underlying117 Tryz.underlying90 (by kernel_rfl) (by kernel_rfl) hd]

theorem brujn_of {W : World} (h : laidMetH Tryz.prog Rows.fnFunctionsRow.laid W) : C.Brujn W := by
  rw [MakeChecks.laidMetH_plain _ _ _ (by kernel_rfl)] at h
  obtain ⟨g', t', cs, fuel, p, hg', ht', hvar, hd⟩ := Lib.laidMet.reads (n := "math/bits.deBruijn64tab") (d := Lib.tabData .u8 (Lib.deBruijn64tab.map fun n : Nat => (n : Int))) h (.tail _ (.head _))
  obtain rfl := Option.some.inj ((show Tryz.prog.globalNamed "math/bits.deBruijn64tab" = some 1 by kernel_rfl).symm.trans hg')
  obtain rfl := Option.some.inj ((show (Tryz.prog.globals[1]?).map (·.type) = some 111 by kernel_rfl).symm.trans ht')
  unfold C.Brujn Lib.TabIs
  rw [hvar, ← Lib.cells_of_tab Tryz.underlying111 Tryz.underlying5 (by kernel_rfl) (by kernel_rfl) hd]

set_option maxRecDepth 100000 in
theorem lifted (os : Os) (started : os.Started) (H : Type) (enc : TypeId × Value → H) :
    ReturnsInHanded {} Tryz.checked os 3 .any (fun w args => (Rows.fnFunctionsSpec.pre enc Tryz.prog Tryz.f3 [] false w args ∧ laidMetH Tryz.prog Rows.fnFunctionsRow.laid w) ∧ sizedMet enc Tryz.prog Tryz.f3 (OpenSpec.ofChange Rows.fnFunctionsSpec) false w args) (Rows.fnFunctionsSpec.post enc Tryz.prog Tryz.f3 false true false false) := by
  refine returnsInHanded_of_calls (C := Tryz.checked) own started (by kernel_rfl)
    (ChangeSpec.witness_shaped (enc := enc) (C := Tryz.checked) (os := os) (X := fun w _ => laidMetH Tryz.prog Rows.fnFunctionsRow.laid w) false (World.laidAll Tryz.prog os Rows.fnFunctionsRow.laid) #[.slice none 0 0] 8 (World.laidAll_os _ _ _) (World.shaped_of_ZipB (by kernel_rfl) (by kernel_rfl)) (by kernel_rfl) (by kernel_rfl) (by kernel_rfl) (door_met os _)) ?_
  intro start tape inp _ hshape _ hok hpre _
  obtain ⟨_, _, _, fn', hfn', _, _, _, _, hval1⟩ := hok
  obtain rfl : fn' = Tryz.f3 := Option.some.inj (hfn'.symm.trans Tryz.func3)
  obtain ⟨⟨⟨ds, gs, before, hread, -⟩, hlaid⟩, -⟩ := hpre
  have hW := DataW.Whole.of_heap (w' := start.forCall tape inp) (by rfl) hread
  have hL : laidMetH Tryz.prog Rows.fnFunctionsRow.laid (start.forCall tape inp) := hlaid.of_heap (by rfl)
  suffices key : Calls Tryz.prog 3 inp.args (start.forCall tape inp) fun e W' => ∃ v, e = .returned v ∧ Rows.fnFunctionsSpec.post enc Tryz.prog Tryz.f3 false true false false (start.forCall tape inp) inp.args v W' from
    key.mono fun e W' hh => by
      obtain ⟨v, rfl, hp⟩ := hh
      exact ChangeSpec.post_blind hp
  generalize start.forCall tape inp = W at hval1 hW hL hshape ⊢
  generalize inp.args = args at hval1 hW ⊢
  generalize start.heap.size = base at hval1
  have hval0 := hval1
  have hval : ∀ (j : Nat) t v, Tryz.f3.params[j]? = some t → args[j]? = some v → Value.okWide Tryz.prog W .any base t v := hval0
  have hW' := hW
  obtain ⟨p, q, hA0, hV, rfl, hfz, hnd⟩ := hW
  have hA : DataW.TrodAll enc Tryz.prog W 0 (fun _ => true) true Tryz.f3.params.toList args.toList ds p := hA0
  rw [Tryz.params3] at hA hval
  obtain ⟨v0, vs0, d0, ds0, p0, q0, hargs, rfl, rfl, h0, r0⟩ := trodAll_cons hA
  obtain ⟨rfl, rfl, rfl⟩ := trodAll_nil r0
  obtain rfl : args = #[v0] := by cases args; simp_all
  obtain ⟨rfl, rfl⟩ := trodVars_none hV
  have k0 := h0
  have lt0 : ∀ x ∈ p0, x.block < W.heap.size := by obtain ⟨m, hm⟩ := k0; exact DataW.trod_lt m _ _ _ hm
  obtain ⟨A0, len0, cap0, rfl, l0, i0⟩ := C.bytes_in (hval 0 22 v0 rfl rfl) h0
  clear hA0 hval0
  have ht := tab_of hL
  have hbr := brujn_of hL
  have hml : C.MaxLenAt W := Go.Proofs.cell_of_shapedOpen_int (zero := #[.int .i64 0]) (t := 3) hshape (of_decide_eq_true (by kernel_rfl)) (by kernel_rfl) rfl (by kernel_rfl) (by kernel_rfl) Tryz.underlying3
  refine (C.law_fns_any A0 len0 cap0 W l0 (Lib.hid i0) (Lib.hid ht) (Lib.hid hbr) (Lib.hid hml)).mono fun e W' ⟨he, bel⟩ => ?_
  subst he
  exact ⟨_, rfl, _, _, _, [], _, [], hW', trodAll_mk1 (shut_bool Tryz.underlying4 _), (trodAll_cons_mk (Below.trod laidOut (by kernel_rfl) (of_decide_eq_true (by kernel_rfl)) k0 bel lt0) trodAll_mk0), rfl, bel.frame _, fun h => by cases h⟩

theorem over : Rows.fnFunctionsRow.holds Tryz.pinned (OpenSpec.ofChange Rows.fnFunctionsSpec) :=
  OpenClaim.holds_of_wide 3 Tryz.f3 rfl rfl rfl rfl rfl rfl rfl ⟨rfl, rfl, rfl, rfl, rfl⟩ rfl rfl rfl rfl rfl (by kernel_rfl) Tryz.func3 (by kernel_rfl)
    (of_decide_eq_true (by kernel_rfl)) (by unfold Func.isWrapper; first | (rw [if_pos (by decide +kernel)]; kernel_rfl) | (rw [if_neg (by decide +kernel)]; exact ⟨rfl, rfl⟩))
    (fun os started H enc _ => lifted os started H enc)

/-- The tied card: the row, its listed variables tied to the program's text (the ties are given). -/
theorem proved : Rows.FnFunctionsCardSaid :=
  Claim7.holds_tied_plain_at .later [] [.data, .data, .data, .data, .pinned] true (true, "1d697852d30d85b50946809398e3f897a04424029f01d75b08947c768b7244c0") false
    over (fun _ h => by cases h) (by kernel_rfl) (fun _ h => by cases h) fnFunctions_row_tie rfl ⟨rfl, rfl⟩ (by kernel_rfl) rfl
    (fun f fn hf hfn => by
      obtain rfl : f = 3 := Option.some.inj ((show Tryz.prog.funcNamed "loop.example/g03405/laws.FnFunctions" = some 3 by kernel_rfl).symm.trans hf) |>.symm
      obtain rfl : fn = Tryz.f3 := (Option.some.inj (Tryz.func3.symm.trans hfn)).symm
      exact ⟨by kernel_rfl, fun j t ht => by
        rw [Tryz.params3] at ht
        have hm : t ∈ [22] := by simpa using Array.mem_of_getElem? ht
        have hall : ([22].all fun u => !Tryz.prog.wantsStandIn u) = true := by kernel_rfl
        exact (show Tryz.prog.wantsStandIn t = false by simpa using List.all_eq_true.1 hall t hm)⟩)
    (by kernel_rfl)
#print axioms proved
end Go.Proofs.YtielfnjkfceliaaGreatDoor.fnFunctions
