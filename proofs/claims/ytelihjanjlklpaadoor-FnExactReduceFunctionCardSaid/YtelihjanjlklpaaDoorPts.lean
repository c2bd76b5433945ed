/-
  The parts of a set, one after another: the iterator, and slices.AppendSeq and slices.Collect over it.
-/
import Derived.Test.YtelihjanjlklpaaDoorPtM
import Derived.Test.YtelihjanjlklpaaDoorInts
import Derived.Test.YtelihjanjlklpaaDoorFunH
import Derived.Lib.Hide
import Derived.RangeFuncBox
import Derived.RangeFuncLeaves
import Derived.Shelf.Abstract
import Derived.WalkKit
import Derived.OwnWalkIn
import Derived.TacticsInMore
import Derived.LoopNIn
import Derived.LoopIn
import Derived.Maps.AppendAt
import Derived.IntWalk
namespace Go.Proofs.YtelihjanjlklpaaDoor.C
open Go.RowKit Go.Shelf K M
set_option linter.unusedVariables false
set_option linter.unusedSimpArgs false
attribute [local go_sem] Oper.semAt_some

set_option maxRecDepth 100000 in
set_option maxHeartbeats 1000000 in
/-- The iterator over the parts of S, for every loop body that keeps what lay below n₀. -/
theorem parts1_in (F : Fence) (n : Nat) (hF : F.fn 87) (hro : F.round = none) (hn : 1 ≤ n) (l sb n₀ S : Nat) (hS : S < 32) (hsb : sb < n₀) (J Jx : List Int → World → Prop)
    (hY : ∀ pre x W, J pre W → pre.length < 2 ^ ones S → YieldAt F (n - 1) Tryd.prog l #[.int .i64 x] W fun e W' =>
      (e = .returned (.bool true) ∧ J (pre ++ [x]) W' ∧ Below n₀ W W') ∨ (e = .returned (.bool false) ∧ Jx (pre ++ [x]) W'))
    (W : World) (hc : W.cell? ⟨sb, 0, none⟩ = some (.int .i64 S)) (h0 : J [] W) :
    CallsIn F n Tryd.prog 87 #[.func (.yield l) #[] #[], .pointer (some ⟨sb, 0, none⟩)] W fun e W' => (∃ v, e = .returned v) ∧
      ((∃ ys, ys = parts S ∧ J ys W') ∨ (∃ pre, pre <+: parts S ∧ Jx pre W')) := by
  have hp32 := ones_pow hS
  have hp0 : 0 < 2 ^ ones S := Nat.two_pow_pos _
  obtain ⟨m, hm⟩ : ∃ m, 2 ^ ones S = m := ⟨_, rfl⟩
  have HLE := Lib.hid (fun i (hi : i < 32) => part_le S hS i hi)
  have HUP := Lib.hid (fun i (hi : i + 1 < m) => part_up S hS i (by omega) (by rw [hm]; exact hi))
  have HNX := Lib.hid (fun i (hi : i + 1 < m) => part_next S hS i (by omega) (by rw [hm]; exact hi))
  have HNE := Lib.hid (fun i (hi : i + 1 < m) => part_ne hS (by rw [hm]; exact hi))
  have HEN := Lib.hid (fun i (hi : i + 1 = m) => part_end hS (by rw [hm]; exact hi))
  have HP := Lib.hid (show parts S = tab m fun i => ((partN S i : Nat) : Int) by unfold parts; rw [hm])
  have hz := part_zero S
  rw [hm] at hY hp32 hp0
  generalize parts S = ps at HP ⊢
  generalize partN S = f at *
  clear hm
  refine callsIn_of_wp Tryd.func87 rfl hF ?_ hro
  simp only [Tryd.ntmps87, List.size_toArray, List.length_cons, List.length_nil, Nat.reduceAdd, Nat.reduceSub, Array.replicate_succ, Array.replicate_zero, List.push_toArray, List.append_toArray, List.nil_append, List.cons_append]
  gi_wp2
  gi_loopw [3] (fun p wr => ∃ (i : Nat), p = .int .i64 (f i : Nat) ∧ i < m ∧ wr.cell? ⟨sb, 0, none⟩ = some (.int .i64 S) ∧ J (tab i fun i => ((f i : Nat) : Int)) wr) (fun p _ => S - (intOf p).toNat)
  case atStart => exact ⟨0, by rw [hz]; rfl, hp0, hc, h0⟩
  case round =>
    obtain ⟨i, rfl, hi, hcw, hJ⟩ := hrel
    have hts := tab_succ i fun i => ((f i : Nat) : Int)
    obtain ⟨fn, tmps, assign, body, hy, hR⟩ := hY _ (f i : Nat) wr hJ (by rw [tab_length]; exact hi)
    rw [← hts] at hR
    by_cases hlast : i + 1 = m
    · have he := Lib.hid (HEN.out i hlast)
      gi_wp2
      refine hR.mono ?_
      rintro e W3 (⟨rfl, hJ3, hk3⟩ | ⟨rfl, hJx3⟩)
      · have hc3 : W3.cell? ⟨sb, 0, none⟩ = some (.int .i64 S) := (hk3.cell (p := ⟨sb, 0, none⟩) hsb).trans hcw
        have hes : ((f i : Int) == (S : Int)) = true := by rw [he.out]; exact beq_self_eq_true _
        gi_wp2
        go_end0
        exact ⟨⟨_, rfl⟩, .inl ⟨_, by rw [HP.out, ← hlast], hJ3⟩⟩
      · gi_wp2
        go_end0
        exact ⟨⟨_, rfl⟩, .inr ⟨_, by rw [HP.out, ← hlast]; exact List.prefix_rfl, hJx3⟩⟩
    · have hlt : i + 1 < m := by omega
      have hne := HNE.out i hlt
      have hnx : bits .and .i64 (wrap64 (bits .or .i64 (f i : Int) (bits .xor .i64 (if IntKind.i64.signed = true then -1 else 9223372036854775807) (S : Int)) + 1)) (S : Int) = ((f (i + 1) : Nat) : Int) := by
        have h := HNX.out i hlt
        rw [IntWalk.i64_left] at h
        rw [if_pos (show IntKind.i64.signed = true from rfl)]
        exact h
      have hup := HUP.out i hlt
      have hle := HLE.out (i + 1) (by omega)
      have hpre : (tab (i + 1) fun i => ((f i : Nat) : Int)) <+: ps := by
        have ht : (tab m fun i => ((f i : Nat) : Int)).take (i + 1) = tab (i + 1) fun i => ((f i : Nat) : Int) := by
          unfold tab
          rw [← List.map_take, List.take_range, Nat.min_eq_left (by omega)]
        rw [HP.out, ← ht]
        exact List.take_prefix _ _
      gi_wp2
      refine hR.mono ?_
      rintro e W3 (⟨rfl, hJ3, hk3⟩ | ⟨rfl, hJx3⟩)
      · have hc3 : W3.cell? ⟨sb, 0, none⟩ = some (.int .i64 S) := (hk3.cell (p := ⟨sb, 0, none⟩) hsb).trans hcw
        gi_wp2
        go_roundw
        case rel => exact ⟨i + 1, rfl, hlt, hc3, hJ3⟩
        case measure => simp [intOf]; omega
      · gi_wp2
        go_end0
        exact ⟨⟨_, rfl⟩, .inr ⟨_, hpre, hJx3⟩⟩

theorem parts_stops (F : Fence) (n : Nat) (hF : F.fn 87) (hro : F.round = none) (hn : 1 ≤ n) (sb n₀ S : Nat) (hS : S < 32) (hsb : sb < n₀) (w : World) (hw : sb < w.heap.size) (hc : w.cell? ⟨sb, 0, none⟩ = some (.int .i64 S)) :
    SeqStopsK F n Tryd.prog 87 #[.pointer (some ⟨sb, 0, none⟩)] (fun x : Int => #[Value.int .i64 x]) (Below n₀) (fun ys => ys = parts S) (fun pre => pre <+: parts S) (2 ^ ones S) w := fun l J Jx W hW _ _ hY h0 =>
  parts1_in F n hF hro hn l sb n₀ S hS hsb J Jx hY W ((hW.cell (p := ⟨sb, 0, none⟩) hw).trans hc) h0

theorem info_set : (Tryd.prog.info? 59).map (fun i => (i.zero, i.size, i.bytes)) = some (some (.int .i64 0), 1, 8) := by kernel_rfl

theorem parts_any (S : Int) (w : World) :
    Calls Tryd.prog 81 #[.int .i64 S] w fun e w' => e = .returned (.func (.func 87) #[] #[.pointer (some ⟨w.heap.size, 0, none⟩)]) ∧ w' = w.alloc (.cells #[.int .i64 S] 59) := by
  go_enter Tryd.func81, Tryd.ntmps81
  go_wp2
  go_ret
  exact ⟨rfl, rfl⟩


end Go.Proofs.YtelihjanjlklpaaDoor.C
