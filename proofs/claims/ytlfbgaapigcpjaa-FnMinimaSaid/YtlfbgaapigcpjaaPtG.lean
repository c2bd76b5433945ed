/-
  The parts of a set, one after another: the iterator, for a loop whose body knows that it is handed a part.
-/
import Derived.Test.YtlfbgaapigcpjaaPtA
import Derived.Test.YtlfbgaapigcpjaaBase
import Derived.Lib.Hide
import Derived.RangeFuncBox
import Derived.RangeFuncLeaves
import Derived.Shelf.Abstract
import Derived.WalkKit
import Derived.OwnWalkIn
import Derived.TacticsInMore
import Derived.LoopNIn
import Derived.LoopIn
import Derived.Maps.AppendAt
import Derived.IntWalk
namespace Go.Proofs.Ytlfbgaapigcpjaa.C
open Go.RowKit Go.Shelf K M
set_option linter.unusedVariables false
set_option linter.unusedSimpArgs false
attribute [local go_sem] Oper.semAt_some

/-- A round keeps the iterator's set. -/
def Kept (sb S : Nat) (W W' : World) : Prop := W.cell? ⟨sb, 0, none⟩ = some (.int .i64 (S : Int)) → W'.cell? ⟨sb, 0, none⟩ = some (.int .i64 (S : Int))
theorem kept_t {sb S : Nat} {A B C : World} (h : Kept sb S A B) (k : Kept sb S B C) : Kept sb S A C := fun hc => k (h hc)
theorem kept_b {sb S : Nat} (W : World) (l : Nat) (o o' : Obj) (h : W.heap[l]? = some o) (ho : o.isCells = false) : Kept sb S W (W.putObj l o') := fun hc => cell_kept hc (grownBy_putObj' W l o') fun r e => by cases e; exact ⟨o, h, ho⟩

set_option maxRecDepth 100000 in
set_option maxHeartbeats 1000000 in
/-- The iterator over the parts of S, for every loop body that keeps the set; each round is handed a part. -/
theorem partsP_in (F : Fence) (n : Nat) (hF : F.fn 65) (hro : F.round = none) (hn : 1 ≤ n) (l sb S : Nat) (hS : S < 32) (J Jx : List (Part S) → World → Prop)
    (hY : ∀ pre (x : Part S) W, J pre W → pre.length < 2 ^ ones S → YieldAt F (n - 1) Try.prog l #[.int .i64 x.1] W fun e W' =>
      (e = .returned (.bool true) ∧ J (pre ++ [x]) W' ∧ Kept sb S W W') ∨ (e = .returned (.bool false) ∧ Jx (pre ++ [x]) W'))
    (W : World) (hc : W.cell? ⟨sb, 0, none⟩ = some (.int .i64 S)) (h0 : J [] W) :
    CallsIn F n Try.prog 65 #[.func (.yield l) #[] #[], .pointer (some ⟨sb, 0, none⟩)] W fun e W' => (∃ v, e = .returned v) ∧
      ((∃ ys, ys = (List.range (2 ^ ones S)).map (partP S) ∧ J ys W') ∨ (∃ pre, pre <+: (List.range (2 ^ ones S)).map (partP S) ∧ Jx pre W')) := by
  have hp32 := ones_pow hS
  have hp0 : 0 < 2 ^ ones S := Nat.two_pow_pos _
  obtain ⟨m, hm⟩ : ∃ m, 2 ^ ones S = m := ⟨_, rfl⟩
  have HLE := Lib.hid (fun i (hi : i < 32) => part_le S hS i hi)
  have HUP := Lib.hid (fun i (hi : i + 1 < m) => part_up S hS i (by omega) (by rw [hm]; exact hi))
  have HNX := Lib.hid (fun i (hi : i + 1 < m) => part_next S hS i (by omega) (by rw [hm]; exact hi))
  have HNE := Lib.hid (fun i (hi : i + 1 < m) => part_ne hS (by rw [hm]; exact hi))
  have HEN := Lib.hid (fun i (hi : i + 1 = m) => part_end hS (by rw [hm]; exact hi))
  have HQ := Lib.hid (fun i (hi : i < m) => partP_val hS (i := i) (by omega))
  have hz := part_zero S
  rw [hm] at hY hp32 hp0 ⊢
  generalize partP S = q at HQ ⊢
  generalize partN S = f at *
  clear hm
  refine callsIn_of_wp Try.func65 rfl hF ?_ hro
  simp only [Try.ntmps65, List.size_toArray, List.length_cons, List.length_nil, Nat.reduceAdd, Nat.reduceSub, Array.replicate_succ, Array.replicate_zero, List.push_toArray, List.append_toArray, List.nil_append, List.cons_append]
  gi_wp2
  gi_loopw [3] (fun p wr => ∃ (i : Nat), p = .int .i64 (f i : Nat) ∧ i < m ∧ wr.cell? ⟨sb, 0, none⟩ = some (.int .i64 S) ∧ J ((List.range i).map q) wr) (fun p _ => S - (intOf p).toNat)
  case atStart => exact ⟨0, by rw [hz]; rfl, hp0, hc, h0⟩
  case round =>
    obtain ⟨i, rfl, hi, hcw, hJ⟩ := hrel
    have hts : (List.range (i + 1)).map q = (List.range i).map q ++ [q i] := by rw [List.range_succ, List.map_append]; rfl
    obtain ⟨fn, tmps, assign, body, hy, hR⟩ := hY _ (q i) wr hJ (by rw [List.length_map, List.length_range]; exact hi)
    rw [← hts] at hR
    rw [HQ.out i hi] at hy
    by_cases hlast : i + 1 = m
    · have he := Lib.hid (HEN.out i hlast)
      gi_wp2
      refine hR.mono ?_
      rintro e W3 (⟨rfl, hJ3, hk3⟩ | ⟨rfl, hJx3⟩)
      · have hc3 : W3.cell? ⟨sb, 0, none⟩ = some (.int .i64 S) := hk3 hcw
        have hes : ((f i : Int) == (S : Int)) = true := by rw [he.out]; exact beq_self_eq_true _
        gi_wp2
        go_end0
        exact ⟨⟨_, rfl⟩, .inl ⟨_, by rw [← hlast], hJ3⟩⟩
      · gi_wp2
        go_end0
        exact ⟨⟨_, rfl⟩, .inr ⟨_, by rw [← hlast]; exact List.prefix_rfl, hJx3⟩⟩
    · have hlt : i + 1 < m := by omega
      have hne := HNE.out i hlt
      have hnx : bits .and .i64 (wrap64 (bits .or .i64 (f i : Int) (bits .xor .i64 (if IntKind.i64.signed = true then -1 else 9223372036854775807) (S : Int)) + 1)) (S : Int) = ((f (i + 1) : Nat) : Int) := by
        have h := HNX.out i hlt
        rw [IntWalk.i64_left] at h
        rw [if_pos (show IntKind.i64.signed = true from rfl)]
        exact h
      have hup := HUP.out i hlt
      have hle := HLE.out (i + 1) (by omega)
      have hpre : (List.range (i + 1)).map q <+: (List.range m).map q := by
        have ht : ((List.range m).map q).take (i + 1) = (List.range (i + 1)).map q := by
          rw [← List.map_take, List.take_range, Nat.min_eq_left (by omega)]
        rw [← ht]
        exact List.take_prefix _ _
      gi_wp2
      refine hR.mono ?_
      rintro e W3 (⟨rfl, hJ3, hk3⟩ | ⟨rfl, hJx3⟩)
      · have hc3 : W3.cell? ⟨sb, 0, none⟩ = some (.int .i64 S) := hk3 hcw
        gi_wp2
        go_roundw
        case rel => exact ⟨i + 1, rfl, hlt, hc3, hJ3⟩
        case measure => simp [intOf]; omega
      · gi_wp2
        go_end0
        exact ⟨⟨_, rfl⟩, .inr ⟨_, hpre, hJx3⟩⟩

theorem partsP_stops (F : Fence) (n : Nat) (hF : F.fn 65) (hro : F.round = none) (hn : 1 ≤ n) (sb S : Nat) (hS : S < 32) (w : World) (hw : sb < w.heap.size) (hc : w.cell? ⟨sb, 0, none⟩ = some (.int .i64 S)) :
    SeqStopsK F n Try.prog 65 #[.pointer (some ⟨sb, 0, none⟩)] (fun x : Part S => #[Value.int .i64 x.1]) (Kept sb S) (fun ys => ys = (List.range (2 ^ ones S)).map (partP S)) (fun pre => pre <+: (List.range (2 ^ ones S)).map (partP S)) (2 ^ ones S) w := fun l J Jx W hW _ _ hY h0 =>
  partsP_in F n hF hro hn l sb S hS J Jx hY W ((hW.cell (p := ⟨sb, 0, none⟩) hw).trans hc) h0

theorem partsF_any (S : Int) (w : World) :
    Calls Try.prog 56 #[.int .i64 S] w fun e w' => e = .returned (.func (.func 65) #[] #[.pointer (some ⟨w.heap.size, 0, none⟩)]) ∧ w' = w.alloc (.cells #[.int .i64 S] 51) := by
  go_enter Try.func56, Try.ntmps56
  go_wp2
  go_ret
  exact ⟨rfl, rfl⟩


end Go.Proofs.Ytlfbgaapigcpjaa.C
