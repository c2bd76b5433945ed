/-
  The parts of a set, one after another: the iterator, and slices.AppendSeq and slices.Collect over it.
-/
import Derived.Test.YtidhggcekimigaaDoorPtM
import Derived.Test.YtidhggcekimigaaDoorBase
import Derived.Test.YtidhggcekimigaaDoorFunH
import Derived.Lib.Hide
import Derived.RangeFuncBox
import Derived.RangeFuncLeaves
import Derived.Shelf.Abstract
import Derived.WalkKit
import Derived.OwnWalkIn
import Derived.TacticsInMore
import Derived.LoopNIn
import Derived.LoopIn
import Derived.Maps.AppendAt
import Derived.IntWalk
namespace Go.Proofs.YtidhggcekimigaaDoor.C
open Go.RowKit Go.Shelf K M
set_option linter.unusedVariables false
set_option linter.unusedSimpArgs false
attribute [local go_sem] Oper.semAt_some

set_option maxRecDepth 100000 in
set_option maxHeartbeats 1000000 in
/-- The iterator over the parts of S, for every loop body that keeps what lay below n₀. -/
theorem parts1_in (F : Fence) (n : Nat) (hF : F.fn 94) (hro : F.round = none) (hn : 1 ≤ n) (l sb n₀ S : Nat) (hS : S < 32) (hsb : sb < n₀) (J Jx : List Int → World → Prop)
    (hY : ∀ pre x W, J pre W → pre.length < 2 ^ ones S → YieldAt F (n - 1) Tryd.prog l #[.int .i64 x] W fun e W' =>
      (e = .returned (.bool true) ∧ J (pre ++ [x]) W' ∧ Below n₀ W W') ∨ (e = .returned (.bool false) ∧ Jx (pre ++ [x]) W'))
    (W : World) (hc : W.cell? ⟨sb, 0, none⟩ = some (.int .i64 S)) (h0 : J [] W) :
    CallsIn F n Tryd.prog 94 #[.func (.yield l) #[] #[], .pointer (some ⟨sb, 0, none⟩)] W fun e W' => (∃ v, e = .returned v) ∧
      ((∃ ys, ys = parts S ∧ J ys W') ∨ (∃ pre, pre <+: parts S ∧ Jx pre W')) := by
  have hp32 := ones_pow hS
  have hp0 : 0 < 2 ^ ones S := Nat.two_pow_pos _
  obtain ⟨m, hm⟩ : ∃ m, 2 ^ ones S = m := ⟨_, rfl⟩
  have HLE := Lib.hid (fun i (hi : i < 32) => part_le S hS i hi)
  have HUP := Lib.hid (fun i (hi : i + 1 < m) => part_up S hS i (by omega) (by rw [hm]; exact hi))
  have HNX := Lib.hid (fun i (hi : i + 1 < m) => part_next S hS i (by omega) (by rw [hm]; exact hi))
  have HNE := Lib.hid (fun i (hi : i + 1 < m) => part_ne hS (by rw [hm]; exact hi))
  have HEN := Lib.hid (fun i (hi : i + 1 = m) => part_end hS (by rw [hm]; exact hi))
  have HP := Lib.hid (show parts S = tab m fun i => ((partN S i : Nat) : Int) by unfold parts; rw [hm])
  have hz := part_zero S
  rw [hm] at hY hp32 hp0
  generalize parts S = ps at HP ⊢
  generalize partN S = f at *
  clear hm
  refine callsIn_of_wp Tryd.func94 rfl hF ?_ hro
  simp only [Tryd.ntmps94, List.size_toArray, List.length_cons, List.length_nil, Nat.reduceAdd, Nat.reduceSub, Array.replicate_succ, Array.replicate_zero, List.push_toArray, List.append_toArray, List.nil_append, List.cons_append]
  gi_wp2
  gi_loopw [3] (fun p wr => ∃ (i : Nat), p = .int .i64 (f i : Nat) ∧ i < m ∧ wr.cell? ⟨sb, 0, none⟩ = some (.int .i64 S) ∧ J (tab i fun i => ((f i : Nat) : Int)) wr) (fun p _ => S - (intOf p).toNat)
  case atStart => exact ⟨0, by rw [hz]; rfl, hp0, hc, h0⟩
  case round =>
    obtain ⟨i, rfl, hi, hcw, hJ⟩ := hrel
    have hts := tab_succ i fun i => ((f i : Nat) : Int)
    obtain ⟨fn, tmps, assign, body, hy, hR⟩ := hY _ (f i : Nat) wr hJ (by rw [tab_length]; exact hi)
    rw [← hts] at hR
    by_cases hlast : i + 1 = m
    · have he := Lib.hid (HEN.out i hlast)
      gi_wp2
      refine hR.mono ?_
      rintro e W3 (⟨rfl, hJ3, hk3⟩ | ⟨rfl, hJx3⟩)
      · have hc3 : W3.cell? ⟨sb, 0, none⟩ = some (.int .i64 S) := (hk3.cell (p := ⟨sb, 0, none⟩) hsb).trans hcw
        have hes : ((f i : Int) == (S : Int)) = true := by rw [he.out]; exact beq_self_eq_true _
        gi_wp2
        go_end0
        exact ⟨⟨_, rfl⟩, .inl ⟨_, by rw [HP.out, ← hlast], hJ3⟩⟩
      · gi_wp2
        go_end0
        exact ⟨⟨_, rfl⟩, .inr ⟨_, by rw [HP.out, ← hlast]; exact List.prefix_rfl, hJx3⟩⟩
    · have hlt : i + 1 < m := by omega
      have hne := HNE.out i hlt
      have hnx : bits .and .i64 (wrap64 (bits .or .i64 (f i : Int) (bits .xor .i64 (if IntKind.i64.signed = true then -1 else 9223372036854775807) (S : Int)) + 1)) (S : Int) = ((f (i + 1) : Nat) : Int) := by
        have h := HNX.out i hlt
        rw [IntWalk.i64_left] at h
        rw [if_pos (show IntKind.i64.signed = true from rfl)]
        exact h
      have hup := HUP.out i hlt
      have hle := HLE.out (i + 1) (by omega)
      have hpre : (tab (i + 1) fun i => ((f i : Nat) : Int)) <+: ps := by
        have ht : (tab m fun i => ((f i : Nat) : Int)).take (i + 1) = tab (i + 1) fun i => ((f i : Nat) : Int) := by
          unfold tab
          rw [← List.map_take, List.take_range, Nat.min_eq_left (by omega)]
        rw [HP.out, ← ht]
        exact List.take_prefix _ _
      gi_wp2
      refine hR.mono ?_
      rintro e W3 (⟨rfl, hJ3, hk3⟩ | ⟨rfl, hJx3⟩)
      · have hc3 : W3.cell? ⟨sb, 0, none⟩ = some (.int .i64 S) := (hk3.cell (p := ⟨sb, 0, none⟩) hsb).trans hcw
        gi_wp2
        go_roundw
        case rel => exact ⟨i + 1, rfl, hlt, hc3, hJ3⟩
        case measure => simp [intOf]; omega
      · gi_wp2
        go_end0
        exact ⟨⟨_, rfl⟩, .inr ⟨_, hpre, hJx3⟩⟩

theorem parts_stops (F : Fence) (n : Nat) (hF : F.fn 94) (hro : F.round = none) (hn : 1 ≤ n) (sb n₀ S : Nat) (hS : S < 32) (hsb : sb < n₀) (w : World) (hw : sb < w.heap.size) (hc : w.cell? ⟨sb, 0, none⟩ = some (.int .i64 S)) :
    SeqStopsK F n Tryd.prog 94 #[.pointer (some ⟨sb, 0, none⟩)] (fun x : Int => #[Value.int .i64 x]) (Below n₀) (fun ys => ys = parts S) (fun pre => pre <+: parts S) (2 ^ ones S) w := fun l J Jx W hW _ _ hY h0 =>
  parts1_in F n hF hro hn l sb n₀ S hS hsb J Jx hY W ((hW.cell (p := ⟨sb, 0, none⟩) hw).trans hc) h0

theorem info_set : (Tryd.prog.info? 50).map (fun i => (i.zero, i.size, i.bytes)) = some (some (.int .i64 0), 1, 8) := by kernel_rfl

set_option maxRecDepth 100000 in
set_option maxHeartbeats 2000000 in
theorem appendSeq_in (F : Fence) (n : Nat) (h1f : F.fn 93) (h2f : F.fn 94) (hro : F.round = none) (hn : 3 ≤ n) (sb S : Nat) (hS : S < 32) (w : World) (hw : sb < w.heap.size) (hc : w.cell? ⟨sb, 0, none⟩ = some (.int .i64 S)) :
    CallsIn F n Tryd.prog 93 #[.slice none 0 0, .func (.func 94) #[] #[.pointer (some ⟨sb, 0, none⟩)]] w fun e W' => ∃ v, e = .returned v ∧ W'.ownsRow w.heap.size 50 1 v (parts S).length ((parts S).map (Value.int .i64)) ∧ Below w.heap.size w W' := by
  have h1 : 1 ≤ n := by omega
  obtain ⟨i0, hi, hz0, hz1, hz2⟩ := info_parts info_set
  have h32 := ones_pow hS
  refine callsIn_of_wp_marks Tryd.func93 rfl h1f ?_ hro
  simp only [Tryd.ntmps93, List.size_toArray, List.length_cons, List.length_nil, Nat.reduceAdd, Nat.reduceSub, Array.replicate_succ, Array.replicate_zero, List.push_toArray, List.append_toArray, List.nil_append, List.cons_append]
  gi_wp2
  have bO := Boxed.new w 72 (.slice none 0 0)
  have hB0 : Below w.heap.size w (w.alloc (.cells #[.slice none 0 0] 72)) := (Below.refl _ w).alloc (Nat.le_refl _) _
  refine wpIn_rangeFunc_ownG hro h1 (gf := 94) (lb := #[.pointer (some ⟨sb, 0, none⟩)]) rfl h2f (enters_of Tryd.func94 (by kernel_rfl) rfl)
    (parts_stops F (n - 1) h2f hro (by omega) sb w.heap.size S hS hw _ (by simp; omega) ((hB0.cell (p := ⟨sb, 0, none⟩) hw).trans hc)) belowK_t (belowK_b (by simp)) (Below.refl _ _) (fun _ => rfl)
    (fun pre W => (∃ v, Boxed W w.heap.size 72 v ∧ W.ownsRow w.heap.size 50 1 v pre.length (pre.map (Value.int .i64)) ∧ True) ∧ Below w.heap.size w W)
    (fun _ _ _ => False)
    (OwnFrom.and (Own.from (holdsRow_own w.heap.size w.heap.size 72 50 1 (fun pre : List Int => pre.length) (fun pre => pre.map (Value.int .i64)) (fun _ _ => True)) _) (ownFrom_below (Nat.le_refl _) (by simp)))
    (fun _ _ _ _ _ hs _ _ => hs)
    ⟨⟨_, bO, World.ownsRow_nil _ _ _ _, trivial⟩, hB0⟩
    (fun x => { tmps := #[.slice none 0 0, .func (.func 94) #[] #[.pointer (some ⟨sb, 0, none⟩)], .pointer (some ⟨w.heap.size, 0, none⟩), undef, .slice none 0 0, .int .i64 x, .func (.func 94) #[] #[.pointer (some ⟨sb, 0, none⟩)], .int .i64 x, undef, undef, undef, undef, undef], defers := [] }) ?assign ?body ?done ?stop
  case assign =>
    intro l x W K hK
    gi_wp2
    exact hK
  case body =>
    rintro l pre x W ⟨⟨v, hv, hrow, -⟩, hB⟩ hlt
    have hc := hv.cell
    gi_wp2_with (gi_at_builtin; refine wpListIn_append_own _ rfl _ _ 72 rfl w.heap.size 50 i0 (.int .i64 0) 1 8 Tryd.underlying72 hi hz0 hz1 hz2 rfl (by decide) _ _ _ rfl (hrow.alloc _) ⟨W.heap.size, 0, none⟩ 1 1 [.int .i64 x] rfl rfl (cell_one_new _ _ _) (by simp [Value.oneCell']) (by unfold maxLen; omega) (by omega) (by have := hB.size; simp; omega) ?_; intro v' w1 hown' hgrow _; obtain ⟨g', cap', rfl⟩ := ownsRow_succ hown'; obtain ⟨hv1, hv2, hr2, hk2, hb2⟩ := hv.appended (by decide) hrow hB.size (Nat.le_refl _) hown' hgrow; have hc1 := hv1.cell; have hf1 := hv1.frozen)
    exact ⟨hk2.from _, hb2, ⟨_, hv2, by simpa using hr2, trivial⟩, hB.trans hb2⟩
  case done =>
    rintro D ys W hD rfl ⟨⟨v, hv, hrow, -⟩, hB⟩ hK
    have hc := hv.cell
    gi_wp2
    refine ⟨by simp, .inl ⟨_, _, rfl, run_takeDeferred hK, ?_⟩⟩
    exact ⟨_, results_tmp rfl _ _ _, v, rfl, ownsRow_putObj hrow _ hK rfl, hB.trans (belowK_b (w := w) (Nat.le_refl _) W D _ _ (by simp at hD; omega) hK rfl rfl)⟩
  case stop =>
    rintro D c pre W _ _ h _
    exact h.elim

/-- slices.Collect of the parts of S: a slice of them that is the call's own. -/
theorem collect_any (sb S : Nat) (hS : S < 32) (w : World) (hw : sb < w.heap.size) (hc : w.cell? ⟨sb, 0, none⟩ = some (.int .i64 S)) :
    Calls Tryd.prog 82 #[.func (.func 94) #[] #[.pointer (some ⟨sb, 0, none⟩)]] w fun e W' => ∃ v, e = .returned v ∧ W'.ownsRow w.heap.size 50 1 v (parts S).length ((parts S).map (Value.int .i64)) ∧ Below w.heap.size w W' := by
  have HC := fun W => appendSeq_in Fence.wide 3 trivial trivial rfl (Nat.le_refl _) sb S hS W
  have HA := Lib.hid (fun W (h1 : sb < W.heap.size) (h2 : W.cell? ⟨sb, 0, none⟩ = some (.int .i64 S)) => callsIn_wide.1 (HC W h1 h2))
  clear HC
  go_enter Tryd.func82, Tryd.ntmps82
  go_wp2_with (go_at_call 93; refine (HA.out _ hw hc).mono ?_; rintro e w2 ⟨v, rfl, ho, hb⟩)
  go_ret
  exact ⟨v, rfl, ho, hb⟩

theorem collect_ints (sb S : Nat) (hS : S < 32) (w : World) (hw : sb < w.heap.size) (hc : w.cell? ⟨sb, 0, none⟩ = some (.int .i64 S)) :
    Calls Tryd.prog 82 #[.func (.func 94) #[] #[.pointer (some ⟨sb, 0, none⟩)]] w fun e W' => ∃ b cap, e = .returned (.slice (some ⟨b, 0, none⟩) (2 ^ ones S) cap) ∧ b < W'.heap.size ∧ (∀ i, i < 2 ^ ones S → W'.cell? ⟨b, i, none⟩ = some (.int .i64 (partN S i : Nat))) ∧ Below w.heap.size w W' := by
  refine (collect_any sb S hS w hw hc).mono ?_
  rintro e W ⟨v, rfl, ho, hb⟩
  have hlen := parts_len S
  have hp := Nat.two_pow_pos (ones S)
  rcases ho.2 with ⟨-, h0⟩ | ⟨g, cap, cur, rfl, hg, hh, hn, hm, hs, ht⟩
  · omega
  · refine ⟨g, cap, by rw [hlen], (ho.lt g rfl).2, fun i hi => ?_, hb⟩
    have h1 := ho.cellAt (g := g) i (by omega)
    rw [h1, ← parts_at hi]
    simp [List.getD_eq_getElem?_getD, List.getElem?_eq_getElem (show i < (parts S).length by omega)]

theorem parts_any (S : Int) (w : World) :
    Calls Tryd.prog 83 #[.int .i64 S] w fun e w' => e = .returned (.func (.func 94) #[] #[.pointer (some ⟨w.heap.size, 0, none⟩)]) ∧ w' = w.alloc (.cells #[.int .i64 S] 50) := by
  go_enter Tryd.func83, Tryd.ntmps83
  go_wp2
  go_ret
  exact ⟨rfl, rfl⟩


end Go.Proofs.YtidhggcekimigaaDoor.C
