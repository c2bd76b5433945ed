/-
  The parts of a set, one after another: the iterator, and slices.AppendSeq and slices.Collect over it.
  The contracts of impl.functionOn and of the closures of chapter 5.
  The parts of a set, one after another: the iterator, for a loop whose body knows that it is handed a part.
  The contracts of impl.leastPart, for each closure that it is handed, and of these closures.
  The contracts of impl.convolutionOf, of the method split, and of chapter 6's exported functions on convolutions.
  The contracts of impl.convolutionOf, ConvolveFunctions, SplitOf, IncreasingHull and TruncateFunction.
  The contract of impl.ReduceFunction.
  The contract of impl.TruncateFunction.
-/
import Derived.Test.YtfpoiiennlhphaaDoorImA
import Derived.Test.YtfpoiiennlhphaaDoorBase
import Derived.Lib.Hide
import Derived.RangeFuncBox
import Derived.RangeFuncLeaves
import Derived.Shelf.Abstract
import Derived.WalkKit
import Derived.OwnWalkIn
import Derived.TacticsInMore
import Derived.LoopNIn
import Derived.LoopIn
import Derived.Maps.AppendAt
import Derived.IntWalk
import Derived.Test.YtfpoiiennlhphaaDoorAllM
import Derived.Test.YtfpoiiennlhphaaDoorVal
import Derived.Test.YtfpoiiennlhphaaDoorFunI
import Derived.RangeFuncNested
import Derived.RangeFuncBound
import Derived.Laws.EntriesVeiled
namespace Go.Proofs.YtfpoiiennlhphaaDoor.C
open Go.RowKit Go.Shelf K M
set_option linter.unusedVariables false
set_option linter.unusedSimpArgs false
attribute [local go_sem] Oper.semAt_some

set_option maxRecDepth 100000 in
set_option maxHeartbeats 1000000 in
/-- The iterator over the parts of S, for every loop body that keeps what lay below n₀. -/
theorem parts1_in (F : Fence) (n : Nat) (hF : F.fn 126) (hro : F.round = none) (hn : 1 ≤ n) (l sb n₀ S : Nat) (hS : S < 32) (hsb : sb < n₀) (J Jx : List Int → World → Prop)
    (hY : ∀ pre x W, J pre W → pre.length < 2 ^ ones S → YieldAt F (n - 1) Tryd.prog l #[.int .i64 x] W fun e W' =>
      (e = .returned (.bool true) ∧ J (pre ++ [x]) W' ∧ Below n₀ W W') ∨ (e = .returned (.bool false) ∧ Jx (pre ++ [x]) W'))
    (W : World) (hc : W.cell? ⟨sb, 0, none⟩ = some (.int .i64 S)) (h0 : J [] W) :
    CallsIn F n Tryd.prog 126 #[.func (.yield l) #[] #[], .pointer (some ⟨sb, 0, none⟩)] W fun e W' => (∃ v, e = .returned v) ∧
      ((∃ ys, ys = parts S ∧ J ys W') ∨ (∃ pre, pre <+: parts S ∧ Jx pre W')) := by
  have hp32 := ones_pow hS
  have hp0 : 0 < 2 ^ ones S := Nat.two_pow_pos _
  obtain ⟨m, hm⟩ : ∃ m, 2 ^ ones S = m := ⟨_, rfl⟩
  have HLE := Lib.hid (fun i (hi : i < 32) => part_le S hS i hi)
  have HUP := Lib.hid (fun i (hi : i + 1 < m) => part_up S hS i (by omega) (by rw [hm]; exact hi))
  have HNX := Lib.hid (fun i (hi : i + 1 < m) => part_next S hS i (by omega) (by rw [hm]; exact hi))
  have HNE := Lib.hid (fun i (hi : i + 1 < m) => part_ne hS (by rw [hm]; exact hi))
  have HEN := Lib.hid (fun i (hi : i + 1 = m) => part_end hS (by rw [hm]; exact hi))
  have HP := Lib.hid (show parts S = tab m fun i => ((partN S i : Nat) : Int) by unfold parts; rw [hm])
  have hz := part_zero S
  rw [hm] at hY hp32 hp0
  generalize parts S = ps at HP ⊢
  generalize partN S = f at *
  clear hm
  refine callsIn_of_wp Tryd.func126 rfl hF ?_ hro
  simp only [Tryd.ntmps126, List.size_toArray, List.length_cons, List.length_nil, Nat.reduceAdd, Nat.reduceSub, Array.replicate_succ, Array.replicate_zero, List.push_toArray, List.append_toArray, List.nil_append, List.cons_append]
  gi_wp2
  gi_loopw [3] (fun p wr => ∃ (i : Nat), p = .int .i64 (f i : Nat) ∧ i < m ∧ wr.cell? ⟨sb, 0, none⟩ = some (.int .i64 S) ∧ J (tab i fun i => ((f i : Nat) : Int)) wr) (fun p _ => S - (intOf p).toNat)
  case atStart => exact ⟨0, by rw [hz]; rfl, hp0, hc, h0⟩
  case round =>
    obtain ⟨i, rfl, hi, hcw, hJ⟩ := hrel
    have hts := tab_succ i fun i => ((f i : Nat) : Int)
    obtain ⟨fn, tmps, assign, body, hy, hR⟩ := hY _ (f i : Nat) wr hJ (by rw [tab_length]; exact hi)
    rw [← hts] at hR
    by_cases hlast : i + 1 = m
    · have he := Lib.hid (HEN.out i hlast)
      gi_wp2
      refine hR.mono ?_
      rintro e W3 (⟨rfl, hJ3, hk3⟩ | ⟨rfl, hJx3⟩)
      · have hc3 : W3.cell? ⟨sb, 0, none⟩ = some (.int .i64 S) := (hk3.cell (p := ⟨sb, 0, none⟩) hsb).trans hcw
        have hes : ((f i : Int) == (S : Int)) = true := by rw [he.out]; exact beq_self_eq_true _
        gi_wp2
        go_end0
        exact ⟨⟨_, rfl⟩, .inl ⟨_, by rw [HP.out, ← hlast], hJ3⟩⟩
      · gi_wp2
        go_end0
        exact ⟨⟨_, rfl⟩, .inr ⟨_, by rw [HP.out, ← hlast]; exact List.prefix_rfl, hJx3⟩⟩
    · have hlt : i + 1 < m := by omega
      have hne := HNE.out i hlt
      have hnx : bits .and .i64 (wrap64 (bits .or .i64 (f i : Int) (bits .xor .i64 (if IntKind.i64.signed = true then -1 else 9223372036854775807) (S : Int)) + 1)) (S : Int) = ((f (i + 1) : Nat) : Int) := by
        have h := HNX.out i hlt
        rw [IntWalk.i64_left] at h
        rw [if_pos (show IntKind.i64.signed = true from rfl)]
        exact h
      have hup := HUP.out i hlt
      have hle := HLE.out (i + 1) (by omega)
      have hpre : (tab (i + 1) fun i => ((f i : Nat) : Int)) <+: ps := by
        have ht : (tab m fun i => ((f i : Nat) : Int)).take (i + 1) = tab (i + 1) fun i => ((f i : Nat) : Int) := by
          unfold tab
          rw [← List.map_take, List.take_range, Nat.min_eq_left (by omega)]
        rw [HP.out, ← ht]
        exact List.take_prefix _ _
      gi_wp2
      refine hR.mono ?_
      rintro e W3 (⟨rfl, hJ3, hk3⟩ | ⟨rfl, hJx3⟩)
      · have hc3 : W3.cell? ⟨sb, 0, none⟩ = some (.int .i64 S) := (hk3.cell (p := ⟨sb, 0, none⟩) hsb).trans hcw
        gi_wp2
        go_roundw
        case rel => exact ⟨i + 1, rfl, hlt, hc3, hJ3⟩
        case measure => simp [intOf]; omega
      · gi_wp2
        go_end0
        exact ⟨⟨_, rfl⟩, .inr ⟨_, hpre, hJx3⟩⟩

theorem parts_stops (F : Fence) (n : Nat) (hF : F.fn 126) (hro : F.round = none) (hn : 1 ≤ n) (sb n₀ S : Nat) (hS : S < 32) (hsb : sb < n₀) (w : World) (hw : sb < w.heap.size) (hc : w.cell? ⟨sb, 0, none⟩ = some (.int .i64 S)) :
    SeqStopsK F n Tryd.prog 126 #[.pointer (some ⟨sb, 0, none⟩)] (fun x : Int => #[Value.int .i64 x]) (Below n₀) (fun ys => ys = parts S) (fun pre => pre <+: parts S) (2 ^ ones S) w := fun l J Jx W hW _ _ hY h0 =>
  parts1_in F n hF hro hn l sb n₀ S hS hsb J Jx hY W ((hW.cell (p := ⟨sb, 0, none⟩) hw).trans hc) h0

theorem info_set : (Tryd.prog.info? 57).map (fun i => (i.zero, i.size, i.bytes)) = some (some (.int .i64 0), 1, 8) := by kernel_rfl

set_option maxRecDepth 100000 in
set_option maxHeartbeats 2000000 in
theorem appendSeq_in (F : Fence) (n : Nat) (h1f : F.fn 125) (h2f : F.fn 126) (hro : F.round = none) (hn : 3 ≤ n) (sb S : Nat) (hS : S < 32) (w : World) (hw : sb < w.heap.size) (hc : w.cell? ⟨sb, 0, none⟩ = some (.int .i64 S)) :
    CallsIn F n Tryd.prog 125 #[.slice none 0 0, .func (.func 126) #[] #[.pointer (some ⟨sb, 0, none⟩)]] w fun e W' => ∃ v, e = .returned v ∧ W'.ownsRow w.heap.size 57 1 v (parts S).length ((parts S).map (Value.int .i64)) ∧ Below w.heap.size w W' := by
  have h1 : 1 ≤ n := by omega
  obtain ⟨i0, hi, hz0, hz1, hz2⟩ := info_parts info_set
  have h32 := ones_pow hS
  refine callsIn_of_wp_marks Tryd.func125 rfl h1f ?_ hro
  simp only [Tryd.ntmps125, List.size_toArray, List.length_cons, List.length_nil, Nat.reduceAdd, Nat.reduceSub, Array.replicate_succ, Array.replicate_zero, List.push_toArray, List.append_toArray, List.nil_append, List.cons_append]
  gi_wp2
  have bO := Boxed.new w 88 (.slice none 0 0)
  have hB0 : Below w.heap.size w (w.alloc (.cells #[.slice none 0 0] 88)) := (Below.refl _ w).alloc (Nat.le_refl _) _
  refine wpIn_rangeFunc_ownG hro h1 (gf := 126) (lb := #[.pointer (some ⟨sb, 0, none⟩)]) rfl h2f (enters_of Tryd.func126 (by kernel_rfl) rfl)
    (parts_stops F (n - 1) h2f hro (by omega) sb w.heap.size S hS hw _ (by simp; omega) ((hB0.cell (p := ⟨sb, 0, none⟩) hw).trans hc)) belowK_t (belowK_b (by simp)) (Below.refl _ _) (fun _ => rfl)
    (fun pre W => (∃ v, Boxed W w.heap.size 88 v ∧ W.ownsRow w.heap.size 57 1 v pre.length (pre.map (Value.int .i64)) ∧ True) ∧ Below w.heap.size w W)
    (fun _ _ _ => False)
    (OwnFrom.and (Own.from (holdsRow_own w.heap.size w.heap.size 88 57 1 (fun pre : List Int => pre.length) (fun pre => pre.map (Value.int .i64)) (fun _ _ => True)) _) (ownFrom_below (Nat.le_refl _) (by simp)))
    (fun _ _ _ _ _ hs _ _ => hs)
    ⟨⟨_, bO, World.ownsRow_nil _ _ _ _, trivial⟩, hB0⟩
    (fun x => { tmps := #[.slice none 0 0, .func (.func 126) #[] #[.pointer (some ⟨sb, 0, none⟩)], .pointer (some ⟨w.heap.size, 0, none⟩), undef, .slice none 0 0, .int .i64 x, .func (.func 126) #[] #[.pointer (some ⟨sb, 0, none⟩)], .int .i64 x, undef, undef, undef, undef, undef], defers := [] }) ?assign ?body ?done ?stop
  case assign =>
    intro l x W K hK
    gi_wp2
    exact hK
  case body =>
    rintro l pre x W ⟨⟨v, hv, hrow, -⟩, hB⟩ hlt
    have hc := hv.cell
    gi_wp2_with (gi_at_builtin; refine wpListIn_append_own _ rfl _ _ 88 rfl w.heap.size 57 i0 (.int .i64 0) 1 8 Tryd.underlying88 hi hz0 hz1 hz2 rfl (by decide) _ _ _ rfl (hrow.alloc _) ⟨W.heap.size, 0, none⟩ 1 1 [.int .i64 x] rfl rfl (cell_one_new _ _ _) (by simp [Value.oneCell']) (by unfold maxLen; omega) (by omega) (by have := hB.size; simp; omega) ?_; intro v' w1 hown' hgrow _; obtain ⟨g', cap', rfl⟩ := ownsRow_succ hown'; obtain ⟨hv1, hv2, hr2, hk2, hb2⟩ := hv.appended (by decide) hrow hB.size (Nat.le_refl _) hown' hgrow; have hc1 := hv1.cell; have hf1 := hv1.frozen)
    exact ⟨hk2.from _, hb2, ⟨_, hv2, by simpa using hr2, trivial⟩, hB.trans hb2⟩
  case done =>
    rintro D ys W hD rfl ⟨⟨v, hv, hrow, -⟩, hB⟩ hK
    have hc := hv.cell
    gi_wp2
    refine ⟨by simp, .inl ⟨_, _, rfl, run_takeDeferred hK, ?_⟩⟩
    exact ⟨_, results_tmp rfl _ _ _, v, rfl, ownsRow_putObj hrow _ hK rfl, hB.trans (belowK_b (w := w) (Nat.le_refl _) W D _ _ (by simp at hD; omega) hK rfl rfl)⟩
  case stop =>
    rintro D c pre W _ _ h _
    exact h.elim

/-- slices.Collect of the parts of S: a slice of them that is the call's own. -/
theorem collect_any (sb S : Nat) (hS : S < 32) (w : World) (hw : sb < w.heap.size) (hc : w.cell? ⟨sb, 0, none⟩ = some (.int .i64 S)) :
    Calls Tryd.prog 110 #[.func (.func 126) #[] #[.pointer (some ⟨sb, 0, none⟩)]] w fun e W' => ∃ v, e = .returned v ∧ W'.ownsRow w.heap.size 57 1 v (parts S).length ((parts S).map (Value.int .i64)) ∧ Below w.heap.size w W' := by
  have HC := fun W => appendSeq_in Fence.wide 3 trivial trivial rfl (Nat.le_refl _) sb S hS W
  have HA := Lib.hid (fun W (h1 : sb < W.heap.size) (h2 : W.cell? ⟨sb, 0, none⟩ = some (.int .i64 S)) => callsIn_wide.1 (HC W h1 h2))
  clear HC
  go_enter Tryd.func110, Tryd.ntmps110
  go_wp2_with (go_at_call 125; refine (HA.out _ hw hc).mono ?_; rintro e w2 ⟨v, rfl, ho, hb⟩)
  go_ret
  exact ⟨v, rfl, ho, hb⟩

theorem collect_ints (sb S : Nat) (hS : S < 32) (w : World) (hw : sb < w.heap.size) (hc : w.cell? ⟨sb, 0, none⟩ = some (.int .i64 S)) :
    Calls Tryd.prog 110 #[.func (.func 126) #[] #[.pointer (some ⟨sb, 0, none⟩)]] w fun e W' => ∃ b cap, e = .returned (.slice (some ⟨b, 0, none⟩) (2 ^ ones S) cap) ∧ b < W'.heap.size ∧ (∀ i, i < 2 ^ ones S → W'.cell? ⟨b, i, none⟩ = some (.int .i64 (partN S i : Nat))) ∧ Below w.heap.size w W' := by
  refine (collect_any sb S hS w hw hc).mono ?_
  rintro e W ⟨v, rfl, ho, hb⟩
  have hlen := parts_len S
  have hp := Nat.two_pow_pos (ones S)
  rcases ho.2 with ⟨-, h0⟩ | ⟨g, cap, cur, rfl, hg, hh, hn, hm, hs, ht⟩
  · omega
  · refine ⟨g, cap, by rw [hlen], (ho.lt g rfl).2, fun i hi => ?_, hb⟩
    have h1 := ho.cellAt (g := g) i (by omega)
    rw [h1, ← parts_at hi]
    simp [List.getD_eq_getElem?_getD, List.getElem?_eq_getElem (show i < (parts S).length by omega)]

theorem parts_any (S : Int) (w : World) :
    Calls Tryd.prog 111 #[.int .i64 S] w fun e w' => e = .returned (.func (.func 126) #[] #[.pointer (some ⟨w.heap.size, 0, none⟩)]) ∧ w' = w.alloc (.cells #[.int .i64 S] 57) := by
  go_enter Tryd.func111, Tryd.ntmps111
  go_wp2
  go_ret
  exact ⟨rfl, rfl⟩


end Go.Proofs.YtfpoiiennlhphaaDoor.C

namespace Go.Proofs.YtfpoiiennlhphaaDoor.C
open Go.RowKit K M
set_option linter.unusedVariables false
set_option linter.unusedSimpArgs false

theorem compl_val : ∀ n : Nat, n < 6 → ∀ s : Nat, s < 2 ^ n → bits .xor .i64 (s : Int) (((2 ^ n : Nat) : Int) - 1) = ((compl n s : Nat) : Int) := by decide +kernel

theorem complI (N S : Nat) (w : World) (h5 : N ≤ 5) (hS : S < 2 ^ N) : Calls Tryd.prog 75 #[.int .i64 S, .int .i64 N] w fun e w' => e = .returned (.int .i64 (compl N S : Nat)) ∧ w = w' := by
  have hx := compl_val N (by omega) S hS
  have hsh := shl_one (n := (N : Int)) (m := 2 ^ N) (by omega) (by omega) (by rw [Int.toNat_natCast])
  rw [Int.toNat_natCast] at hsh
  generalize compl N S = q at hx ⊢
  have hp32 : 2 ^ N ≤ 32 := Nat.le_trans (Nat.pow_le_pow_right (by decide) h5) (by decide)
  have hp1 : 1 ≤ 2 ^ N := Nat.two_pow_pos N
  generalize 2 ^ N = p at hx hsh hp32 hp1
  have hN : (0 : Int) ≤ (N : Int) := by omega
  clear hS
  go_enter Tryd.func75, Tryd.ntmps75
  go_wp2
  go_ret
  exact ⟨rfl, rfl⟩

theorem gives_left {P : Program} {f : FuncId} {args : Array Value} {w : World} {n : Nat} {x : Int} (h : Calls P f args (w.drewN n) (Gives (w.drewN n) x)) :
    Calls P f args (w.drewN n) fun e w'' => e = .returned (.int .i64 x) ∧ ∃ m, w'' = w.drewN m :=
  h.mono fun _ _ ⟨he, q, hq⟩ => ⟨he, n + q, by rw [← hq]; simp [World.drewN, Nat.add_assoc]⟩

theorem restC (x : Int) (s : Nat) (fb b off m cap : Nat) (w : World) (hs : s < m) (hf : w.cell? ⟨fb, 1, none⟩ = some (.slice (some ⟨b, off, none⟩) m cap)) (hc : w.cell? ⟨b, off + s, none⟩ = some (.int .i64 x)) :
    Calls Tryd.prog 72 #[.int .i64 s, .pointer (some ⟨fb, 0, none⟩)] w (Gives w x) := by
  have hs0 : (0 : Int) ≤ (s : Int) := by omega
  have hsm : (s : Int) < (m : Int) := by omega
  go_enter Tryd.func72, Tryd.ntmps72
  go_wp2
  go_ret
  exact ⟨rfl, 0, rfl⟩

theorem or_num : ∀ S : Nat, S < 32 → ∀ T : Nat, T < 32 → bits .or .i64 (T : Int) (S : Int) = ((S ||| T : Nat) : Int) := by decide +kernel

theorem contC (x y : Int) (p s q : Nat) (fb sb b off m cap : Nat) (w : World) (x1 : -1000 ≤ x) (x2 : x ≤ 1000) (y1 : -1000 ≤ y) (y2 : y ≤ 1000) (hs : s < m) (hq : q < m) (hor : bits .or .i64 (p : Int) (s : Int) = (q : Int))
    (hf : w.cell? ⟨fb, 1, none⟩ = some (.slice (some ⟨b, off, none⟩) m cap)) (hb : w.cell? ⟨sb, 0, none⟩ = some (.int .i64 s)) (hc : w.cell? ⟨b, off + q, none⟩ = some (.int .i64 x)) (hc0 : w.cell? ⟨b, off + s, none⟩ = some (.int .i64 y)) :
    Calls Tryd.prog 76 #[.int .i64 p, .pointer (some ⟨fb, 0, none⟩), .pointer (some ⟨sb, 0, none⟩)] w (Gives w (x - y)) := by
  have hxy : IntKind.i64.wrap (x - y) = x - y := IntWalk.i64_in _ (by omega)
  have hs0 : (0 : Int) ≤ (s : Int) := by omega
  have hsm : (s : Int) < (m : Int) := by omega
  have hq0 : (0 : Int) ≤ (q : Int) := by omega
  have hqm : (q : Int) < (m : Int) := by omega
  go_enter Tryd.func76, Tryd.ntmps76
  go_wp2
  go_quiet (fail)
  go_wp2
  go_ret
  exact ⟨rfl, _, rfl⟩

theorem oppC (x n : Int) (N s q : Nat) (fb b off m cap : Nat) (w : World) (h5 : N ≤ 5) (hs : s < 2 ^ N) (hqq : compl N s = q) (hq : q < m)
    (hf0 : w.cell? ⟨fb, 0, none⟩ = some (.int .i64 N)) (hf : w.cell? ⟨fb, 1, none⟩ = some (.slice (some ⟨b, off, none⟩) m cap)) (hc : w.cell? ⟨b, off + q, none⟩ = some (.int .i64 x)) :
    Calls Tryd.prog 85 #[.int .i64 s, .pointer (some ⟨fb, 0, none⟩)] w (Gives w x) := by
  have HC := Lib.hid (fun W => complI N s W h5 hs)
  rw [hqq] at HC
  have hq0 : (0 : Int) ≤ (q : Int) := by omega
  have hqm : (q : Int) < (m : Int) := by omega
  clear hs hqq h5
  go_enter Tryd.func85, Tryd.ntmps85
  go_wp2
  go_quiet ((go_at_call 75; first | exact quiet_left (HC.out _) | exact quiet_add_left (HC.out _)))
  go_wp2
  go_ret
  exact ⟨rfl, _, rfl⟩

theorem onC_rest (i p m : Nat) (x : Int) (vb pb b cap fb : Nat) (w : World) (hi : i < m)
    (hv : w.cell? ⟨vb, 0, none⟩ = some (.func (.func 72) #[] #[.pointer (some ⟨fb, 0, none⟩)]))
    (hp : w.cell? ⟨pb, 0, none⟩ = some (.slice (some ⟨b, 0, none⟩) m cap)) (hc : w.cell? ⟨b, i, none⟩ = some (.int .i64 p))
    (HC : Hid (∀ k, Calls Tryd.prog 72 #[.int .i64 p, .pointer (some ⟨fb, 0, none⟩)] (w.drewN k) (Gives (w.drewN k) x))) :
    Calls Tryd.prog 113 #[.int .i64 i, .pointer (some ⟨vb, 0, none⟩), .pointer (some ⟨pb, 0, none⟩)] w (RetV w (.int .i64 x)) := by
  have hs0 : (0 : Int) ≤ (i : Int) := by omega
  have hsm : (i : Int) < (m : Int) := by omega
  go_enter Tryd.func113, Tryd.ntmps113
  go_wp2
  go_quiet ((go_at_call 72; exact gives_left (HC.out _)))
  go_wp2
  go_ret
  exact ⟨rfl, below_drewN (Below.refl _ _) _⟩

theorem onC_cont (i p m : Nat) (x : Int) (vb pb b cap fb sb : Nat) (w : World) (hi : i < m)
    (hv : w.cell? ⟨vb, 0, none⟩ = some (.func (.func 76) #[] #[.pointer (some ⟨fb, 0, none⟩), .pointer (some ⟨sb, 0, none⟩)]))
    (hp : w.cell? ⟨pb, 0, none⟩ = some (.slice (some ⟨b, 0, none⟩) m cap)) (hc : w.cell? ⟨b, i, none⟩ = some (.int .i64 p))
    (HC : Hid (∀ k, Calls Tryd.prog 76 #[.int .i64 p, .pointer (some ⟨fb, 0, none⟩), .pointer (some ⟨sb, 0, none⟩)] (w.drewN k) (Gives (w.drewN k) x))) :
    Calls Tryd.prog 113 #[.int .i64 i, .pointer (some ⟨vb, 0, none⟩), .pointer (some ⟨pb, 0, none⟩)] w (RetV w (.int .i64 x)) := by
  have hs0 : (0 : Int) ≤ (i : Int) := by omega
  have hsm : (i : Int) < (m : Int) := by omega
  go_enter Tryd.func113, Tryd.ntmps113
  go_wp2
  go_quiet ((go_at_call 76; exact gives_left (HC.out _)))
  go_wp2
  go_ret
  exact ⟨rfl, below_drewN (Below.refl _ _) _⟩

set_option maxRecDepth 100000 in
set_option maxHeartbeats 4000000 in
theorem fonI_rest (S fb : Nat) (hS : S < 32) (f : Nat → Int) (w : World)
    (hf : Hid (∀ i, i < 2 ^ ones S → ∀ W, Below w.heap.size w W → Calls Tryd.prog 72 #[.int .i64 (partN S i : Nat), .pointer (some ⟨fb, 0, none⟩)] W (Gives W (f i)))) :
    Calls Tryd.prog 71 #[.int .i64 S, .func (.func 72) #[] #[.pointer (some ⟨fb, 0, none⟩)]] w (RetFB w (made (ones S : Nat) (tab (2 ^ ones S) f)).1 (made (ones S : Nat) (tab (2 ^ ones S) f)).2.1 (made (ones S : Nat) (tab (2 ^ ones S) f)).2.2) := by
  have HW := Lib.hid (St.start w)
  have ho5 := ones_le5 5 (Nat.le_refl _) S (by omega)
  obtain ⟨rn, rx, rb, hr⟩ : ∃ rn rx rb, made (ones S : Nat) (tab (2 ^ ones S) f) = (rn, rx, rb) := ⟨_, _, _, rfl⟩
  rw [hr]
  have HCO := Lib.hid (fun sb W => collect_ints sb S hS W)
  have HSZ := Lib.hid (fun W => sizeI_any S W (by omega))
  obtain ⟨o, ho⟩ : ∃ o, ones S = o := ⟨_, rfl⟩
  rw [ho] at hr hf HCO HSZ ho5
  have HM := Lib.hid (fun p1 p2 W hh => make_on o (2 ^ o) f p1 p2 W (by omega) (by omega) (by rw [Int.toNat_natCast]) rn rx rb (Lib.hid hr) hh)
  obtain ⟨m, hm⟩ : ∃ m, 2 ^ o = m := ⟨_, rfl⟩
  rw [hm] at hf HCO HM
  generalize partN S = g at *
  have hmf : ∀ (fn : Fn) (first cap : Array Value) (w : World), (Instr.makeFunc fn first cap).run Tryd.prog w = .ok (.func fn first cap) w := fun _ _ _ _ => rfl
  clear hr ho hm
  go_enter Tryd.func71, Tryd.ntmps71
  go_wp2_with fail
  refine (parts_any _ _).mono ?_
  rintro e w1 ⟨rfl, rfl⟩
  go_wp2_with fail
  refine St.use (w0 := w) (by exact ((HW.out.alloc _ _).alloc _ _).alloc _ _) ?_
  intro hS1
  simp only [World.size_alloc] at hS1 ⊢
  refine (HCO.out _ _ (hS1.lt (i := 0) rfl).2 ((hS1.box (i := 0) rfl).1 0 _ rfl)).mono ?_
  rintro e w2 ⟨b, cap, rfl, hbl, hcells, hb⟩
  have HS2 := Lib.hid (hS1.below hb)
  have HCE := Lib.hid hcells
  clear hS1 hb hcells
  go_wp2_with fail
  refine (HSZ.out _).mono ?_
  rintro e w3 ⟨rfl, rfl⟩
  go_wp2_with fail
  refine St.use (w0 := w) (by exact HS2.out.alloc [.slice (some ⟨b, 0, none⟩) m cap] 88) ?_
  intro hS3
  have HS3 := Lib.hid hS3
  clear hS3
  refine (HM.out _ _ _ ?_).mono ?_
  · refine Lib.hid ?_
    intro i hi W hW
    have hS := HS3.out.below hW
    have hW2 : Below w2.heap.size w2 W := ((Below.refl _ w2).alloc (Nat.le_refl _) _).trans (hW.mono (by simp))
    exact onC_rest i (g i) m (f i) _ _ b cap fb W hi ((hS.box (i := 3) rfl).1 0 _ rfl) ((hS.box (i := 0) rfl).1 0 _ rfl) ((hW2.cell (p := ⟨b, i, none⟩) hbl).trans (HCE.out i hi)) (Lib.hid fun k => hf.out i hi (W.drewN k) (below_drewN hS.base k))
  rintro e w3 ⟨B, d, rfl, ho, hb⟩
  have hS4 := HS3.out.newI hb ho
  obtain ⟨r1, rf⟩ := hS4.box (i := 3) rfl
  have s10 := r1 0 _ rfl
  have s11 := r1 1 _ rfl
  have sf0 := rf 0
  have sf1 := rf 1
  have HS4 := Lib.hid hS4
  clear r1 rf hb ho hS4
  go_wp2
  have hZ := (HS4.out.store (i := 3) rfl 0 (.int .i64 rn)).store (i := 3) rfl 1 (.slice B rx.length d)
  exact bodyPost_ret (v := .tuple #[.agg #[.int .i64 rn, .slice B rx.length d], .bool rb]) (by simp [results, Tryd.results71, go_sem, s10, s11, sf0, sf1]) rfl ⟨B, d, rfl, hZ.ownI (i := 0) rfl, hZ.base⟩

set_option maxRecDepth 100000 in
set_option maxHeartbeats 4000000 in
theorem fonI_cont (S fb sb : Nat) (hS : S < 32) (f : Nat → Int) (w : World)
    (hf : Hid (∀ i, i < 2 ^ ones S → ∀ W, Below w.heap.size w W → Calls Tryd.prog 76 #[.int .i64 (partN S i : Nat), .pointer (some ⟨fb, 0, none⟩), .pointer (some ⟨sb, 0, none⟩)] W (Gives W (f i)))) :
    Calls Tryd.prog 71 #[.int .i64 S, .func (.func 76) #[] #[.pointer (some ⟨fb, 0, none⟩), .pointer (some ⟨sb, 0, none⟩)]] w (RetFB w (made (ones S : Nat) (tab (2 ^ ones S) f)).1 (made (ones S : Nat) (tab (2 ^ ones S) f)).2.1 (made (ones S : Nat) (tab (2 ^ ones S) f)).2.2) := by
  have HW := Lib.hid (St.start w)
  have ho5 := ones_le5 5 (Nat.le_refl _) S (by omega)
  obtain ⟨rn, rx, rb, hr⟩ : ∃ rn rx rb, made (ones S : Nat) (tab (2 ^ ones S) f) = (rn, rx, rb) := ⟨_, _, _, rfl⟩
  rw [hr]
  have HCO := Lib.hid (fun sb W => collect_ints sb S hS W)
  have HSZ := Lib.hid (fun W => sizeI_any S W (by omega))
  obtain ⟨o, ho⟩ : ∃ o, ones S = o := ⟨_, rfl⟩
  rw [ho] at hr hf HCO HSZ ho5
  have HM := Lib.hid (fun p1 p2 W hh => make_on o (2 ^ o) f p1 p2 W (by omega) (by omega) (by rw [Int.toNat_natCast]) rn rx rb (Lib.hid hr) hh)
  obtain ⟨m, hm⟩ : ∃ m, 2 ^ o = m := ⟨_, rfl⟩
  rw [hm] at hf HCO HM
  generalize partN S = g at *
  have hmf : ∀ (fn : Fn) (first cap : Array Value) (w : World), (Instr.makeFunc fn first cap).run Tryd.prog w = .ok (.func fn first cap) w := fun _ _ _ _ => rfl
  clear hr ho hm
  go_enter Tryd.func71, Tryd.ntmps71
  go_wp2_with fail
  refine (parts_any _ _).mono ?_
  rintro e w1 ⟨rfl, rfl⟩
  go_wp2_with fail
  refine St.use (w0 := w) (by exact ((HW.out.alloc _ _).alloc _ _).alloc _ _) ?_
  intro hS1
  simp only [World.size_alloc] at hS1 ⊢
  refine (HCO.out _ _ (hS1.lt (i := 0) rfl).2 ((hS1.box (i := 0) rfl).1 0 _ rfl)).mono ?_
  rintro e w2 ⟨b, cap, rfl, hbl, hcells, hb⟩
  have HS2 := Lib.hid (hS1.below hb)
  have HCE := Lib.hid hcells
  clear hS1 hb hcells
  go_wp2_with fail
  refine (HSZ.out _).mono ?_
  rintro e w3 ⟨rfl, rfl⟩
  go_wp2_with fail
  refine St.use (w0 := w) (by exact HS2.out.alloc [.slice (some ⟨b, 0, none⟩) m cap] 88) ?_
  intro hS3
  have HS3 := Lib.hid hS3
  clear hS3
  refine (HM.out _ _ _ ?_).mono ?_
  · refine Lib.hid ?_
    intro i hi W hW
    have hS := HS3.out.below hW
    have hW2 : Below w2.heap.size w2 W := ((Below.refl _ w2).alloc (Nat.le_refl _) _).trans (hW.mono (by simp))
    exact onC_cont i (g i) m (f i) _ _ b cap fb sb W hi ((hS.box (i := 3) rfl).1 0 _ rfl) ((hS.box (i := 0) rfl).1 0 _ rfl) ((hW2.cell (p := ⟨b, i, none⟩) hbl).trans (HCE.out i hi)) (Lib.hid fun k => hf.out i hi (W.drewN k) (below_drewN hS.base k))
  rintro e w3 ⟨B, d, rfl, ho, hb⟩
  have hS4 := HS3.out.newI hb ho
  obtain ⟨r1, rf⟩ := hS4.box (i := 3) rfl
  have s10 := r1 0 _ rfl
  have s11 := r1 1 _ rfl
  have sf0 := rf 0
  have sf1 := rf 1
  have HS4 := Lib.hid hS4
  clear r1 rf hb ho hS4
  go_wp2
  have hZ := (HS4.out.store (i := 3) rfl 0 (.int .i64 rn)).store (i := 3) rfl 1 (.slice B rx.length d)
  exact bodyPost_ret (v := .tuple #[.agg #[.int .i64 rn, .slice B rx.length d], .bool rb]) (by simp [results, Tryd.results71, go_sem, s10, s11, sf0, sf1]) rfl ⟨B, d, rfl, hZ.ownI (i := 0) rfl, hZ.base⟩

end Go.Proofs.YtfpoiiennlhphaaDoor.C

namespace Go.Proofs.YtfpoiiennlhphaaDoor.C
open Go.RowKit Go.Shelf K M
set_option linter.unusedVariables false
set_option linter.unusedSimpArgs false
attribute [local go_sem] Oper.semAt_some

/-- A round keeps the iterator's set. -/
def Kept (sb S : Nat) (W W' : World) : Prop := W.cell? ⟨sb, 0, none⟩ = some (.int .i64 (S : Int)) → W'.cell? ⟨sb, 0, none⟩ = some (.int .i64 (S : Int))
theorem kept_t {sb S : Nat} {A B C : World} (h : Kept sb S A B) (k : Kept sb S B C) : Kept sb S A C := fun hc => k (h hc)
theorem kept_b {sb S : Nat} (W : World) (l : Nat) (o o' : Obj) (h : W.heap[l]? = some o) (ho : o.isCells = false) : Kept sb S W (W.putObj l o') := fun hc => cell_kept hc (grownBy_putObj' W l o') fun r e => by cases e; exact ⟨o, h, ho⟩

set_option maxRecDepth 100000 in
set_option maxHeartbeats 1000000 in
/-- The iterator over the parts of S, for every loop body that keeps the set; each round is handed a part. -/
theorem partsP_in (F : Fence) (n : Nat) (hF : F.fn 126) (hro : F.round = none) (hn : 1 ≤ n) (l sb S : Nat) (hS : S < 32) (J Jx : List (Part S) → World → Prop)
    (hY : ∀ pre (x : Part S) W, J pre W → pre.length < 2 ^ ones S → YieldAt F (n - 1) Tryd.prog l #[.int .i64 x.1] W fun e W' =>
      (e = .returned (.bool true) ∧ J (pre ++ [x]) W' ∧ Kept sb S W W') ∨ (e = .returned (.bool false) ∧ Jx (pre ++ [x]) W'))
    (W : World) (hc : W.cell? ⟨sb, 0, none⟩ = some (.int .i64 S)) (h0 : J [] W) :
    CallsIn F n Tryd.prog 126 #[.func (.yield l) #[] #[], .pointer (some ⟨sb, 0, none⟩)] W fun e W' => (∃ v, e = .returned v) ∧
      ((∃ ys, ys = (List.range (2 ^ ones S)).map (partP S) ∧ J ys W') ∨ (∃ pre, pre <+: (List.range (2 ^ ones S)).map (partP S) ∧ Jx pre W')) := by
  have hp32 := ones_pow hS
  have hp0 : 0 < 2 ^ ones S := Nat.two_pow_pos _
  obtain ⟨m, hm⟩ : ∃ m, 2 ^ ones S = m := ⟨_, rfl⟩
  have HLE := Lib.hid (fun i (hi : i < 32) => part_le S hS i hi)
  have HUP := Lib.hid (fun i (hi : i + 1 < m) => part_up S hS i (by omega) (by rw [hm]; exact hi))
  have HNX := Lib.hid (fun i (hi : i + 1 < m) => part_next S hS i (by omega) (by rw [hm]; exact hi))
  have HNE := Lib.hid (fun i (hi : i + 1 < m) => part_ne hS (by rw [hm]; exact hi))
  have HEN := Lib.hid (fun i (hi : i + 1 = m) => part_end hS (by rw [hm]; exact hi))
  have HQ := Lib.hid (fun i (hi : i < m) => partP_val hS (i := i) (by omega))
  have hz := part_zero S
  rw [hm] at hY hp32 hp0 ⊢
  generalize partP S = q at HQ ⊢
  generalize partN S = f at *
  clear hm
  refine callsIn_of_wp Tryd.func126 rfl hF ?_ hro
  simp only [Tryd.ntmps126, List.size_toArray, List.length_cons, List.length_nil, Nat.reduceAdd, Nat.reduceSub, Array.replicate_succ, Array.replicate_zero, List.push_toArray, List.append_toArray, List.nil_append, List.cons_append]
  gi_wp2
  gi_loopw [3] (fun p wr => ∃ (i : Nat), p = .int .i64 (f i : Nat) ∧ i < m ∧ wr.cell? ⟨sb, 0, none⟩ = some (.int .i64 S) ∧ J ((List.range i).map q) wr) (fun p _ => S - (intOf p).toNat)
  case atStart => exact ⟨0, by rw [hz]; rfl, hp0, hc, h0⟩
  case round =>
    obtain ⟨i, rfl, hi, hcw, hJ⟩ := hrel
    have hts : (List.range (i + 1)).map q = (List.range i).map q ++ [q i] := by rw [List.range_succ, List.map_append]; rfl
    obtain ⟨fn, tmps, assign, body, hy, hR⟩ := hY _ (q i) wr hJ (by rw [List.length_map, List.length_range]; exact hi)
    rw [← hts] at hR
    rw [HQ.out i hi] at hy
    by_cases hlast : i + 1 = m
    · have he := Lib.hid (HEN.out i hlast)
      gi_wp2
      refine hR.mono ?_
      rintro e W3 (⟨rfl, hJ3, hk3⟩ | ⟨rfl, hJx3⟩)
      · have hc3 : W3.cell? ⟨sb, 0, none⟩ = some (.int .i64 S) := hk3 hcw
        have hes : ((f i : Int) == (S : Int)) = true := by rw [he.out]; exact beq_self_eq_true _
        gi_wp2
        go_end0
        exact ⟨⟨_, rfl⟩, .inl ⟨_, by rw [← hlast], hJ3⟩⟩
      · gi_wp2
        go_end0
        exact ⟨⟨_, rfl⟩, .inr ⟨_, by rw [← hlast]; exact List.prefix_rfl, hJx3⟩⟩
    · have hlt : i + 1 < m := by omega
      have hne := HNE.out i hlt
      have hnx : bits .and .i64 (wrap64 (bits .or .i64 (f i : Int) (bits .xor .i64 (if IntKind.i64.signed = true then -1 else 9223372036854775807) (S : Int)) + 1)) (S : Int) = ((f (i + 1) : Nat) : Int) := by
        have h := HNX.out i hlt
        rw [IntWalk.i64_left] at h
        rw [if_pos (show IntKind.i64.signed = true from rfl)]
        exact h
      have hup := HUP.out i hlt
      have hle := HLE.out (i + 1) (by omega)
      have hpre : (List.range (i + 1)).map q <+: (List.range m).map q := by
        have ht : ((List.range m).map q).take (i + 1) = (List.range (i + 1)).map q := by
          rw [← List.map_take, List.take_range, Nat.min_eq_left (by omega)]
        rw [← ht]
        exact List.take_prefix _ _
      gi_wp2
      refine hR.mono ?_
      rintro e W3 (⟨rfl, hJ3, hk3⟩ | ⟨rfl, hJx3⟩)
      · have hc3 : W3.cell? ⟨sb, 0, none⟩ = some (.int .i64 S) := hk3 hcw
        gi_wp2
        go_roundw
        case rel => exact ⟨i + 1, rfl, hlt, hc3, hJ3⟩
        case measure => simp [intOf]; omega
      · gi_wp2
        go_end0
        exact ⟨⟨_, rfl⟩, .inr ⟨_, hpre, hJx3⟩⟩

theorem partsP_stops (F : Fence) (n : Nat) (hF : F.fn 126) (hro : F.round = none) (hn : 1 ≤ n) (sb S : Nat) (hS : S < 32) (w : World) (hw : sb < w.heap.size) (hc : w.cell? ⟨sb, 0, none⟩ = some (.int .i64 S)) :
    SeqStopsK F n Tryd.prog 126 #[.pointer (some ⟨sb, 0, none⟩)] (fun x : Part S => #[Value.int .i64 x.1]) (Kept sb S) (fun ys => ys = (List.range (2 ^ ones S)).map (partP S)) (fun pre => pre <+: (List.range (2 ^ ones S)).map (partP S)) (2 ^ ones S) w := fun l J Jx W hW _ _ hY h0 =>
  partsP_in F n hF hro hn l sb S hS J Jx hY W ((hW.cell (p := ⟨sb, 0, none⟩) hw).trans hc) h0

theorem partsF_any (S : Int) (w : World) :
    Calls Tryd.prog 111 #[.int .i64 S] w fun e w' => e = .returned (.func (.func 126) #[] #[.pointer (some ⟨w.heap.size, 0, none⟩)]) ∧ w' = w.alloc (.cells #[.int .i64 S] 57) := by
  go_enter Tryd.func111, Tryd.ntmps111
  go_wp2
  go_ret
  exact ⟨rfl, rfl⟩


end Go.Proofs.YtfpoiiennlhphaaDoor.C

namespace Go.Proofs.YtfpoiiennlhphaaDoor.C
open Go.RowKit Go.Shelf K M
set_option linter.unusedVariables false
set_option linter.unusedSimpArgs false
attribute [local go_sem] Oper.semAt_some

theorem KeepsOthers.drewN (W : World) (n : Nat) : KeepsOthers W (W.drewN n) := ⟨Nat.le_refl _, fun _ _ h _ => h⟩

theorem gives_at {P : Program} {f : FuncId} {args : Array Value} {w : World} {n : Nat} {x : Int} (h : Calls P f args (w.drewN n) (Gives (w.drewN n) x)) :
    Calls P f args (w.drewN n) fun e w'' => e = .returned (.int .i64 x) ∧ ∃ m, w'' = w.drewN m :=
  h.mono fun _ _ ⟨he, q, hq⟩ => ⟨he, n + q, by rw [← hq]; simp [World.drewN, Nat.add_assoc]⟩

theorem conv1C (x : Int) (s : Nat) (fb b off m cap : Nat) (w : World) (hs : s < m) (hf : w.cell? ⟨fb, 1, none⟩ = some (.slice (some ⟨b, off, none⟩) m cap)) (hc : w.cell? ⟨b, off + s, none⟩ = some (.int .i64 x)) :
    Calls Tryd.prog 121 #[.int .i64 s, .pointer (some ⟨fb, 0, none⟩)] w (Gives w x) := by
  have hs0 : (0 : Int) ≤ (s : Int) := by omega
  have hsm : (s : Int) < (m : Int) := by omega
  go_enter Tryd.func121, Tryd.ntmps121
  go_wp2
  go_ret
  exact ⟨rfl, 0, rfl⟩

theorem conv2C (x : Int) (s : Nat) (fb b off m cap : Nat) (w : World) (hs : s < m) (hf : w.cell? ⟨fb, 1, none⟩ = some (.slice (some ⟨b, off, none⟩) m cap)) (hc : w.cell? ⟨b, off + s, none⟩ = some (.int .i64 x)) :
    Calls Tryd.prog 122 #[.int .i64 s, .pointer (some ⟨fb, 0, none⟩)] w (Gives w x) := by
  have hs0 : (0 : Int) ≤ (s : Int) := by omega
  have hsm : (s : Int) < (m : Int) := by omega
  go_enter Tryd.func122, Tryd.ntmps122
  go_wp2
  go_ret
  exact ⟨rfl, 0, rfl⟩

/-- f of the part and g of the rest. -/
theorem splitC (x y : Int) (S p q : Nat) (cb sb fb gb : Nat) (w : World) (x1 : -1000 ≤ x) (x2 : x ≤ 1000) (y1 : -1000 ≤ y) (y2 : y ≤ 1000) (hq : bits .xor .i64 (S : Int) (p : Int) = (q : Int))
    (h0 : w.cell? ⟨cb, 0, none⟩ = some (.func (.func 121) #[] #[.pointer (some ⟨fb, 0, none⟩)])) (h1 : w.cell? ⟨cb, 1, none⟩ = some (.func (.func 122) #[] #[.pointer (some ⟨gb, 0, none⟩)])) (hs : w.cell? ⟨sb, 0, none⟩ = some (.int .i64 S))
    (H1 : Hid (∀ k, Calls Tryd.prog 121 #[.int .i64 p, .pointer (some ⟨fb, 0, none⟩)] (w.drewN k) (Gives (w.drewN k) x)))
    (H2 : Hid (∀ k, Calls Tryd.prog 122 #[.int .i64 q, .pointer (some ⟨gb, 0, none⟩)] (w.drewN k) (Gives (w.drewN k) y))) :
    Calls Tryd.prog 123 #[.int .i64 p, .pointer (some ⟨cb, 0, none⟩), .pointer (some ⟨sb, 0, none⟩)] w (Gives w (x + y)) := by
  have hxy : IntKind.i64.wrap (x + y) = x + y := IntWalk.i64_in _ (by omega)
  go_enter Tryd.func123, Tryd.ntmps123
  go_wp2
  go_quiet (first | (go_at_call 121; exact gives_at (H1.out _)) | (go_at_call 122; exact gives_at (H2.out _)))
  go_wp2
  go_ret
  exact ⟨rfl, _, rfl⟩

/-- The value of a greater set. -/
theorem hullC (x : Int) (s p q : Nat) (fb sb b off m cap : Nat) (w : World) (hq : q < m) (hor : bits .or .i64 (s : Int) (p : Int) = (q : Int))
    (hf : w.cell? ⟨fb, 1, none⟩ = some (.slice (some ⟨b, off, none⟩) m cap)) (hb : w.cell? ⟨sb, 0, none⟩ = some (.int .i64 s)) (hc : w.cell? ⟨b, off + q, none⟩ = some (.int .i64 x)) :
    Calls Tryd.prog 104 #[.int .i64 p, .pointer (some ⟨fb, 0, none⟩), .pointer (some ⟨sb, 0, none⟩)] w (Gives w x) := by
  have hq0 : (0 : Int) ≤ (q : Int) := by omega
  have hqm : (q : Int) < (m : Int) := by omega
  go_enter Tryd.func104, Tryd.ntmps104
  go_wp2
  go_ret
  exact ⟨rfl, 0, rfl⟩

set_option maxRecDepth 100000 in
set_option maxHeartbeats 4000000 in
/-- The least part of S for a closure, and its value. -/
theorem least_split_any (S : Nat) (hS : S < 32) (v : Nat → Int) (p1 p2 : Value) (w : World)
    (hv : Hid (∀ x, x &&& S = x → ∀ W, Below w.heap.size w W → Calls Tryd.prog 123 #[.int .i64 (x : Nat), p1, p2] W (Gives W (v x)))) :
    Calls Tryd.prog 103 #[.int .i64 S, .func (.func 123) #[] #[p1, p2]] w fun e W' => e = .returned (.tuple #[.int .i64 (leastTo v S S : Nat), .int .i64 (v (leastTo v S S))]) ∧ Below w.heap.size w W' := by
  have HF := Lib.hid (best_partsP v hS)
  have HX := Lib.hid (best_snoc v)
  have HB0 := Lib.hid (best_nil v)
  have HV0 := Lib.hid (hv.out 0 (by simp))
  have HP := Lib.hid (fun F n hF hro hn sb W hw hc => partsP_stops F n hF hro hn sb S hS W hw hc)
  generalize bestOf v = bo at HF HX HB0
  generalize leastTo v S S = r at HF ⊢
  refine (callsIn_wide (n := 4)).1 ?_
  refine callsIn_of_wp_marks Tryd.func103 rfl trivial ?_ rfl
  simp only [Tryd.ntmps103, List.size_toArray, List.length_cons, List.length_nil, Nat.reduceAdd, Nat.reduceSub, Array.replicate_succ, Array.replicate_zero, List.push_toArray, List.append_toArray, List.nil_append, List.cons_append]
  gi_wp2_with (first
    | (refine ⟨trivial, ?_⟩; gi_at_call 123; refine (callsIn_wide.2 (HV0.out _ ((Below.refl _ _).alloc (Nat.le_refl _) _))).mono ?_; rintro e w1 ⟨rfl, q, rfl⟩)
    | (refine ⟨trivial, ?_⟩; gi_at_call 111; refine (callsIn_wide.2 (partsF_any _ _)).mono ?_; rintro e w1 ⟨rfl, rfl⟩))
  have b0 : Boxed ((((w.alloc (.cells #[.func (.func 123) #[] #[p1, p2]] 65)).drewN q).alloc (.cells #[.int .i64 0] 57)).alloc (.cells #[.int .i64 (v 0)] 3)) w.heap.size 65 (.func (.func 123) #[] #[p1, p2]) :=
    (show Boxed ((w.alloc (.cells #[.func (.func 123) #[] #[p1, p2]] 65)).drewN q) w.heap.size 65 _ from Boxed.new w _ _).alloc _ |>.alloc _
  have b1 : Boxed ((((w.alloc (.cells #[.func (.func 123) #[] #[p1, p2]] 65)).drewN q).alloc (.cells #[.int .i64 0] 57)).alloc (.cells #[.int .i64 (v 0)] 3)) (w.heap.size + 1) 57 (.int .i64 0) := by
    have h := (Boxed.new ((w.alloc (.cells #[.func (.func 123) #[] #[p1, p2]] 65)).drewN q) 57 (.int .i64 0)).alloc (.cells #[.int .i64 (v 0)] 3)
    simpa using h
  have b2 : Boxed ((((w.alloc (.cells #[.func (.func 123) #[] #[p1, p2]] 65)).drewN q).alloc (.cells #[.int .i64 0] 57)).alloc (.cells #[.int .i64 (v 0)] 3)) (w.heap.size + 1 + 1) 3 (.int .i64 (v 0)) := by
    have h := Boxed.new (((w.alloc (.cells #[.func (.func 123) #[] #[p1, p2]] 65)).drewN q).alloc (.cells #[.int .i64 0] 57)) 3 (.int .i64 (v 0))
    simpa using h
  have hB : Below w.heap.size w ((((w.alloc (.cells #[.func (.func 123) #[] #[p1, p2]] 65)).drewN q).alloc (.cells #[.int .i64 0] 57)).alloc (.cells #[.int .i64 (v 0)] 3)) :=
    ((below_drewN ((Below.refl _ w).alloc (Nat.le_refl _) _) q).alloc (by simp) _).alloc (by simp; omega) _
  have hsz : ((((w.alloc (.cells #[.func (.func 123) #[] #[p1, p2]] 65)).drewN q).alloc (.cells #[.int .i64 0] 57)).alloc (.cells #[.int .i64 (v 0)] 3)).heap.size = w.heap.size + 1 + 1 + 1 := by simp
  generalize (((w.alloc (.cells #[.func (.func 123) #[] #[p1, p2]] 65)).drewN q).alloc (.cells #[.int .i64 0] 57)).alloc (.cells #[.int .i64 (v 0)] 3) = W0 at b0 b1 b2 hB hsz ⊢
  refine wpIn_rangeFunc_ownG rfl (by omega) (gf := 126) (lb := #[.pointer (some ⟨w.heap.size + 1 + 1 + 1, 0, none⟩)]) rfl trivial (enters_of Tryd.func126 (by kernel_rfl) rfl)
    (HP.out Fence.wide _ trivial rfl (by omega) (w.heap.size + 1 + 1 + 1) _ (by simp [hsz]) (by rw [← hsz]; simp)) kept_t (fun W l o o' _ h ho _ => kept_b W l o o' h ho) (Below.refl _ _) (fun _ => rfl)
    (fun pre W => (Boxed W w.heap.size 65 (.func (.func 123) #[] #[p1, p2]) ∧ Boxed W (w.heap.size + 1) 57 (.int .i64 (bo (pre.map Subtype.val) : Nat)) ∧ Boxed W (w.heap.size + 1 + 1) 3 (.int .i64 (v (bo (pre.map Subtype.val))))) ∧ Below w.heap.size w W)
    (fun _ _ _ => False)
    (OwnFrom.and (OwnFrom.and (Own.from (boxed_own _ _ _) _) (OwnFrom.and (Own.from (boxed_own _ _ _) _) (Own.from (boxed_own _ _ _) _))) (ownFrom_below (Nat.le_refl _) (by simp; omega)))
    (fun _ _ _ _ _ hs _ _ => hs)
    ⟨⟨b0.alloc _, by simp only [List.map_nil, HB0.out]; exact b1.alloc _, by simp only [List.map_nil, HB0.out]; exact b2.alloc _⟩, hB.alloc hB.size _⟩
    (fun x => { tmps := #[.int .i64 S, .func (.func 123) #[] #[p1, p2], undef, .pointer (some ⟨w.heap.size, 0, none⟩), .int .i64 0, .int .i64 0, .pointer (some ⟨w.heap.size + 1, 0, none⟩), .pointer (some ⟨w.heap.size + 1 + 1, 0, none⟩), .int .i64 x.1, undef, .func (.func 123) #[] #[p1, p2], .int .i64 (v 0), .int .i64 S, .func (.func 126) #[] #[.pointer (some ⟨w.heap.size + 1 + 1 + 1, 0, none⟩)], .int .i64 x.1, undef, undef, undef, undef, undef, undef, undef, undef, undef, undef], defers := [] }) ?assign ?body ?done ?stop
  case assign =>
    intro l x W K hK
    gi_wp2
    exact hK
  case body =>
    rintro l pre x W ⟨⟨c0, c1, c2⟩, hB⟩ hlt
    obtain ⟨x, hx⟩ := x
    have HC := Lib.hid (fun W hW => hv.out x hx W hW)
    have hs := HX.out (pre.map Subtype.val) x
    have hm : (pre ++ [(⟨x, hx⟩ : Part S)]).map Subtype.val = pre.map Subtype.val ++ [x] := by simp
    generalize hb : bo (pre.map Subtype.val) = b at *
    have HM := Lib.hid (hm ▸ hs : bo ((pre ++ [(⟨x, hx⟩ : Part S)]).map Subtype.val) = if v x < v b then x else b)
    have d0 := c0.cell
    have d1 := c1.cell
    have d2 := c2.cell
    have f1 := c1.frozen
    have f2 := c2.frozen
    have hd : 1 ≤ 4 - 1 - 1 := by omega
    have HC0 := Lib.hid c0
    have HC1 := Lib.hid c1
    have HC2 := Lib.hid c2
    have HB := Lib.hid hB
    clear c0 c1 c2 hB b0 b1 b2 hs hm
    by_cases hlt2 : v x < v b
    · gi_wp2_with (refine ⟨trivial, ?_⟩; gi_at_call 123; refine (CallsIn.inRound l (callsIn_wide.2 (HC.out _ HB.out))).mono ?_; rintro e w1 ⟨rfl, q, rfl⟩)
      refine ⟨((C.KeepsOthers.drewN W q).trans ((KeepsOthers.setCell _ _ _).trans (KeepsOthers.setCell _ _ _))).from _, fun hc => ?_, ⟨⟨?_, ?_, ?_⟩, ?_⟩⟩
      · exact (World.cell?_setCell_other (a := ⟨w.heap.size + 1 + 1, 0, none⟩) (b := ⟨w.heap.size + 1 + 1 + 1, 0, none⟩) _ _ (fun e => by injection e; omega)).trans ((World.cell?_setCell_other (a := ⟨w.heap.size + 1, 0, none⟩) (b := ⟨w.heap.size + 1 + 1 + 1, 0, none⟩) _ _ (fun e => by injection e; omega)).trans hc)
      · exact ((show Boxed (W.drewN q) _ _ _ from HC0.out).other (by omega) _).other (by omega) _
      · rw [HM.out, if_pos hlt2]
        exact ((show Boxed (W.drewN q) _ _ _ from HC1.out).set _).other (by omega) _
      · rw [HM.out, if_pos hlt2]
        exact ((show Boxed (W.drewN q) _ _ _ from HC2.out).other (by omega) _).set _
      · exact ((below_drewN HB.out q).setCell (p := ⟨w.heap.size + 1, 0, none⟩) (by simp) _).setCell (p := ⟨w.heap.size + 1 + 1, 0, none⟩) (by simp; omega) _
    · gi_wp2_with (refine ⟨trivial, ?_⟩; gi_at_call 123; refine (CallsIn.inRound l (callsIn_wide.2 (HC.out _ HB.out))).mono ?_; rintro e w1 ⟨rfl, q, rfl⟩)
      refine ⟨(C.KeepsOthers.drewN W q).from _, fun hc => hc, ⟨⟨HC0.out, ?_, ?_⟩, below_drewN HB.out q⟩⟩
      · rw [HM.out, if_neg (by omega)]
        exact HC1.out
      · rw [HM.out, if_neg (by omega)]
        exact HC2.out
  case done =>
    rintro D ys W hD rfl ⟨⟨c0, c1, c2⟩, hB⟩ hK
    rw [HF.out] at c1 c2
    have d1 := c1.cell
    have d2 := c2.cell
    clear c0 c1 c2 b0 b1 b2
    have hD' : D < W.heap.size := (Array.getElem?_eq_some_iff.1 hK).1
    gi_wp2
    gi_region
    all_goals gi_wp2
    refine ⟨by simp, .inl ⟨_, _, rfl, run_takeDeferred (show W.drew.heap[D]? = _ from hK), ?_⟩⟩
    refine ⟨_, ?_, rfl, hB.drew.trans (belowK_b (w := w) (Nat.le_refl _) W.drew D _ _ (by simp at hD; omega) hK rfl rfl)⟩
    simp [results, Tryd.results103, go_sem]
  case stop =>
    rintro D c pre W _ _ h _
    exact h.elim

set_option maxRecDepth 100000 in
set_option maxHeartbeats 4000000 in
/-- The least part of S for a closure, and its value. -/
theorem least_hull_any (S : Nat) (hS : S < 32) (v : Nat → Int) (p1 p2 : Value) (w : World)
    (hv : Hid (∀ x, x &&& S = x → ∀ W, Below w.heap.size w W → Calls Tryd.prog 104 #[.int .i64 (x : Nat), p1, p2] W (Gives W (v x)))) :
    Calls Tryd.prog 103 #[.int .i64 S, .func (.func 104) #[] #[p1, p2]] w fun e W' => e = .returned (.tuple #[.int .i64 (leastTo v S S : Nat), .int .i64 (v (leastTo v S S))]) ∧ Below w.heap.size w W' := by
  have HF := Lib.hid (best_partsP v hS)
  have HX := Lib.hid (best_snoc v)
  have HB0 := Lib.hid (best_nil v)
  have HV0 := Lib.hid (hv.out 0 (by simp))
  have HP := Lib.hid (fun F n hF hro hn sb W hw hc => partsP_stops F n hF hro hn sb S hS W hw hc)
  generalize bestOf v = bo at HF HX HB0
  generalize leastTo v S S = r at HF ⊢
  refine (callsIn_wide (n := 4)).1 ?_
  refine callsIn_of_wp_marks Tryd.func103 rfl trivial ?_ rfl
  simp only [Tryd.ntmps103, List.size_toArray, List.length_cons, List.length_nil, Nat.reduceAdd, Nat.reduceSub, Array.replicate_succ, Array.replicate_zero, List.push_toArray, List.append_toArray, List.nil_append, List.cons_append]
  gi_wp2_with (first
    | (refine ⟨trivial, ?_⟩; gi_at_call 104; refine (callsIn_wide.2 (HV0.out _ ((Below.refl _ _).alloc (Nat.le_refl _) _))).mono ?_; rintro e w1 ⟨rfl, q, rfl⟩)
    | (refine ⟨trivial, ?_⟩; gi_at_call 111; refine (callsIn_wide.2 (partsF_any _ _)).mono ?_; rintro e w1 ⟨rfl, rfl⟩))
  have b0 : Boxed ((((w.alloc (.cells #[.func (.func 104) #[] #[p1, p2]] 65)).drewN q).alloc (.cells #[.int .i64 0] 57)).alloc (.cells #[.int .i64 (v 0)] 3)) w.heap.size 65 (.func (.func 104) #[] #[p1, p2]) :=
    (show Boxed ((w.alloc (.cells #[.func (.func 104) #[] #[p1, p2]] 65)).drewN q) w.heap.size 65 _ from Boxed.new w _ _).alloc _ |>.alloc _
  have b1 : Boxed ((((w.alloc (.cells #[.func (.func 104) #[] #[p1, p2]] 65)).drewN q).alloc (.cells #[.int .i64 0] 57)).alloc (.cells #[.int .i64 (v 0)] 3)) (w.heap.size + 1) 57 (.int .i64 0) := by
    have h := (Boxed.new ((w.alloc (.cells #[.func (.func 104) #[] #[p1, p2]] 65)).drewN q) 57 (.int .i64 0)).alloc (.cells #[.int .i64 (v 0)] 3)
    simpa using h
  have b2 : Boxed ((((w.alloc (.cells #[.func (.func 104) #[] #[p1, p2]] 65)).drewN q).alloc (.cells #[.int .i64 0] 57)).alloc (.cells #[.int .i64 (v 0)] 3)) (w.heap.size + 1 + 1) 3 (.int .i64 (v 0)) := by
    have h := Boxed.new (((w.alloc (.cells #[.func (.func 104) #[] #[p1, p2]] 65)).drewN q).alloc (.cells #[.int .i64 0] 57)) 3 (.int .i64 (v 0))
    simpa using h
  have hB : Below w.heap.size w ((((w.alloc (.cells #[.func (.func 104) #[] #[p1, p2]] 65)).drewN q).alloc (.cells #[.int .i64 0] 57)).alloc (.cells #[.int .i64 (v 0)] 3)) :=
    ((below_drewN ((Below.refl _ w).alloc (Nat.le_refl _) _) q).alloc (by simp) _).alloc (by simp; omega) _
  have hsz : ((((w.alloc (.cells #[.func (.func 104) #[] #[p1, p2]] 65)).drewN q).alloc (.cells #[.int .i64 0] 57)).alloc (.cells #[.int .i64 (v 0)] 3)).heap.size = w.heap.size + 1 + 1 + 1 := by simp
  generalize (((w.alloc (.cells #[.func (.func 104) #[] #[p1, p2]] 65)).drewN q).alloc (.cells #[.int .i64 0] 57)).alloc (.cells #[.int .i64 (v 0)] 3) = W0 at b0 b1 b2 hB hsz ⊢
  refine wpIn_rangeFunc_ownG rfl (by omega) (gf := 126) (lb := #[.pointer (some ⟨w.heap.size + 1 + 1 + 1, 0, none⟩)]) rfl trivial (enters_of Tryd.func126 (by kernel_rfl) rfl)
    (HP.out Fence.wide _ trivial rfl (by omega) (w.heap.size + 1 + 1 + 1) _ (by simp [hsz]) (by rw [← hsz]; simp)) kept_t (fun W l o o' _ h ho _ => kept_b W l o o' h ho) (Below.refl _ _) (fun _ => rfl)
    (fun pre W => (Boxed W w.heap.size 65 (.func (.func 104) #[] #[p1, p2]) ∧ Boxed W (w.heap.size + 1) 57 (.int .i64 (bo (pre.map Subtype.val) : Nat)) ∧ Boxed W (w.heap.size + 1 + 1) 3 (.int .i64 (v (bo (pre.map Subtype.val))))) ∧ Below w.heap.size w W)
    (fun _ _ _ => False)
    (OwnFrom.and (OwnFrom.and (Own.from (boxed_own _ _ _) _) (OwnFrom.and (Own.from (boxed_own _ _ _) _) (Own.from (boxed_own _ _ _) _))) (ownFrom_below (Nat.le_refl _) (by simp; omega)))
    (fun _ _ _ _ _ hs _ _ => hs)
    ⟨⟨b0.alloc _, by simp only [List.map_nil, HB0.out]; exact b1.alloc _, by simp only [List.map_nil, HB0.out]; exact b2.alloc _⟩, hB.alloc hB.size _⟩
    (fun x => { tmps := #[.int .i64 S, .func (.func 104) #[] #[p1, p2], undef, .pointer (some ⟨w.heap.size, 0, none⟩), .int .i64 0, .int .i64 0, .pointer (some ⟨w.heap.size + 1, 0, none⟩), .pointer (some ⟨w.heap.size + 1 + 1, 0, none⟩), .int .i64 x.1, undef, .func (.func 104) #[] #[p1, p2], .int .i64 (v 0), .int .i64 S, .func (.func 126) #[] #[.pointer (some ⟨w.heap.size + 1 + 1 + 1, 0, none⟩)], .int .i64 x.1, undef, undef, undef, undef, undef, undef, undef, undef, undef, undef], defers := [] }) ?assign ?body ?done ?stop
  case assign =>
    intro l x W K hK
    gi_wp2
    exact hK
  case body =>
    rintro l pre x W ⟨⟨c0, c1, c2⟩, hB⟩ hlt
    obtain ⟨x, hx⟩ := x
    have HC := Lib.hid (fun W hW => hv.out x hx W hW)
    have hs := HX.out (pre.map Subtype.val) x
    have hm : (pre ++ [(⟨x, hx⟩ : Part S)]).map Subtype.val = pre.map Subtype.val ++ [x] := by simp
    generalize hb : bo (pre.map Subtype.val) = b at *
    have HM := Lib.hid (hm ▸ hs : bo ((pre ++ [(⟨x, hx⟩ : Part S)]).map Subtype.val) = if v x < v b then x else b)
    have d0 := c0.cell
    have d1 := c1.cell
    have d2 := c2.cell
    have f1 := c1.frozen
    have f2 := c2.frozen
    have hd : 1 ≤ 4 - 1 - 1 := by omega
    have HC0 := Lib.hid c0
    have HC1 := Lib.hid c1
    have HC2 := Lib.hid c2
    have HB := Lib.hid hB
    clear c0 c1 c2 hB b0 b1 b2 hs hm
    by_cases hlt2 : v x < v b
    · gi_wp2_with (refine ⟨trivial, ?_⟩; gi_at_call 104; refine (CallsIn.inRound l (callsIn_wide.2 (HC.out _ HB.out))).mono ?_; rintro e w1 ⟨rfl, q, rfl⟩)
      refine ⟨((C.KeepsOthers.drewN W q).trans ((KeepsOthers.setCell _ _ _).trans (KeepsOthers.setCell _ _ _))).from _, fun hc => ?_, ⟨⟨?_, ?_, ?_⟩, ?_⟩⟩
      · exact (World.cell?_setCell_other (a := ⟨w.heap.size + 1 + 1, 0, none⟩) (b := ⟨w.heap.size + 1 + 1 + 1, 0, none⟩) _ _ (fun e => by injection e; omega)).trans ((World.cell?_setCell_other (a := ⟨w.heap.size + 1, 0, none⟩) (b := ⟨w.heap.size + 1 + 1 + 1, 0, none⟩) _ _ (fun e => by injection e; omega)).trans hc)
      · exact ((show Boxed (W.drewN q) _ _ _ from HC0.out).other (by omega) _).other (by omega) _
      · rw [HM.out, if_pos hlt2]
        exact ((show Boxed (W.drewN q) _ _ _ from HC1.out).set _).other (by omega) _
      · rw [HM.out, if_pos hlt2]
        exact ((show Boxed (W.drewN q) _ _ _ from HC2.out).other (by omega) _).set _
      · exact ((below_drewN HB.out q).setCell (p := ⟨w.heap.size + 1, 0, none⟩) (by simp) _).setCell (p := ⟨w.heap.size + 1 + 1, 0, none⟩) (by simp; omega) _
    · gi_wp2_with (refine ⟨trivial, ?_⟩; gi_at_call 104; refine (CallsIn.inRound l (callsIn_wide.2 (HC.out _ HB.out))).mono ?_; rintro e w1 ⟨rfl, q, rfl⟩)
      refine ⟨(C.KeepsOthers.drewN W q).from _, fun hc => hc, ⟨⟨HC0.out, ?_, ?_⟩, below_drewN HB.out q⟩⟩
      · rw [HM.out, if_neg (by omega)]
        exact HC1.out
      · rw [HM.out, if_neg (by omega)]
        exact HC2.out
  case done =>
    rintro D ys W hD rfl ⟨⟨c0, c1, c2⟩, hB⟩ hK
    rw [HF.out] at c1 c2
    have d1 := c1.cell
    have d2 := c2.cell
    clear c0 c1 c2 b0 b1 b2
    have hD' : D < W.heap.size := (Array.getElem?_eq_some_iff.1 hK).1
    gi_wp2
    gi_region
    all_goals gi_wp2
    refine ⟨by simp, .inl ⟨_, _, rfl, run_takeDeferred (show W.drew.heap[D]? = _ from hK), ?_⟩⟩
    refine ⟨_, ?_, rfl, hB.drew.trans (belowK_b (w := w) (Nat.le_refl _) W.drew D _ _ (by simp at hD; omega) hK rfl rfl)⟩
    simp [results, Tryd.results103, go_sem]
  case stop =>
    rintro D c pre W _ _ h _
    exact h.elim


end Go.Proofs.YtfpoiiennlhphaaDoor.C

namespace Go.Proofs.YtfpoiiennlhphaaDoor.C
open Go.RowKit K M
set_option linter.unusedVariables false
set_option linter.unusedSimpArgs false

/-- What two functions' closures give, whatever is made behind w. -/
structure Pair (w : World) (m : Nat) (xs ys : List Int) (fb gb : Nat) : Prop where
  one : ∀ x, x < m → ∀ W, Below w.heap.size w W → Calls Tryd.prog 121 #[.int .i64 (x : Nat), .pointer (some ⟨fb, 0, none⟩)] W (Gives W (xs.getD x 0))
  two : ∀ x, x < m → ∀ W, Below w.heap.size w W → Calls Tryd.prog 122 #[.int .i64 (x : Nat), .pointer (some ⟨gb, 0, none⟩)] W (Gives W (ys.getD x 0))
  le32 : m ≤ 32
  bd1 : ∀ x, x < m → -1000 ≤ xs.getD x 0 ∧ xs.getD x 0 ≤ 1000
  bd2 : ∀ x, x < m → -1000 ≤ ys.getD x 0 ∧ ys.getD x 0 ≤ 1000
theorem Pair.below {w w' : World} {m : Nat} {xs ys : List Int} {fb gb : Nat} (h : Pair w m xs ys fb gb) (hb : Below w.heap.size w w') : Pair w' m xs ys fb gb :=
  ⟨fun x hx W hW => h.one x hx W (hb.trans (hW.mono hb.size)), fun x hx W hW => h.two x hx W (hb.trans (hW.mono hb.size)), h.le32, h.bd1, h.bd2⟩

abbrev f1 (fb : Nat) : Value := .func (.func 121) #[] #[.pointer (some ⟨fb, 0, none⟩)]
abbrev f2 (gb : Nat) : Value := .func (.func 122) #[] #[.pointer (some ⟨gb, 0, none⟩)]

set_option maxRecDepth 100000 in
set_option maxHeartbeats 1600000 in
theorem splitI (S m : Nat) (xs ys : List Int) (fb gb : Nat) (w : World) (hS : S < m) (hp : Hid (Pair w m xs ys fb gb)) :
    Calls Tryd.prog 97 #[.agg #[f1 fb, f2 gb], .int .i64 S] w fun e w' => e = .returned (.tuple #[.int .i64 (split xs ys S : Nat), .int .i64 (convV xs ys S)]) ∧ Below w.heap.size w w' := by
  have h32 := hp.out.le32
  have hS32 : S < 32 := by omega
  have HL := Lib.hid (fun p1 p2 W hh => least_split_any S hS32 (partV xs ys S) p1 p2 W hh)
  have hr : leastTo (partV xs ys S) S S = split xs ys S := least_split xs ys S S
  have hv : partV xs ys S (split xs ys S) = convV xs ys S := rfl
  rw [hr, hv] at HL
  generalize split xs ys S = r at HL ⊢
  generalize convV xs ys S = u at HL ⊢
  clear hr hv
  have HV := Lib.hid (fun x => show partV xs ys S x = xs.getD x 0 + ys.getD (S - x) 0 from rfl)
  generalize partV xs ys S = v at HL HV
  have HW := Lib.hid (St.start w)
  have hmf : ∀ (fn : Fn) (first cap : Array Value) (w : World), (Instr.makeFunc fn first cap).run Tryd.prog w = .ok (.func fn first cap) w := fun _ _ _ _ => rfl
  go_enter Tryd.func97, Tryd.ntmps97
  go_wp2_with fail
  refine St.use (w0 := w) (by exact (HW.out.alloc _ _).alloc _ _) ?_
  intro hS1
  simp only [World.size_alloc] at hS1
  have HS1 := Lib.hid hS1
  clear hS1
  refine (HL.out _ _ _ ?_).mono ?_
  · refine Lib.hid ?_
    intro x hx W hW
    have hle := and_le_of hx
    have hW1 := HS1.out.below hW
    rw [HV.out]
    obtain ⟨a1, a2⟩ := hp.out.bd1 x (by omega)
    obtain ⟨b1, b2⟩ := hp.out.bd2 (S - x) (by omega)
    exact splitC _ _ S x (S - x) _ _ fb gb W a1 a2 b1 b2 (xor_part S hS32 x (by omega) hx) ((hW1.box (i := 1) rfl).1 0 _ rfl) ((hW1.box (i := 1) rfl).1 1 _ rfl) ((hW1.box (i := 0) rfl).1 0 _ rfl)
      (Lib.hid fun k => hp.out.one x (by omega) _ (below_drewN hW1.base k)) (Lib.hid fun k => hp.out.two (S - x) (by omega) _ (below_drewN hW1.base k))
  rintro e w2 ⟨rfl, hb⟩
  have HS2 := Lib.hid (HS1.out.below hb)
  clear hb
  go_wp2
  exact bodyPost_ret (v := .tuple #[.int .i64 (r : Nat), .int .i64 u]) (by simp [results, Tryd.results97, go_sem]) rfl ⟨rfl, HS2.out.base⟩

set_option maxRecDepth 100000 in
set_option maxHeartbeats 1600000 in
theorem convF (S m : Nat) (xs ys : List Int) (fb gb cb : Nat) (w : World) (hS : S < m) (hp : Hid (Pair w m xs ys fb gb)) (h0 : w.cell? ⟨cb, 0, none⟩ = some (f1 fb)) (h1 : w.cell? ⟨cb, 1, none⟩ = some (f2 gb)) :
    Calls Tryd.prog 96 #[.int .i64 S, .pointer (some ⟨cb, 0, none⟩)] w (RetV w (.int .i64 (convV xs ys S))) := by
  have HS := Lib.hid (splitI S m xs ys fb gb w hS hp)
  generalize split xs ys S = r at HS
  generalize convV xs ys S = u at HS ⊢
  go_enter Tryd.func96, Tryd.ntmps96
  go_wp2_with fail
  refine HS.out.mono ?_
  rintro e w2 ⟨rfl, hb⟩
  have HB := Lib.hid hb
  clear hb
  go_wp2
  go_ret
  exact ⟨rfl, HB.out⟩

set_option maxRecDepth 100000 in
set_option maxHeartbeats 1600000 in
theorem hullF (N s : Nat) (A : Option Addr) (xs : List Int) (cap fb : Nat) (w0 w : World) (h5 : N ≤ 5) (hl : xs.length = 2 ^ N) (hs : s < 2 ^ N) (h : Hid (Ints w0 w0.heap.size A xs)) (hb : Hid (Below w0.heap.size w0 w)) (h0 : w.cell? ⟨fb, 0, none⟩ = some (.int .i64 N)) (h1 : w.cell? ⟨fb, 1, none⟩ = some (.slice A xs.length cap)) (hfb : fb < w.heap.size) :
    Calls Tryd.prog 102 #[.int .i64 s, .pointer (some ⟨fb, 0, none⟩)] w (RetV w (.int .i64 (hullV xs s))) := by
  have h32 : 2 ^ N ≤ 32 := Nat.le_trans (Nat.pow_le_pow_right (by decide) h5) (by decide)
  have hcl : compl N s < 2 ^ N := by unfold compl; have := Nat.two_pow_pos N; omega
  have HL := Lib.hid (fun p1 p2 W hh => least_hull_any (compl N s) (by omega) (supV xs s) p1 p2 W hh)
  have hv := hull_least h5 hl hs
  rw [hv] at HL
  generalize leastTo (supV xs s) (compl N s) (compl N s) = r at HL
  generalize hullV xs s = u at HL ⊢
  clear hv
  have HC := Lib.hid (fun W => complI N s W h5 hs)
  have HV := Lib.hid (fun x => show supV xs s x = xs.getD (s ||| x) 0 from rfl)
  have HO := Lib.hid (fun x (hx : x &&& compl N s = x) => show s ||| x < 2 ^ N ∧ x ≤ compl N s from ⟨Nat.or_lt_two_pow hs (Nat.lt_of_le_of_lt (and_le_of hx) hcl), and_le_of hx⟩)
  generalize supV xs s = v at HL HV
  generalize compl N s = c at HL HC HO hcl
  have HX := Lib.hid h1
  have HW := Lib.hid (St.start w)
  have hmf : ∀ (fn : Fn) (first cap : Array Value) (w : World), (Instr.makeFunc fn first cap).run Tryd.prog w = .ok (.func fn first cap) w := fun _ _ _ _ => rfl
  go_enter Tryd.func102, Tryd.ntmps102
  go_wp2_with (go_at_call 75; refine (HC.out _).mono ?_; rintro e w1 ⟨rfl, rfl⟩)
  refine St.use (w0 := w) (by exact HW.out.alloc _ _) ?_
  intro hS1
  have HS1 := Lib.hid hS1
  clear hS1
  refine (HL.out _ _ _ ?_).mono ?_
  · refine Lib.hid ?_
    intro x hx W hW
    obtain ⟨hq, hxc⟩ := HO.out x hx
    have hW1 := HS1.out.below hW
    obtain ⟨b, off, rfl, hbl, hc⟩ := h.out.at_ (k := s ||| x) (by omega)
    rw [HV.out]
    exact hullC _ s x (s ||| x) fb _ b off xs.length cap W (by omega) (by rw [or_num x (by omega) s (by omega), Nat.or_comm]) ((hW1.base.cell (p := ⟨fb, 1, none⟩) hfb).trans HX.out) ((hW1.box (i := 0) rfl).1 0 _ rfl) (((hb.out.trans (hW1.base.mono hb.out.size)).cell (p := ⟨b, off + (s ||| x), none⟩) hbl).trans hc)
  rintro e w2 ⟨rfl, hb2⟩
  have HS2 := Lib.hid (HS1.out.below hb2)
  clear hb2
  go_wp2
  go_ret
  exact ⟨rfl, HS2.out.base⟩

set_option maxRecDepth 100000 in
theorem truncF (k x : Int) (s : Nat) (kb fb b off m cap : Nat) (w : World) (hs : s < m) (hk : w.cell? ⟨kb, 0, none⟩ = some (.int .i64 k)) (hf : w.cell? ⟨fb, 1, none⟩ = some (.slice (some ⟨b, off, none⟩) m cap)) (hc : w.cell? ⟨b, off + s, none⟩ = some (.int .i64 x)) :
    Calls Tryd.prog 105 #[.int .i64 s, .pointer (some ⟨kb, 0, none⟩), .pointer (some ⟨fb, 0, none⟩)] w (RetV w (.int .i64 (min k x))) := by
  have hs0 : (0 : Int) ≤ (s : Int) := by omega
  have hsm : (s : Int) < (m : Int) := by omega
  rcases Int.lt_or_le x k with hlt | hlt
  · rw [Int.min_eq_right (by omega)]
    go_enter Tryd.func105, Tryd.ntmps105
    go_wp2
    go_region
    go_wp2
    go_ret
    exact ⟨rfl, (Below.refl _ _).drew⟩
  · rw [Int.min_eq_left hlt]
    have hle : ¬ x < k := by omega
    go_enter Tryd.func105, Tryd.ntmps105
    go_wp2
    go_region
    go_wp2
    go_ret
    exact ⟨rfl, (Below.refl _ _).drew⟩


end Go.Proofs.YtfpoiiennlhphaaDoor.C

namespace Go.Proofs.YtfpoiiennlhphaaDoor.C
open Go.RowKit K M
set_option linter.unusedVariables false
set_option linter.unusedSimpArgs false

def RetNo (w : World) (e : Ending) (w' : World) : Prop := e = .returned (.tuple #[.agg #[.nilFunc, .nilFunc], .bool false]) ∧ Below w.heap.size w w'
def RetPair (w : World) (xs ys : List Int) (e : Ending) (w' : World) : Prop := ∃ fb gb, e = .returned (.tuple #[.agg #[f1 fb, f2 gb], .bool true]) ∧ Pair w' xs.length xs ys fb gb ∧ Below w.heap.size w w'


section

variable (n : Int) (A : Option Addr) (xs : List Int) (cap : Nat) (m : Int) (D : Option Addr) (ys : List Int) (dap : Nat) (w : World) (h : Hid (Ints w w.heap.size A xs)) (g : Hid (Ints w w.heap.size D ys))
include h g

omit g in
set_option maxRecDepth 100000 in
set_option maxHeartbeats 1600000 in
theorem cvOf_bad1 (hf : isFn n xs = false) :
    Calls Tryd.prog 95 #[.agg #[.int .i64 n, .slice A xs.length cap], .agg #[.int .i64 m, .slice D ys.length dap]] w (RetNo w) := by
  have HF := Lib.hid hf
  clear hf
  have HW := Lib.hid (St.start w)
  have hmf : ∀ (fn : Fn) (first cap : Array Value) (w : World), (Instr.makeFunc fn first cap).run Tryd.prog w = .ok (.func fn first cap) w := fun _ _ _ _ => rfl
  go_enter Tryd.func95, Tryd.ntmps95
  go_wp2_with fail
  refine St.use (w0 := w) (by exact ((HW.out.alloc _ _).alloc _ _).alloc _ _) ?_
  intro hS
  simp only [World.size_alloc] at hS
  refine (isFnI_no n A xs cap _ (Lib.hid ((h.out.below hS.base).mono hS.size)) HF.out).mono ?_
  rintro e w1 ⟨rfl, hb⟩
  have hS1 := hS.below hb
  obtain ⟨r1, rf⟩ := hS1.box (i := 0) rfl
  have r10 := r1 0 _ rfl
  have r11 := r1 1 _ rfl
  have rf0 := rf 0
  have rf1 := rf 1
  clear r1 rf
  clear hS hb
  have HS1 := Lib.hid hS1
  clear hS1
  go_wp2
  have hZ := (HS1.out.store (i := 0) rfl 0 .nilFunc).store (i := 0) rfl 1 .nilFunc
  exact bodyPost_ret (v := .tuple #[.agg #[.nilFunc, .nilFunc], .bool false]) (by simp [results, Tryd.results95, go_sem, r10, r11, rf0, rf1]) rfl ⟨rfl, hZ.base⟩

set_option maxRecDepth 100000 in
set_option maxHeartbeats 1600000 in
theorem cvOf_bad2 (hf : isFn n xs = true) (hg : isFn m ys = false) :
    Calls Tryd.prog 95 #[.agg #[.int .i64 n, .slice A xs.length cap], .agg #[.int .i64 m, .slice D ys.length dap]] w (RetNo w) := by
  have HF := Lib.hid hf
  have HG := Lib.hid hg
  clear hf hg
  have HW := Lib.hid (St.start w)
  have hmf : ∀ (fn : Fn) (first cap : Array Value) (w : World), (Instr.makeFunc fn first cap).run Tryd.prog w = .ok (.func fn first cap) w := fun _ _ _ _ => rfl
  go_enter Tryd.func95, Tryd.ntmps95
  go_wp2_with fail
  refine St.use (w0 := w) (by exact ((HW.out.alloc _ _).alloc _ _).alloc _ _) ?_
  intro hS
  simp only [World.size_alloc] at hS
  refine (isFnI_yes n A xs cap _ (Lib.hid ((h.out.below hS.base).mono hS.size)) HF.out).mono ?_
  rintro e w1 ⟨rfl, hb⟩
  have hS1 := hS.below hb
  obtain ⟨b, -⟩ := hS1.box (i := 2) rfl
  have b0 := b 0 _ rfl
  have b1 := b 1 _ rfl
  clear b
  obtain ⟨c, -⟩ := hS1.box (i := 1) rfl
  have c0 := c 0 _ rfl
  have c1 := c 1 _ rfl
  clear c
  clear hS hb
  have HS1 := Lib.hid hS1
  clear hS1
  go_wp2_with fail
  have hS := HS1.out
  refine (isFnI_no m D ys dap _ (Lib.hid ((g.out.below hS.base).mono hS.size)) HG.out).mono ?_
  rintro e w2 ⟨rfl, hb⟩
  have hS1 := hS.below hb
  clear b0 b1 c0 c1
  obtain ⟨r1, rf⟩ := hS1.box (i := 0) rfl
  have r10 := r1 0 _ rfl
  have r11 := r1 1 _ rfl
  have rf0 := rf 0
  have rf1 := rf 1
  clear r1 rf
  clear hS hb
  have HS2 := Lib.hid hS1
  clear hS1
  go_wp2
  have hZ := (HS2.out.store (i := 0) rfl 0 .nilFunc).store (i := 0) rfl 1 .nilFunc
  exact bodyPost_ret (v := .tuple #[.agg #[.nilFunc, .nilFunc], .bool false]) (by simp [results, Tryd.results95, go_sem, r10, r11, rf0, rf1]) rfl ⟨rfl, hZ.base⟩

set_option maxRecDepth 100000 in
set_option maxHeartbeats 1600000 in
theorem cvOf_ne (hf : isFn n xs = true) (hg : isFn m ys = true) (hn : n ≠ m) :
    Calls Tryd.prog 95 #[.agg #[.int .i64 n, .slice A xs.length cap], .agg #[.int .i64 m, .slice D ys.length dap]] w (RetNo w) := by
  have hb1 : (n == m) = false := beq_eq_false_iff_ne.2 hn
  have hb2 : (n != m) = true := bne_iff_ne.2 hn
  have HF := Lib.hid hf
  have HG := Lib.hid hg
  clear hf hg hn
  have HW := Lib.hid (St.start w)
  have hmf : ∀ (fn : Fn) (first cap : Array Value) (w : World), (Instr.makeFunc fn first cap).run Tryd.prog w = .ok (.func fn first cap) w := fun _ _ _ _ => rfl
  go_enter Tryd.func95, Tryd.ntmps95
  go_wp2_with fail
  refine St.use (w0 := w) (by exact ((HW.out.alloc _ _).alloc _ _).alloc _ _) ?_
  intro hS
  simp only [World.size_alloc] at hS
  refine (isFnI_yes n A xs cap _ (Lib.hid ((h.out.below hS.base).mono hS.size)) HF.out).mono ?_
  rintro e w1 ⟨rfl, hb⟩
  have hS1 := hS.below hb
  obtain ⟨b, -⟩ := hS1.box (i := 2) rfl
  have b0 := b 0 _ rfl
  have b1 := b 1 _ rfl
  clear b
  obtain ⟨c, -⟩ := hS1.box (i := 1) rfl
  have c0 := c 0 _ rfl
  have c1 := c 1 _ rfl
  clear c
  clear hS hb
  have HS1 := Lib.hid hS1
  clear hS1
  go_wp2_with fail
  have hS := HS1.out
  refine (isFnI_yes m D ys dap _ (Lib.hid ((g.out.below hS.base).mono hS.size)) HG.out).mono ?_
  rintro e w2 ⟨rfl, hb⟩
  have hS1 := hS.below hb
  clear b0 b1 c0 c1
  obtain ⟨b, -⟩ := hS1.box (i := 2) rfl
  have b0 := b 0 _ rfl
  have b1 := b 1 _ rfl
  clear b
  obtain ⟨c, -⟩ := hS1.box (i := 1) rfl
  have c0 := c 0 _ rfl
  have c1 := c 1 _ rfl
  clear c
  obtain ⟨r1, rf⟩ := hS1.box (i := 0) rfl
  have r10 := r1 0 _ rfl
  have r11 := r1 1 _ rfl
  have rf0 := rf 0
  have rf1 := rf 1
  clear r1 rf
  clear hS hb
  have HS2 := Lib.hid hS1
  clear hS1
  go_wp2
  have hZ := (HS2.out.store (i := 0) rfl 0 .nilFunc).store (i := 0) rfl 1 .nilFunc
  exact bodyPost_ret (v := .tuple #[.agg #[.nilFunc, .nilFunc], .bool false]) (by simp [results, Tryd.results95, go_sem, r10, r11, rf0, rf1]) rfl ⟨rfl, hZ.base⟩

theorem cvOf_no (hf : fits n xs m ys = false) :
    Calls Tryd.prog 95 #[.agg #[.int .i64 n, .slice A xs.length cap], .agg #[.int .i64 m, .slice D ys.length dap]] w (RetNo w) := by
  unfold fits at hf
  cases h1 : isFn n xs
  · exact cvOf_bad1 n A xs cap m D ys dap w h h1
  · cases h2 : isFn m ys
    · exact cvOf_bad2 n A xs cap m D ys dap w h g h1 h2
    · exact cvOf_ne n A xs cap m D ys dap w h g h1 h2 (by rw [h1, h2] at hf; simpa using hf)


end


set_option maxRecDepth 100000 in
set_option maxHeartbeats 1600000 in
theorem cvOf_yes (n : Int) (A : Option Addr) (xs : List Int) (cap : Nat) (D : Option Addr) (ys : List Int) (dap : Nat) (w : World) (h : Hid (Ints w w.heap.size A xs)) (g : Hid (Ints w w.heap.size D ys)) (hf : isFn n xs = true) (hg : isFn n ys = true) :
    Calls Tryd.prog 95 #[.agg #[.int .i64 n, .slice A xs.length cap], .agg #[.int .i64 n, .slice D ys.length dap]] w (RetPair w xs ys) := by
  obtain ⟨h0, h5, hl, hv⟩ := isFn_yes hf
  have hm := (isFn_len hf).2
  have HF := Lib.hid hf
  have HV := Lib.hid hv
  obtain ⟨_, _, hyl, hv2⟩ := isFn_yes hg
  rw [← hl] at hyl
  have HG := Lib.hid hg
  have HY := Lib.hid hyl
  have HV2 := Lib.hid hv2
  clear hf hv hl hg hyl hv2
  have HW := Lib.hid (St.start w)
  have hmf : ∀ (fn : Fn) (first cap : Array Value) (w : World), (Instr.makeFunc fn first cap).run Tryd.prog w = .ok (.func fn first cap) w := fun _ _ _ _ => rfl
  go_enter Tryd.func95, Tryd.ntmps95
  go_wp2_with fail
  refine St.use (w0 := w) (by exact ((HW.out.alloc _ _).alloc _ _).alloc _ _) ?_
  intro hS
  simp only [World.size_alloc] at hS
  refine (isFnI_yes n A xs cap _ (Lib.hid ((h.out.below hS.base).mono hS.size)) HF.out).mono ?_
  rintro e w1 ⟨rfl, hb⟩
  have hS1 := hS.below hb
  obtain ⟨b, -⟩ := hS1.box (i := 2) rfl
  have b0 := b 0 _ rfl
  have b1 := b 1 _ rfl
  clear b
  obtain ⟨c, -⟩ := hS1.box (i := 1) rfl
  have c0 := c 0 _ rfl
  have c1 := c 1 _ rfl
  clear c
  clear hS hb
  have HS1 := Lib.hid hS1
  clear hS1
  go_wp2_with fail
  have hS := HS1.out
  refine (isFnI_yes n D ys dap _ (Lib.hid ((g.out.below hS.base).mono hS.size)) HG.out).mono ?_
  rintro e w2 ⟨rfl, hb⟩
  have hS1 := hS.below hb
  clear b0 b1 c0 c1
  obtain ⟨b, -⟩ := hS1.box (i := 2) rfl
  have b0 := b 0 _ rfl
  have b1 := b 1 _ rfl
  clear b
  obtain ⟨c, -⟩ := hS1.box (i := 1) rfl
  have c0 := c 0 _ rfl
  have c1 := c 1 _ rfl
  clear c
  obtain ⟨r1, rf⟩ := hS1.box (i := 0) rfl
  have r10 := r1 0 _ rfl
  have r11 := r1 1 _ rfl
  have rf0 := rf 0
  have rf1 := rf 1
  clear r1 rf
  clear hS hb
  have HS2 := Lib.hid hS1
  clear hS1
  go_wp2
  have hZ := (HS2.out.store (i := 0) rfl 0 (f1 w.heap.size)).store (i := 0) rfl 1 (f2 (w.heap.size + 1))
  refine bodyPost_ret (v := .tuple #[.agg #[f1 w.heap.size, f2 (w.heap.size + 1)], .bool true]) (by simp [results, Tryd.results95, go_sem, r10, r11, rf0, rf1]) rfl ⟨_, _, rfl, ⟨fun x hx W hW => ?_, fun x hx W hW => ?_, hm, HV.out, fun x hx => HV2.out x (by rw [HY.out]; exact hx)⟩, hZ.base⟩
  · obtain ⟨b, off, rfl, hbl, hc⟩ := h.out.at_ (k := x) hx
    have hW1 := hZ.below hW
    exact conv1C _ x _ b off xs.length cap W hx ((hW1.box (i := 2) rfl).1 1 _ rfl) ((hW1.base.cell (p := ⟨b, off + x, none⟩) hbl).trans hc)
  · obtain ⟨b, off, rfl, hbl, hc⟩ := g.out.at_ (k := x) (by rw [HY.out]; exact hx)
    have hW1 := hZ.below hW
    exact conv2C _ x _ b off ys.length dap W (by rw [HY.out]; exact hx) ((hW1.box (i := 1) rfl).1 1 _ rfl) ((hW1.base.cell (p := ⟨b, off + x, none⟩) hbl).trans hc)

set_option maxRecDepth 100000 in
set_option maxHeartbeats 1600000 in
theorem convI_no (n : Int) (A : Option Addr) (xs : List Int) (cap : Nat) (m : Int) (D : Option Addr) (ys : List Int) (dap : Nat) (w : World) (h : Hid (Ints w w.heap.size A xs)) (g : Hid (Ints w w.heap.size D ys)) (hf : fits n xs m ys = false) :
    Calls Tryd.prog 35 #[.agg #[.int .i64 n, .slice A xs.length cap], .agg #[.int .i64 m, .slice D ys.length dap]] w (RetFB w 0 [] false) := by
  have HF := Lib.hid hf
  clear hf
  have HW := Lib.hid (St.start w)
  have hmf : ∀ (fn : Fn) (first cap : Array Value) (w : World), (Instr.makeFunc fn first cap).run Tryd.prog w = .ok (.func fn first cap) w := fun _ _ _ _ => rfl
  go_enter Tryd.func35, Tryd.ntmps35
  go_wp2_with fail
  refine St.use (w0 := w) (by exact ((HW.out.alloc _ _).alloc _ _).alloc _ _) ?_
  intro hS
  simp only [World.size_alloc] at hS
  refine (cvOf_no n A xs cap m D ys dap _ (Lib.hid ((h.out.below hS.base).mono hS.size)) (Lib.hid ((g.out.below hS.base).mono hS.size)) HF.out).mono ?_
  rintro e w1 ⟨rfl, hb⟩
  have hS1 := hS.below hb
  obtain ⟨r1, rf⟩ := hS1.box (i := 0) rfl
  have r10 := r1 0 _ rfl
  have r11 := r1 1 _ rfl
  have rf0 := rf 0
  have rf1 := rf 1
  clear r1 rf
  have hlt := (hS1.lt (i := 0) rfl).2
  clear hS hb
  have HS1 := Lib.hid hS1
  clear hS1
  go_wp2
  have hZ := ((HS1.out.store (i := 0) rfl 0 (.int .i64 0)).store (i := 0) rfl 1 (.slice none 0 0)).alloc [.nilFunc, .nilFunc] 77
  exact bodyPost_ret (v := .tuple #[.agg #[.int .i64 0, .slice none 0 0], .bool false]) (by simp [results, Tryd.results35, go_sem, r10, r11, rf0, rf1, hlt]) rfl ⟨none, 0, rfl, K.Own.nil _ _, hZ.base⟩

set_option maxRecDepth 100000 in
set_option maxHeartbeats 1600000 in
theorem convI_yes (n : Int) (A : Option Addr) (xs : List Int) (cap : Nat) (D : Option Addr) (ys : List Int) (dap : Nat) (w : World) (h : Hid (Ints w w.heap.size A xs)) (g : Hid (Ints w w.heap.size D ys)) (hf : isFn n xs = true) (hg : isFn n ys = true) :
    Calls Tryd.prog 35 #[.agg #[.int .i64 n, .slice A xs.length cap], .agg #[.int .i64 n, .slice D ys.length dap]] w (RetFB w (made n (tab xs.length (convV xs ys))).1 (made n (tab xs.length (convV xs ys))).2.1 (made n (tab xs.length (convV xs ys))).2.2) := by
  have HF := Lib.hid hf
  have HG := Lib.hid hg
  obtain ⟨h0, h5, hl, hv⟩ := isFn_yes hf
  have HL := Lib.hid hl
  obtain ⟨rn, rx, rb, hr⟩ : ∃ rn rx rb, made n (tab xs.length (convV xs ys)) = (rn, rx, rb) := ⟨_, _, _, rfl⟩
  rw [hr]
  have HR := Lib.hid hr
  clear hf hg hl hv hr
  have HW := Lib.hid (St.start w)
  have hmf : ∀ (fn : Fn) (first cap : Array Value) (w : World), (Instr.makeFunc fn first cap).run Tryd.prog w = .ok (.func fn first cap) w := fun _ _ _ _ => rfl
  go_enter Tryd.func35, Tryd.ntmps35
  go_wp2_with fail
  refine St.use (w0 := w) (by exact ((HW.out.alloc _ _).alloc _ _).alloc _ _) ?_
  intro hS
  simp only [World.size_alloc] at hS
  refine (cvOf_yes n A xs cap D ys dap _ (Lib.hid ((h.out.below hS.base).mono hS.size)) (Lib.hid ((g.out.below hS.base).mono hS.size)) HF.out HG.out).mono ?_
  rintro e w1 ⟨fb, gb, rfl, hp, hb⟩
  have hS1 := hS.below hb
  obtain ⟨b, -⟩ := hS1.box (i := 2) rfl
  have b0 := b 0 _ rfl
  have b1 := b 1 _ rfl
  clear b
  have bl := (hS1.lt (i := 2) rfl).2
  have HP := Lib.hid hp
  clear hp
  clear hS hb
  have HS1 := Lib.hid hS1
  clear hS1
  go_wp2_with fail
  refine St.use (w0 := w) (by exact HS1.out.alloc [f1 fb, f2 gb] 77) ?_
  intro hS3
  have HS3 := Lib.hid hS3
  clear hS3
  refine (make_conv n xs.length (convV xs ys) _ _ h0 h5 HL.out rn rx rb HR ?_).mono ?_
  · refine Lib.hid ?_
    intro j hj W hW
    have hS := HS3.out.below hW
    exact convF j xs.length xs ys fb gb _ W hj (Lib.hid (HP.out.below (((Below.refl _ w1).alloc (Nat.le_refl _) _).trans (hW.mono (by simp))))) ((hS.box (i := 0) rfl).1 0 _ rfl) ((hS.box (i := 0) rfl).1 1 _ rfl)
  rintro e w3 ⟨B, d, rfl, ho, hb⟩
  have hS4 := HS3.out.newI hb ho
  obtain ⟨r1, rf⟩ := hS4.box (i := 2) rfl
  have s10 := r1 0 _ rfl
  have s11 := r1 1 _ rfl
  have sf0 := rf 0
  have sf1 := rf 1
  have HS4 := Lib.hid hS4
  clear r1 rf hb ho hS4
  go_wp2
  have hZ := (HS4.out.store (i := 2) rfl 0 (.int .i64 rn)).store (i := 2) rfl 1 (.slice B rx.length d)
  exact bodyPost_ret (v := .tuple #[.agg #[.int .i64 rn, .slice B rx.length d], .bool rb]) (by simp [results, Tryd.results35, go_sem, s10, s11, sf0, sf1]) rfl ⟨B, d, rfl, hZ.ownI (i := 0) rfl, hZ.base⟩

theorem convI_any (n : Int) (A : Option Addr) (xs : List Int) (cap : Nat) (m : Int) (D : Option Addr) (ys : List Int) (dap : Nat) (w : World) (h : Hid (Ints w w.heap.size A xs)) (g : Hid (Ints w w.heap.size D ys)) :
    Calls Tryd.prog 35 #[.agg #[.int .i64 n, .slice A xs.length cap], .agg #[.int .i64 m, .slice D ys.length dap]] w (RetFB w (convFn n xs m ys).1 (convFn n xs m ys).2.1 (convFn n xs m ys).2.2) := by
  cases hf : fits n xs m ys
  · unfold convFn
    rw [if_neg (by rw [hf]; simp)]
    exact convI_no n A xs cap m D ys dap w h g hf
  · unfold convFn
    rw [if_pos hf]
    obtain ⟨h1, h2, rfl⟩ := fits_yes hf
    exact convI_yes n A xs cap D ys dap w h g h1 h2

-- splits
set_option maxRecDepth 100000 in
set_option maxHeartbeats 1600000 in
theorem splitOfI_no (n : Int) (A : Option Addr) (xs : List Int) (cap : Nat) (m : Int) (D : Option Addr) (ys : List Int) (dap : Nat) (s : Int) (w : World) (h : Hid (Ints w w.heap.size A xs)) (g : Hid (Ints w w.heap.size D ys)) (hf : fits n xs m ys = false) :
    Calls Tryd.prog 37 #[.agg #[.int .i64 n, .slice A xs.length cap], .agg #[.int .i64 m, .slice D ys.length dap], .int .i64 s] w (RetV w (.tuple #[.int .i64 0, .bool false])) := by
  have HF := Lib.hid hf
  clear hf
  have HW := Lib.hid (St.start w)
  go_enter Tryd.func37, Tryd.ntmps37
  go_wp2_with fail
  refine St.use (w0 := w) (by exact (HW.out.alloc _ _).alloc _ _) ?_
  intro hS
  simp only [World.size_alloc] at hS
  refine (cvOf_no n A xs cap m D ys dap _ (Lib.hid ((h.out.below hS.base).mono hS.size)) (Lib.hid ((g.out.below hS.base).mono hS.size)) HF.out).mono ?_
  rintro e w1 ⟨rfl, hb⟩
  have HS1 := Lib.hid (hS.below hb)
  clear hS hb
  go_wp2
  have hZ := HS1.out.alloc [.nilFunc, .nilFunc] 77
  exact bodyPost_ret (v := .tuple #[.int .i64 0, .bool false]) (by simp [results, Tryd.results37, go_sem]) rfl ⟨rfl, hZ.base⟩

set_option maxRecDepth 100000 in
set_option maxHeartbeats 1600000 in
theorem splitOfI_set (n : Int) (A : Option Addr) (xs : List Int) (cap : Nat) (D : Option Addr) (ys : List Int) (dap : Nat) (s : Int) (w : World) (h : Hid (Ints w w.heap.size A xs)) (g : Hid (Ints w w.heap.size D ys)) (hf : isFn n xs = true) (hg : isFn n ys = true) (hs : isSet n s = false) :
    Calls Tryd.prog 37 #[.agg #[.int .i64 n, .slice A xs.length cap], .agg #[.int .i64 n, .slice D ys.length dap], .int .i64 s] w (RetV w (.tuple #[.int .i64 0, .bool false])) := by
  have HF := Lib.hid hf
  have HG := Lib.hid hg
  have HN := Lib.hid hs
  obtain ⟨h0, h5, -, -⟩ := isFn_yes hf
  clear hf hg hs
  have HW := Lib.hid (St.start w)
  go_enter Tryd.func37, Tryd.ntmps37
  go_wp2_with fail
  refine St.use (w0 := w) (by exact (HW.out.alloc _ _).alloc _ _) ?_
  intro hS
  simp only [World.size_alloc] at hS
  refine (cvOf_yes n A xs cap D ys dap _ (Lib.hid ((h.out.below hS.base).mono hS.size)) (Lib.hid ((g.out.below hS.base).mono hS.size)) HF.out HG.out).mono ?_
  rintro e w1 ⟨fb, gb, rfl, hp, hb⟩
  have hS1 := hS.below hb
  obtain ⟨b, -⟩ := hS1.box (i := 1) rfl
  have b0 := b 0 _ rfl
  have bl := (hS1.lt (i := 1) rfl).2
  have HS1 := Lib.hid hS1
  clear hS hb hp b hS1
  go_wp2_with (go_at_call 62; refine (isOf_no _ n _ h0 (by omega) HN.out).mono ?_; rintro e' w' ⟨rfl, rfl⟩)
  have hZ := HS1.out.alloc [f1 fb, f2 gb] 77
  exact bodyPost_ret (v := .tuple #[.int .i64 0, .bool false]) (by simp [results, Tryd.results37, go_sem]) rfl ⟨rfl, hZ.base⟩

set_option maxRecDepth 100000 in
set_option maxHeartbeats 1600000 in
theorem splitOfI_yes (n : Int) (A : Option Addr) (xs : List Int) (cap : Nat) (D : Option Addr) (ys : List Int) (dap : Nat) (s : Int) (w : World) (h : Hid (Ints w w.heap.size A xs)) (g : Hid (Ints w w.heap.size D ys)) (hf : isFn n xs = true) (hg : isFn n ys = true) (hs : isSet n s = true) :
    Calls Tryd.prog 37 #[.agg #[.int .i64 n, .slice A xs.length cap], .agg #[.int .i64 n, .slice D ys.length dap], .int .i64 s] w (RetV w (.tuple #[.int .i64 (split xs ys s.toNat : Nat), .bool true])) := by
  have HF := Lib.hid hf
  have HG := Lib.hid hg
  have HN := Lib.hid hs
  obtain ⟨h0, h5, hl, -⟩ := isFn_yes hf
  obtain ⟨s0, s1⟩ := isSet_yes hs
  obtain ⟨S, rfl⟩ := Int.eq_ofNat_of_zero_le s0
  rw [Int.toNat_natCast]
  have hS : S < xs.length := by omega
  have HI := Lib.hid (fun fb gb W hp => splitI S xs.length xs ys fb gb W hS hp)
  generalize split xs ys S = r at HI ⊢
  generalize convV xs ys S = u at HI
  clear hf hg hs hl s0 s1 hS
  have HW := Lib.hid (St.start w)
  go_enter Tryd.func37, Tryd.ntmps37
  go_wp2_with fail
  refine St.use (w0 := w) (by exact (HW.out.alloc _ _).alloc _ _) ?_
  intro hS
  simp only [World.size_alloc] at hS
  refine (cvOf_yes n A xs cap D ys dap _ (Lib.hid ((h.out.below hS.base).mono hS.size)) (Lib.hid ((g.out.below hS.base).mono hS.size)) HF.out HG.out).mono ?_
  rintro e w1 ⟨fb, gb, rfl, hp, hb⟩
  have hS1 := hS.below hb
  obtain ⟨b, -⟩ := hS1.box (i := 1) rfl
  have b0 := b 0 _ rfl
  have bl := (hS1.lt (i := 1) rfl).2
  have HP := Lib.hid hp
  have HS1 := Lib.hid hS1
  clear hS hb hp b hS1
  go_wp2_with (go_at_call 62; refine (isOf_yes _ n _ h0 (by omega) HN.out).mono ?_; rintro e' w' ⟨rfl, rfl⟩)
  refine St.use (w0 := w) (by exact HS1.out.alloc [f1 fb, f2 gb] 77) ?_
  intro hS3
  have HS3 := Lib.hid hS3
  clear hS3
  refine (HI.out fb gb _ (Lib.hid (HP.out.below ((Below.refl _ w1).alloc (Nat.le_refl _) _)))).mono ?_
  rintro e w3 ⟨rfl, hb⟩
  have HS4 := Lib.hid (HS3.out.below hb)
  clear hb
  go_wp2
  exact bodyPost_ret (v := .tuple #[.int .i64 (r : Nat), .bool true]) (by simp [results, Tryd.results37, go_sem]) rfl ⟨rfl, HS4.out.base⟩

theorem splitOfI_any (n : Int) (A : Option Addr) (xs : List Int) (cap : Nat) (m : Int) (D : Option Addr) (ys : List Int) (dap : Nat) (s : Int) (w : World) (h : Hid (Ints w w.heap.size A xs)) (g : Hid (Ints w w.heap.size D ys)) :
    Calls Tryd.prog 37 #[.agg #[.int .i64 n, .slice A xs.length cap], .agg #[.int .i64 m, .slice D ys.length dap], .int .i64 s] w (RetV w (.tuple #[.int .i64 (splitOf n xs m ys s).1, .bool (splitOf n xs m ys s).2])) := by
  unfold splitOf
  cases hf : fits n xs m ys
  · rw [if_neg (by simp)]
    exact splitOfI_no n A xs cap m D ys dap s w h g hf
  · obtain ⟨h1, h2, rfl⟩ := fits_yes hf
    cases hs : isSet n s
    · rw [if_neg (by simp)]
      exact splitOfI_set n A xs cap D ys dap s w h g h1 h2 hs
    · rw [if_pos ⟨rfl, rfl⟩]
      exact splitOfI_yes n A xs cap D ys dap s w h g h1 h2 hs

-- hulls

section

variable (n : Int) (A : Option Addr) (xs : List Int) (cap : Nat) (w : World) (h : Hid (Ints w w.heap.size A xs))
include h
set_option maxRecDepth 100000 in
set_option maxHeartbeats 1600000 in
theorem hullI_no (hf : isFn n xs = false) :
    Calls Tryd.prog 42 #[.agg #[.int .i64 n, .slice A xs.length cap]] w (RetFB w 0 [] false) := by
  have HW := Lib.hid (St.start w)
  have HF := Lib.hid hf
  clear hf
  go_enter Tryd.func42, Tryd.ntmps42
  go_wp2_with (go_at_call 67; refine St.use (w0 := w) (by exact (HW.out.alloc _ _).alloc _ _) ?_; intro hS; (try simp only [World.size_alloc] at hS); refine (isFnI_no n A xs cap _ (Lib.hid ((h.out.below hS.base).mono hS.size)) HF.out).mono ?_; rintro e w2 ⟨rfl, hb⟩; have hS2 := hS.below hb; obtain ⟨u0, uf⟩ := hS2.box (i := 0) rfl; have u00 := u0 0 _ rfl; have u01 := u0 1 _ rfl; have uf0 := uf 0; have uf1 := uf 1; have ul := (hS2.lt (i := 0) rfl).2; have HS2 := Lib.hid hS2; clear hS hb hS2 u0 uf)
  have hZ := (HS2.out.store (i := 0) rfl 0 (.int .i64 0)).store (i := 0) rfl 1 (.slice none 0 0)
  exact bodyPost_ret (v := .tuple #[.agg #[.int .i64 0, .slice none 0 0], .bool false]) (by simp [results, Tryd.results42, go_sem, u00, u01, uf0, uf1, ul]) rfl ⟨none, 0, rfl, K.Own.nil _ _, by first | exact hZ.base | exact HS2.out.base⟩

set_option maxRecDepth 100000 in
set_option maxHeartbeats 1600000 in
theorem hullI_yes (hf : isFn n xs = true) :
    Calls Tryd.prog 42 #[.agg #[.int .i64 n, .slice A xs.length cap]] w (RetFB w (made n (tab xs.length (hullV xs))).1 (made n (tab xs.length (hullV xs))).2.1 (made n (tab xs.length (hullV xs))).2.2) := by
  have HW := Lib.hid (St.start w)
  have HF := Lib.hid hf
  obtain ⟨h0, h5, hl, -⟩ := isFn_yes hf
  obtain ⟨N, rfl⟩ := Int.eq_ofNat_of_zero_le h0
  rw [Int.toNat_natCast] at hl
  have HC := Lib.hid (fun s (hs : s < xs.length) W hb c0 c1 hlt => hullF N s A xs cap w.heap.size w W (by omega) hl (by omega) h hb c0 c1 hlt)
  have HL := Lib.hid hl
  obtain ⟨rn, rx, rb, hr⟩ : ∃ rn rx rb, made (N : Int) (tab xs.length (hullV xs)) = (rn, rx, rb) := ⟨_, _, _, rfl⟩
  rw [hr]
  have HR := Lib.hid hr
  generalize hullV xs = f at HC HR
  clear hf hl hr
  have hmf : ∀ (fn : Fn) (first cap : Array Value) (w : World), (Instr.makeFunc fn first cap).run Tryd.prog w = .ok (.func fn first cap) w := fun _ _ _ _ => rfl
  go_enter Tryd.func42, Tryd.ntmps42
  go_wp2_with (go_at_call 67; refine St.use (w0 := w) (by exact (HW.out.alloc _ _).alloc _ _) ?_; intro hS; (try simp only [World.size_alloc] at hS); refine (isFnI_yes N A xs cap _ (Lib.hid ((h.out.below hS.base).mono hS.size)) HF.out).mono ?_; rintro e w2 ⟨rfl, hb⟩; have hS2 := hS.below hb; obtain ⟨b0, -⟩ := hS2.box (i := 1) rfl; have b00 := b0 0 _ rfl; have HS3 := Lib.hid hS2; clear hS hb hS2 b0)
  refine (make_hull N xs.length f _ _ h0 h5 (by rw [Int.toNat_natCast]; exact HL.out) rn rx rb HR ?_).mono ?_
  · refine Lib.hid ?_
    intro j hj W hW
    have hS := HS3.out.below hW
    exact HC.out j hj W (Lib.hid hS.base) ((hS.box (i := 1) rfl).1 0 _ rfl) ((hS.box (i := 1) rfl).1 1 _ rfl) (hS.lt (i := 1) rfl).2
  rintro e w3 ⟨B, d, rfl, ho, hb⟩
  have hS4 := HS3.out.newI hb ho
  obtain ⟨r1, rf⟩ := hS4.box (i := 1) rfl
  have s10 := r1 0 _ rfl
  have s11 := r1 1 _ rfl
  have sf0 := rf 0
  have sf1 := rf 1
  have HS4 := Lib.hid hS4
  clear r1 rf hb ho hS4
  go_wp2
  have hZ := (HS4.out.store (i := 1) rfl 0 (.int .i64 rn)).store (i := 1) rfl 1 (.slice B rx.length d)
  exact bodyPost_ret (v := .tuple #[.agg #[.int .i64 rn, .slice B rx.length d], .bool rb]) (by simp [results, Tryd.results42, go_sem, s10, s11, sf0, sf1]) rfl ⟨B, d, rfl, hZ.ownI (i := 0) rfl, hZ.base⟩

theorem hullI_any :
    Calls Tryd.prog 42 #[.agg #[.int .i64 n, .slice A xs.length cap]] w (RetFB w (hullFn n xs).1 (hullFn n xs).2.1 (hullFn n xs).2.2) := by
  cases hf : isFn n xs
  · unfold hullFn
    rw [if_neg (by rw [hf]; simp)]
    exact hullI_no n A xs cap w h hf
  · rw [hull_made hf]
    exact hullI_yes n A xs cap w h hf


end


end Go.Proofs.YtfpoiiennlhphaaDoor.C

namespace Go.Proofs.YtfpoiiennlhphaaDoor.C
open Go.RowKit K M
set_option linter.unusedVariables false
set_option linter.unusedSimpArgs false

/-- Where the weights give a function, a reduction is a convolution. -/
theorem reduce_conv (n : Int) (xs ws : List Int) : reduceFn n xs ws = if (modFn ws 0).2.2 = true then convFn n xs (modFn ws 0).1 (modFn ws 0).2.1 else (0, [], false) := by
  unfold reduceFn
  by_cases hb : (modFn ws 0).2.2 = true
  · rw [if_pos hb]
    by_cases hc : isFn n xs = true ∧ (modFn ws 0).1 = n
    · rw [if_pos ⟨hb, hc⟩]
    · rw [if_neg fun hh => hc hh.2]
      unfold convFn
      rw [if_neg]
      intro hf
      obtain ⟨h1, -, h3⟩ := fits_yes hf
      exact hc ⟨h1, h3.symm⟩
  · rw [if_neg hb, if_neg fun hh => hb hh.1]

set_option maxRecDepth 100000 in
set_option maxHeartbeats 3200000 in
theorem reduceI_any (n : Int) (A : Option Addr) (xs : List Int) (cap : Nat) (D : Option Addr) (ws : List Int) (dap : Nat) (w : World) (h : Hid (Ints w w.heap.size A xs)) (g : Hid (Ints w w.heap.size D ws)) (hbr : Hid (Brujn w)) :
    Calls Tryd.prog 39 #[.agg #[.int .i64 n, .slice A xs.length cap], .slice D ws.length dap] w (RetFB w (reduceFn n xs ws).1 (reduceFn n xs ws).2.1 (reduceFn n xs ws).2.2) := by
  have HW := Lib.hid (St.start w)
  have HM := Lib.hid (fun W hW hB => modfnI_any D ws dap 0 W (Lib.hid hW) (Lib.hid hB))
  rw [reduce_conv]
  obtain ⟨gn, gx, gb, hg⟩ : ∃ a b c, modFn ws 0 = (a, b, c) := ⟨_, _, _, rfl⟩
  rw [hg] at HM ⊢
  dsimp only at HM ⊢
  have HCV := Lib.hid (fun W B d h1 h2 => convI_any n A xs cap gn B gx d W (Lib.hid h1) (Lib.hid h2))
  clear hg
  cases gb
  · rw [if_neg (by decide)]
    clear HCV
    go_enter Tryd.func39, Tryd.ntmps39
    go_wp2_with fail
    refine St.use (w0 := w) (by exact (HW.out.alloc _ _).alloc _ _) ?_
    intro hS
    (try simp only [World.size_alloc] at hS)
    refine (HM.out _ ((g.out.below hS.base).mono hS.size) (brujn_on hbr.out hS.base)).mono ?_
    rintro e w1 ⟨B, d, rfl, ho, hb⟩
    have hS0 := hS.newI hb ho
    obtain ⟨u0, uf⟩ := hS0.box (i := 1) rfl
    have u00 := u0 0 _ rfl
    have u01 := u0 1 _ rfl
    have uf0 := uf 0
    have uf1 := uf 1
    have ul := (hS0.lt (i := 1) rfl).2
    have hne : ¬ w.heap.size + 1 = w1.heap.size := by omega
    have hne2 : ¬ w1.heap.size = w.heap.size + 1 := fun e => hne e.symm
    have HS0 := Lib.hid hS0
    clear hS hb ho u0 uf hS0 HM
    have hZ := ((HS0.out.store (i := 1) rfl 0 (.int .i64 0)).store (i := 1) rfl 1 (.slice none 0 0)).alloc [.int .i64 gn, .slice B gx.length d] 26
    go_wp2
    exact bodyPost_ret (v := .tuple #[.agg #[.int .i64 0, .slice none 0 0], .bool false]) (by simp [results, Tryd.results39, go_sem, u00, u01, uf0, uf1, ul, hne, hne2]) rfl ⟨none, 0, rfl, K.Own.nil _ _, hZ.base⟩
  · rw [if_pos rfl]
    obtain ⟨rn, rx, rb, hr⟩ : ∃ rn rx rb, convFn n xs gn gx = (rn, rx, rb) := ⟨_, _, _, rfl⟩
    rw [hr] at HCV ⊢
    dsimp only at HCV ⊢
    clear hr
    go_enter Tryd.func39, Tryd.ntmps39
    go_wp2_with fail
    refine St.use (w0 := w) (by exact (HW.out.alloc _ _).alloc _ _) ?_
    intro hS
    (try simp only [World.size_alloc] at hS)
    refine (HM.out _ ((g.out.below hS.base).mono hS.size) (brujn_on hbr.out hS.base)).mono ?_
    rintro e w1 ⟨B, d, rfl, ho, hb⟩
    have hS0 := hS.newI hb ho
    obtain ⟨b0, -⟩ := hS0.box (i := 2) rfl
    have f00 := b0 0 _ rfl
    have f01 := b0 1 _ rfl
    have fl := (hS0.lt (i := 2) rfl).2
    have hne3 : ¬ w.heap.size = w1.heap.size := by omega
    have hne4 : ¬ w1.heap.size = w.heap.size := fun e => hne3 e.symm
    have HS1 := Lib.hid (hS0.alloc [.int .i64 gn, .slice B gx.length d] 26)
    clear hS hb ho b0 hS0 HM
    go_wp2_with fail
    refine St.use (w0 := w) (by exact HS1.out) ?_
    intro hS
    refine (HCV.out _ _ _ ((h.out.below hS.base).mono hS.size) (hS.ints (i := 1) rfl)).mono ?_
    rintro e w2 ⟨B2, d2, rfl, ho, hb⟩
    have hS4 := hS.newI hb ho
    obtain ⟨r1, rf⟩ := hS4.box (i := 3) rfl
    have s10 := r1 0 _ rfl
    have s11 := r1 1 _ rfl
    have sf0 := rf 0
    have sf1 := rf 1
    have HS4 := Lib.hid hS4
    clear r1 rf hb ho hS4 hS f00 f01 fl
    go_wp2
    have hZ := (HS4.out.store (i := 3) rfl 0 (.int .i64 rn)).store (i := 3) rfl 1 (.slice B2 rx.length d2)
    exact bodyPost_ret (v := .tuple #[.agg #[.int .i64 rn, .slice B2 rx.length d2], .bool rb]) (by simp [results, Tryd.results39, go_sem, s10, s11, sf0, sf1]) rfl ⟨B2, d2, rfl, hZ.ownI (i := 0) rfl, hZ.base⟩


end Go.Proofs.YtfpoiiennlhphaaDoor.C

namespace Go.Proofs.YtfpoiiennlhphaaDoor.C
open Go.RowKit K M
set_option linter.unusedVariables false
set_option linter.unusedSimpArgs false

set_option maxRecDepth 100000 in
set_option maxHeartbeats 1600000 in
theorem truncI_bad (n : Int) (A : Option Addr) (xs : List Int) (cap : Nat) (k : Int) (w : World) (h : Hid (Ints w w.heap.size A xs)) (hf : isFn n xs = false) :
    Calls Tryd.prog 47 #[.agg #[.int .i64 n, .slice A xs.length cap], .int .i64 k] w (RetFB w 0 [] false) := by
  have HF := Lib.hid hf
  clear hf
  have HW := Lib.hid (St.start w)
  have hmf : ∀ (fn : Fn) (first cap : Array Value) (w : World), (Instr.makeFunc fn first cap).run Tryd.prog w = .ok (.func fn first cap) w := fun _ _ _ _ => rfl
  go_enter Tryd.func47, Tryd.ntmps47
  go_wp2_with fail
  refine St.use (w0 := w) (by exact ((HW.out.alloc _ _).alloc _ _).alloc _ _) ?_
  intro hS
  simp only [World.size_alloc] at hS
  refine (isFnI_no n A xs cap _ (Lib.hid ((h.out.below hS.base).mono hS.size)) HF.out).mono ?_
  rintro e w1 ⟨rfl, hb⟩
  have hS1 := hS.below hb
  obtain ⟨r1, rf⟩ := hS1.box (i := 0) rfl
  have r10 := r1 0 _ rfl
  have r11 := r1 1 _ rfl
  have rf0 := rf 0
  have rf1 := rf 1
  clear r1 rf
  clear hS hb
  have HS1 := Lib.hid hS1
  clear hS1
  go_wp2
  have hZ := (HS1.out.store (i := 0) rfl 0 (.int .i64 0)).store (i := 0) rfl 1 (.slice none 0 0)
  exact bodyPost_ret (v := .tuple #[.agg #[.int .i64 0, .slice none 0 0], .bool false]) (by simp [results, Tryd.results47, go_sem, r10, r11, rf0, rf1]) rfl ⟨none, 0, rfl, K.Own.nil _ _, hZ.base⟩

set_option maxRecDepth 100000 in
set_option maxHeartbeats 1600000 in
theorem truncI_lo (n : Int) (A : Option Addr) (xs : List Int) (cap : Nat) (k : Int) (w : World) (h : Hid (Ints w w.heap.size A xs)) (hf : isFn n xs = true) (hk : k < -1000) :
    Calls Tryd.prog 47 #[.agg #[.int .i64 n, .slice A xs.length cap], .int .i64 k] w (RetFB w 0 [] false) := by
  have HF := Lib.hid hf
  clear hf
  have HW := Lib.hid (St.start w)
  have hmf : ∀ (fn : Fn) (first cap : Array Value) (w : World), (Instr.makeFunc fn first cap).run Tryd.prog w = .ok (.func fn first cap) w := fun _ _ _ _ => rfl
  go_enter Tryd.func47, Tryd.ntmps47
  go_wp2_with fail
  refine St.use (w0 := w) (by exact ((HW.out.alloc _ _).alloc _ _).alloc _ _) ?_
  intro hS
  simp only [World.size_alloc] at hS
  refine (isFnI_yes n A xs cap _ (Lib.hid ((h.out.below hS.base).mono hS.size)) HF.out).mono ?_
  rintro e w1 ⟨rfl, hb⟩
  have hS1 := hS.below hb
  obtain ⟨r1, rf⟩ := hS1.box (i := 0) rfl
  have r10 := r1 0 _ rfl
  have r11 := r1 1 _ rfl
  have rf0 := rf 0
  have rf1 := rf 1
  clear r1 rf
  have kb0 := (hS1.box (i := 1) rfl).1 0 _ rfl
  clear hS hb
  have HS1 := Lib.hid hS1
  clear hS1
  go_wp2
  have hZ := (HS1.out.store (i := 0) rfl 0 (.int .i64 0)).store (i := 0) rfl 1 (.slice none 0 0)
  exact bodyPost_ret (v := .tuple #[.agg #[.int .i64 0, .slice none 0 0], .bool false]) (by simp [results, Tryd.results47, go_sem, r10, r11, rf0, rf1]) rfl ⟨none, 0, rfl, K.Own.nil _ _, hZ.base⟩

set_option maxRecDepth 100000 in
set_option maxHeartbeats 1600000 in
theorem truncI_hi (n : Int) (A : Option Addr) (xs : List Int) (cap : Nat) (k : Int) (w : World) (h : Hid (Ints w w.heap.size A xs)) (hf : isFn n xs = true) (hk : 1000 < k) :
    Calls Tryd.prog 47 #[.agg #[.int .i64 n, .slice A xs.length cap], .int .i64 k] w (RetFB w 0 [] false) := by
  have HF := Lib.hid hf
  have hk2 : decide (k < -1000) = false := by simp; omega
  clear hf
  have HW := Lib.hid (St.start w)
  have hmf : ∀ (fn : Fn) (first cap : Array Value) (w : World), (Instr.makeFunc fn first cap).run Tryd.prog w = .ok (.func fn first cap) w := fun _ _ _ _ => rfl
  go_enter Tryd.func47, Tryd.ntmps47
  go_wp2_with fail
  refine St.use (w0 := w) (by exact ((HW.out.alloc _ _).alloc _ _).alloc _ _) ?_
  intro hS
  simp only [World.size_alloc] at hS
  refine (isFnI_yes n A xs cap _ (Lib.hid ((h.out.below hS.base).mono hS.size)) HF.out).mono ?_
  rintro e w1 ⟨rfl, hb⟩
  have hS1 := hS.below hb
  obtain ⟨r1, rf⟩ := hS1.box (i := 0) rfl
  have r10 := r1 0 _ rfl
  have r11 := r1 1 _ rfl
  have rf0 := rf 0
  have rf1 := rf 1
  clear r1 rf
  have kb0 := (hS1.box (i := 1) rfl).1 0 _ rfl
  clear hS hb
  have HS1 := Lib.hid hS1
  clear hS1
  go_wp2
  have hZ := (HS1.out.store (i := 0) rfl 0 (.int .i64 0)).store (i := 0) rfl 1 (.slice none 0 0)
  exact bodyPost_ret (v := .tuple #[.agg #[.int .i64 0, .slice none 0 0], .bool false]) (by simp [results, Tryd.results47, go_sem, r10, r11, rf0, rf1]) rfl ⟨none, 0, rfl, K.Own.nil _ _, hZ.base⟩

set_option maxRecDepth 100000 in
set_option maxHeartbeats 1600000 in
theorem truncI_good (n : Int) (A : Option Addr) (xs : List Int) (cap : Nat) (k : Int) (w : World) (h : Hid (Ints w w.heap.size A xs)) (hf : isFn n xs = true) (k1 : -1000 ≤ k) (k2 : k ≤ 1000) :
    Calls Tryd.prog 47 #[.agg #[.int .i64 n, .slice A xs.length cap], .int .i64 k] w (RetFB w (made n (tab xs.length (truncV xs k))).1 (made n (tab xs.length (truncV xs k))).2.1 (made n (tab xs.length (truncV xs k))).2.2) := by
  obtain ⟨h0, h5, hl, hv⟩ := isFn_yes hf
  have hm := (isFn_len hf).2
  have hm1 := (isFn_len hf).1
  have HF := Lib.hid hf
  have HV := Lib.hid hv
  have HL := Lib.hid hl
  have t1 : decide (k < -1000) = false := by simp; omega
  have t2 : decide (1000 < k) = false := by simp; omega
  obtain ⟨rn, rx, rb, hr⟩ : ∃ rn rx rb, made n (tab xs.length (truncV xs k)) = (rn, rx, rb) := ⟨_, _, _, rfl⟩
  rw [hr]
  have HR := Lib.hid hr
  clear hf hv hr hl
  have HW := Lib.hid (St.start w)
  have hmf : ∀ (fn : Fn) (first cap : Array Value) (w : World), (Instr.makeFunc fn first cap).run Tryd.prog w = .ok (.func fn first cap) w := fun _ _ _ _ => rfl
  go_enter Tryd.func47, Tryd.ntmps47
  go_wp2_with fail
  refine St.use (w0 := w) (by exact ((HW.out.alloc _ _).alloc _ _).alloc _ _) ?_
  intro hS
  simp only [World.size_alloc] at hS
  refine (isFnI_yes n A xs cap _ (Lib.hid ((h.out.below hS.base).mono hS.size)) HF.out).mono ?_
  rintro e w1 ⟨rfl, hb⟩
  have hS1 := hS.below hb
  obtain ⟨b, -⟩ := hS1.box (i := 2) rfl
  have b0 := b 0 _ rfl
  have b1 := b 1 _ rfl
  clear b
  have kb0 := (hS1.box (i := 1) rfl).1 0 _ rfl
  clear hS hb
  have HS1 := Lib.hid hS1
  clear hS1
  go_wp2_with fail
  refine (make_trunc n xs.length (truncV xs k) _ _ _ h0 h5 HL.out rn rx rb HR ?_).mono ?_
  · refine Lib.hid ?_
    intro j hj W hW
    obtain ⟨b, off, rfl, hbl, hc⟩ := h.out (by omega)
    obtain ⟨v1, v2⟩ := HV.out j hj
    have hS3 := HS1.out.below hW
    exact truncF k _ j _ _ b off _ cap W hj ((hS3.box (i := 1) rfl).1 0 _ rfl) ((hS3.box (i := 2) rfl).1 1 _ rfl) ((hS3.base.cell (p := ⟨b, off + j, none⟩) hbl).trans (hc j hj))
  rintro e w2 ⟨B, d, rfl, ho, hb⟩
  have hS2 := HS1.out.below hb
  obtain ⟨r1, rf⟩ := hS2.box (i := 0) rfl
  have s10 := r1 0 _ rfl
  have s11 := r1 1 _ rfl
  have sf0 := rf 0
  have sf1 := rf 1
  have hS3 := HS1.out.newI hb ho
  clear r1 rf hb ho hS2
  have HS3 := Lib.hid hS3
  clear hS3
  go_wp2
  have hZ := (HS3.out.store (i := 1) rfl 0 (.int .i64 rn)).store (i := 1) rfl 1 (.slice B rx.length d)
  exact bodyPost_ret (v := .tuple #[.agg #[.int .i64 rn, .slice B rx.length d], .bool rb]) (by simp [results, Tryd.results47, go_sem, s10, s11, sf0, sf1]) rfl ⟨B, d, rfl, hZ.ownI (i := 0) rfl, hZ.base⟩

theorem truncI_any (n : Int) (A : Option Addr) (xs : List Int) (cap : Nat) (k : Int) (w : World) (h : Hid (Ints w w.heap.size A xs)) :
    Calls Tryd.prog 47 #[.agg #[.int .i64 n, .slice A xs.length cap], .int .i64 k] w (RetFB w (truncFn n xs k).1 (truncFn n xs k).2.1 (truncFn n xs k).2.2) := by
  cases hf : isFn n xs
  · unfold truncFn
    rw [if_neg (by rw [hf]; simp)]
    exact truncI_bad n A xs cap k w h hf
  · by_cases hk : -1000 ≤ k ∧ k ≤ 1000
    · rw [trunc_made hf hk.1 hk.2]
      exact truncI_good n A xs cap k w h hf hk.1 hk.2
    · unfold truncFn
      rw [if_neg fun hh => hk hh.2]
      by_cases hlo : k < -1000
      · exact truncI_lo n A xs cap k w h hf hlo
      · exact truncI_hi n A xs cap k w h hf (by omega)


end Go.Proofs.YtfpoiiennlhphaaDoor.C
