/-
  The contracts of impl.leastPart, for each closure that it is handed, and of these closures.
-/
import Derived.Test.YtelihjanjlklpaaDoorPtG
import Derived.Test.YtelihjanjlklpaaDoorFunI
import Derived.Test.YtelihjanjlklpaaDoorVal
import Derived.RangeFuncNested
import Derived.RangeFuncBound
namespace Go.Proofs.YtelihjanjlklpaaDoor.C
open Go.RowKit Go.Shelf K M
set_option linter.unusedVariables false
set_option linter.unusedSimpArgs false
attribute [local go_sem] Oper.semAt_some

theorem KeepsOthers.drewN (W : World) (n : Nat) : KeepsOthers W (W.drewN n) := ⟨Nat.le_refl _, fun _ _ h _ => h⟩

theorem gives_at {P : Program} {f : FuncId} {args : Array Value} {w : World} {n : Nat} {x : Int} (h : Calls P f args (w.drewN n) (Gives (w.drewN n) x)) :
    Calls P f args (w.drewN n) fun e w'' => e = .returned (.int .i64 x) ∧ ∃ m, w'' = w.drewN m :=
  h.mono fun _ _ ⟨he, q, hq⟩ => ⟨he, n + q, by rw [← hq]; simp [World.drewN, Nat.add_assoc]⟩

theorem conv1C (x : Int) (s : Nat) (fb b off m cap : Nat) (w : World) (hs : s < m) (hf : w.cell? ⟨fb, 1, none⟩ = some (.slice (some ⟨b, off, none⟩) m cap)) (hc : w.cell? ⟨b, off + s, none⟩ = some (.int .i64 x)) :
    Calls Tryd.prog 68 #[.int .i64 s, .pointer (some ⟨fb, 0, none⟩)] w (Gives w x) := by
  have hs0 : (0 : Int) ≤ (s : Int) := by omega
  have hsm : (s : Int) < (m : Int) := by omega
  go_enter Tryd.func68, Tryd.ntmps68
  go_wp2
  go_ret
  exact ⟨rfl, 0, rfl⟩

theorem conv2C (x : Int) (s : Nat) (fb b off m cap : Nat) (w : World) (hs : s < m) (hf : w.cell? ⟨fb, 1, none⟩ = some (.slice (some ⟨b, off, none⟩) m cap)) (hc : w.cell? ⟨b, off + s, none⟩ = some (.int .i64 x)) :
    Calls Tryd.prog 69 #[.int .i64 s, .pointer (some ⟨fb, 0, none⟩)] w (Gives w x) := by
  have hs0 : (0 : Int) ≤ (s : Int) := by omega
  have hsm : (s : Int) < (m : Int) := by omega
  go_enter Tryd.func69, Tryd.ntmps69
  go_wp2
  go_ret
  exact ⟨rfl, 0, rfl⟩

/-- f of the part and g of the rest. -/
theorem splitC (x y : Int) (S p q : Nat) (cb sb fb gb : Nat) (w : World) (x1 : -1000 ≤ x) (x2 : x ≤ 1000) (y1 : -1000 ≤ y) (y2 : y ≤ 1000) (hq : bits .xor .i64 (S : Int) (p : Int) = (q : Int))
    (h0 : w.cell? ⟨cb, 0, none⟩ = some (.func (.func 68) #[] #[.pointer (some ⟨fb, 0, none⟩)])) (h1 : w.cell? ⟨cb, 1, none⟩ = some (.func (.func 69) #[] #[.pointer (some ⟨gb, 0, none⟩)])) (hs : w.cell? ⟨sb, 0, none⟩ = some (.int .i64 S))
    (H1 : Hid (∀ k, Calls Tryd.prog 68 #[.int .i64 p, .pointer (some ⟨fb, 0, none⟩)] (w.drewN k) (Gives (w.drewN k) x)))
    (H2 : Hid (∀ k, Calls Tryd.prog 69 #[.int .i64 q, .pointer (some ⟨gb, 0, none⟩)] (w.drewN k) (Gives (w.drewN k) y))) :
    Calls Tryd.prog 70 #[.int .i64 p, .pointer (some ⟨cb, 0, none⟩), .pointer (some ⟨sb, 0, none⟩)] w (Gives w (x + y)) := by
  have hxy : IntKind.i64.wrap (x + y) = x + y := IntWalk.i64_in _ (by omega)
  go_enter Tryd.func70, Tryd.ntmps70
  go_wp2
  go_quiet (first | (go_at_call 68; exact gives_at (H1.out _)) | (go_at_call 69; exact gives_at (H2.out _)))
  go_wp2
  go_ret
  exact ⟨rfl, _, rfl⟩

/-- The value of a greater set. -/
theorem hullC (x : Int) (s p q : Nat) (fb sb b off m cap : Nat) (w : World) (hq : q < m) (hor : bits .or .i64 (s : Int) (p : Int) = (q : Int))
    (hf : w.cell? ⟨fb, 1, none⟩ = some (.slice (some ⟨b, off, none⟩) m cap)) (hb : w.cell? ⟨sb, 0, none⟩ = some (.int .i64 s)) (hc : w.cell? ⟨b, off + q, none⟩ = some (.int .i64 x)) :
    Calls Tryd.prog 58 #[.int .i64 p, .pointer (some ⟨fb, 0, none⟩), .pointer (some ⟨sb, 0, none⟩)] w (Gives w x) := by
  have hq0 : (0 : Int) ≤ (q : Int) := by omega
  have hqm : (q : Int) < (m : Int) := by omega
  go_enter Tryd.func58, Tryd.ntmps58
  go_wp2
  go_ret
  exact ⟨rfl, 0, rfl⟩

set_option maxRecDepth 100000 in
set_option maxHeartbeats 4000000 in
/-- The least part of S for a closure, and its value. -/
theorem least_split_any (S : Nat) (hS : S < 32) (v : Nat → Int) (p1 p2 : Value) (w : World)
    (hv : Hid (∀ x, x &&& S = x → ∀ W, Below w.heap.size w W → Calls Tryd.prog 70 #[.int .i64 (x : Nat), p1, p2] W (Gives W (v x)))) :
    Calls Tryd.prog 56 #[.int .i64 S, .func (.func 70) #[] #[p1, p2]] w fun e W' => e = .returned (.tuple #[.int .i64 (leastTo v S S : Nat), .int .i64 (v (leastTo v S S))]) ∧ Below w.heap.size w W' := by
  have HF := Lib.hid (best_partsP v hS)
  have HX := Lib.hid (best_snoc v)
  have HB0 := Lib.hid (best_nil v)
  have HV0 := Lib.hid (hv.out 0 (by simp))
  have HP := Lib.hid (fun F n hF hro hn sb W hw hc => partsP_stops F n hF hro hn sb S hS W hw hc)
  generalize bestOf v = bo at HF HX HB0
  generalize leastTo v S S = r at HF ⊢
  refine (callsIn_wide (n := 4)).1 ?_
  refine callsIn_of_wp_marks Tryd.func56 rfl trivial ?_ rfl
  simp only [Tryd.ntmps56, List.size_toArray, List.length_cons, List.length_nil, Nat.reduceAdd, Nat.reduceSub, Array.replicate_succ, Array.replicate_zero, List.push_toArray, List.append_toArray, List.nil_append, List.cons_append]
  gi_wp2_with (first
    | (refine ⟨trivial, ?_⟩; gi_at_call 70; refine (callsIn_wide.2 (HV0.out _ ((Below.refl _ _).alloc (Nat.le_refl _) _))).mono ?_; rintro e w1 ⟨rfl, q, rfl⟩)
    | (refine ⟨trivial, ?_⟩; gi_at_call 81; refine (callsIn_wide.2 (partsF_any _ _)).mono ?_; rintro e w1 ⟨rfl, rfl⟩))
  have b0 : Boxed ((((w.alloc (.cells #[.func (.func 70) #[] #[p1, p2]] 53)).drewN q).alloc (.cells #[.int .i64 0] 59)).alloc (.cells #[.int .i64 (v 0)] 3)) w.heap.size 53 (.func (.func 70) #[] #[p1, p2]) :=
    (show Boxed ((w.alloc (.cells #[.func (.func 70) #[] #[p1, p2]] 53)).drewN q) w.heap.size 53 _ from Boxed.new w _ _).alloc _ |>.alloc _
  have b1 : Boxed ((((w.alloc (.cells #[.func (.func 70) #[] #[p1, p2]] 53)).drewN q).alloc (.cells #[.int .i64 0] 59)).alloc (.cells #[.int .i64 (v 0)] 3)) (w.heap.size + 1) 59 (.int .i64 0) := by
    have h := (Boxed.new ((w.alloc (.cells #[.func (.func 70) #[] #[p1, p2]] 53)).drewN q) 59 (.int .i64 0)).alloc (.cells #[.int .i64 (v 0)] 3)
    simpa using h
  have b2 : Boxed ((((w.alloc (.cells #[.func (.func 70) #[] #[p1, p2]] 53)).drewN q).alloc (.cells #[.int .i64 0] 59)).alloc (.cells #[.int .i64 (v 0)] 3)) (w.heap.size + 1 + 1) 3 (.int .i64 (v 0)) := by
    have h := Boxed.new (((w.alloc (.cells #[.func (.func 70) #[] #[p1, p2]] 53)).drewN q).alloc (.cells #[.int .i64 0] 59)) 3 (.int .i64 (v 0))
    simpa using h
  have hB : Below w.heap.size w ((((w.alloc (.cells #[.func (.func 70) #[] #[p1, p2]] 53)).drewN q).alloc (.cells #[.int .i64 0] 59)).alloc (.cells #[.int .i64 (v 0)] 3)) :=
    ((below_drewN ((Below.refl _ w).alloc (Nat.le_refl _) _) q).alloc (by simp) _).alloc (by simp; omega) _
  have hsz : ((((w.alloc (.cells #[.func (.func 70) #[] #[p1, p2]] 53)).drewN q).alloc (.cells #[.int .i64 0] 59)).alloc (.cells #[.int .i64 (v 0)] 3)).heap.size = w.heap.size + 1 + 1 + 1 := by simp
  generalize (((w.alloc (.cells #[.func (.func 70) #[] #[p1, p2]] 53)).drewN q).alloc (.cells #[.int .i64 0] 59)).alloc (.cells #[.int .i64 (v 0)] 3) = W0 at b0 b1 b2 hB hsz ⊢
  refine wpIn_rangeFunc_ownG rfl (by omega) (gf := 87) (lb := #[.pointer (some ⟨w.heap.size + 1 + 1 + 1, 0, none⟩)]) rfl trivial (enters_of Tryd.func87 (by kernel_rfl) rfl)
    (HP.out Fence.wide _ trivial rfl (by omega) (w.heap.size + 1 + 1 + 1) _ (by simp [hsz]) (by rw [← hsz]; simp)) kept_t (fun W l o o' _ h ho _ => kept_b W l o o' h ho) (Below.refl _ _) (fun _ => rfl)
    (fun pre W => (Boxed W w.heap.size 53 (.func (.func 70) #[] #[p1, p2]) ∧ Boxed W (w.heap.size + 1) 59 (.int .i64 (bo (pre.map Subtype.val) : Nat)) ∧ Boxed W (w.heap.size + 1 + 1) 3 (.int .i64 (v (bo (pre.map Subtype.val))))) ∧ Below w.heap.size w W)
    (fun _ _ _ => False)
    (OwnFrom.and (OwnFrom.and (Own.from (boxed_own _ _ _) _) (OwnFrom.and (Own.from (boxed_own _ _ _) _) (Own.from (boxed_own _ _ _) _))) (ownFrom_below (Nat.le_refl _) (by simp; omega)))
    (fun _ _ _ _ _ hs _ _ => hs)
    ⟨⟨b0.alloc _, by simp only [List.map_nil, HB0.out]; exact b1.alloc _, by simp only [List.map_nil, HB0.out]; exact b2.alloc _⟩, hB.alloc hB.size _⟩
    (fun x => { tmps := #[.int .i64 S, .func (.func 70) #[] #[p1, p2], undef, .pointer (some ⟨w.heap.size, 0, none⟩), .int .i64 0, .int .i64 0, .pointer (some ⟨w.heap.size + 1, 0, none⟩), .pointer (some ⟨w.heap.size + 1 + 1, 0, none⟩), .int .i64 x.1, undef, .func (.func 70) #[] #[p1, p2], .int .i64 (v 0), .int .i64 S, .func (.func 87) #[] #[.pointer (some ⟨w.heap.size + 1 + 1 + 1, 0, none⟩)], .int .i64 x.1, undef, undef, undef, undef, undef, undef, undef, undef, undef, undef], defers := [] }) ?assign ?body ?done ?stop
  case assign =>
    intro l x W K hK
    gi_wp2
    exact hK
  case body =>
    rintro l pre x W ⟨⟨c0, c1, c2⟩, hB⟩ hlt
    obtain ⟨x, hx⟩ := x
    have HC := Lib.hid (fun W hW => hv.out x hx W hW)
    have hs := HX.out (pre.map Subtype.val) x
    have hm : (pre ++ [(⟨x, hx⟩ : Part S)]).map Subtype.val = pre.map Subtype.val ++ [x] := by simp
    generalize hb : bo (pre.map Subtype.val) = b at *
    have HM := Lib.hid (hm ▸ hs : bo ((pre ++ [(⟨x, hx⟩ : Part S)]).map Subtype.val) = if v x < v b then x else b)
    have d0 := c0.cell
    have d1 := c1.cell
    have d2 := c2.cell
    have f1 := c1.frozen
    have f2 := c2.frozen
    have hd : 1 ≤ 4 - 1 - 1 := by omega
    have HC0 := Lib.hid c0
    have HC1 := Lib.hid c1
    have HC2 := Lib.hid c2
    have HB := Lib.hid hB
    clear c0 c1 c2 hB b0 b1 b2 hs hm
    by_cases hlt2 : v x < v b
    · gi_wp2_with (refine ⟨trivial, ?_⟩; gi_at_call 70; refine (CallsIn.inRound l (callsIn_wide.2 (HC.out _ HB.out))).mono ?_; rintro e w1 ⟨rfl, q, rfl⟩)
      refine ⟨((C.KeepsOthers.drewN W q).trans ((KeepsOthers.setCell _ _ _).trans (KeepsOthers.setCell _ _ _))).from _, fun hc => ?_, ⟨⟨?_, ?_, ?_⟩, ?_⟩⟩
      · exact (World.cell?_setCell_other (a := ⟨w.heap.size + 1 + 1, 0, none⟩) (b := ⟨w.heap.size + 1 + 1 + 1, 0, none⟩) _ _ (fun e => by injection e; omega)).trans ((World.cell?_setCell_other (a := ⟨w.heap.size + 1, 0, none⟩) (b := ⟨w.heap.size + 1 + 1 + 1, 0, none⟩) _ _ (fun e => by injection e; omega)).trans hc)
      · exact ((show Boxed (W.drewN q) _ _ _ from HC0.out).other (by omega) _).other (by omega) _
      · rw [HM.out, if_pos hlt2]
        exact ((show Boxed (W.drewN q) _ _ _ from HC1.out).set _).other (by omega) _
      · rw [HM.out, if_pos hlt2]
        exact ((show Boxed (W.drewN q) _ _ _ from HC2.out).other (by omega) _).set _
      · exact ((below_drewN HB.out q).setCell (p := ⟨w.heap.size + 1, 0, none⟩) (by simp) _).setCell (p := ⟨w.heap.size + 1 + 1, 0, none⟩) (by simp; omega) _
    · gi_wp2_with (refine ⟨trivial, ?_⟩; gi_at_call 70; refine (CallsIn.inRound l (callsIn_wide.2 (HC.out _ HB.out))).mono ?_; rintro e w1 ⟨rfl, q, rfl⟩)
      refine ⟨(C.KeepsOthers.drewN W q).from _, fun hc => hc, ⟨⟨HC0.out, ?_, ?_⟩, below_drewN HB.out q⟩⟩
      · rw [HM.out, if_neg (by omega)]
        exact HC1.out
      · rw [HM.out, if_neg (by omega)]
        exact HC2.out
  case done =>
    rintro D ys W hD rfl ⟨⟨c0, c1, c2⟩, hB⟩ hK
    rw [HF.out] at c1 c2
    have d1 := c1.cell
    have d2 := c2.cell
    clear c0 c1 c2 b0 b1 b2
    have hD' : D < W.heap.size := (Array.getElem?_eq_some_iff.1 hK).1
    gi_wp2
    gi_region
    all_goals gi_wp2
    refine ⟨by simp, .inl ⟨_, _, rfl, run_takeDeferred (show W.drew.heap[D]? = _ from hK), ?_⟩⟩
    refine ⟨_, ?_, rfl, hB.drew.trans (belowK_b (w := w) (Nat.le_refl _) W.drew D _ _ (by simp at hD; omega) hK rfl rfl)⟩
    simp [results, Tryd.results56, go_sem]
  case stop =>
    rintro D c pre W _ _ h _
    exact h.elim

set_option maxRecDepth 100000 in
set_option maxHeartbeats 4000000 in
/-- The least part of S for a closure, and its value. -/
theorem least_hull_any (S : Nat) (hS : S < 32) (v : Nat → Int) (p1 p2 : Value) (w : World)
    (hv : Hid (∀ x, x &&& S = x → ∀ W, Below w.heap.size w W → Calls Tryd.prog 58 #[.int .i64 (x : Nat), p1, p2] W (Gives W (v x)))) :
    Calls Tryd.prog 56 #[.int .i64 S, .func (.func 58) #[] #[p1, p2]] w fun e W' => e = .returned (.tuple #[.int .i64 (leastTo v S S : Nat), .int .i64 (v (leastTo v S S))]) ∧ Below w.heap.size w W' := by
  have HF := Lib.hid (best_partsP v hS)
  have HX := Lib.hid (best_snoc v)
  have HB0 := Lib.hid (best_nil v)
  have HV0 := Lib.hid (hv.out 0 (by simp))
  have HP := Lib.hid (fun F n hF hro hn sb W hw hc => partsP_stops F n hF hro hn sb S hS W hw hc)
  generalize bestOf v = bo at HF HX HB0
  generalize leastTo v S S = r at HF ⊢
  refine (callsIn_wide (n := 4)).1 ?_
  refine callsIn_of_wp_marks Tryd.func56 rfl trivial ?_ rfl
  simp only [Tryd.ntmps56, List.size_toArray, List.length_cons, List.length_nil, Nat.reduceAdd, Nat.reduceSub, Array.replicate_succ, Array.replicate_zero, List.push_toArray, List.append_toArray, List.nil_append, List.cons_append]
  gi_wp2_with (first
    | (refine ⟨trivial, ?_⟩; gi_at_call 58; refine (callsIn_wide.2 (HV0.out _ ((Below.refl _ _).alloc (Nat.le_refl _) _))).mono ?_; rintro e w1 ⟨rfl, q, rfl⟩)
    | (refine ⟨trivial, ?_⟩; gi_at_call 81; refine (callsIn_wide.2 (partsF_any _ _)).mono ?_; rintro e w1 ⟨rfl, rfl⟩))
  have b0 : Boxed ((((w.alloc (.cells #[.func (.func 58) #[] #[p1, p2]] 53)).drewN q).alloc (.cells #[.int .i64 0] 59)).alloc (.cells #[.int .i64 (v 0)] 3)) w.heap.size 53 (.func (.func 58) #[] #[p1, p2]) :=
    (show Boxed ((w.alloc (.cells #[.func (.func 58) #[] #[p1, p2]] 53)).drewN q) w.heap.size 53 _ from Boxed.new w _ _).alloc _ |>.alloc _
  have b1 : Boxed ((((w.alloc (.cells #[.func (.func 58) #[] #[p1, p2]] 53)).drewN q).alloc (.cells #[.int .i64 0] 59)).alloc (.cells #[.int .i64 (v 0)] 3)) (w.heap.size + 1) 59 (.int .i64 0) := by
    have h := (Boxed.new ((w.alloc (.cells #[.func (.func 58) #[] #[p1, p2]] 53)).drewN q) 59 (.int .i64 0)).alloc (.cells #[.int .i64 (v 0)] 3)
    simpa using h
  have b2 : Boxed ((((w.alloc (.cells #[.func (.func 58) #[] #[p1, p2]] 53)).drewN q).alloc (.cells #[.int .i64 0] 59)).alloc (.cells #[.int .i64 (v 0)] 3)) (w.heap.size + 1 + 1) 3 (.int .i64 (v 0)) := by
    have h := Boxed.new (((w.alloc (.cells #[.func (.func 58) #[] #[p1, p2]] 53)).drewN q).alloc (.cells #[.int .i64 0] 59)) 3 (.int .i64 (v 0))
    simpa using h
  have hB : Below w.heap.size w ((((w.alloc (.cells #[.func (.func 58) #[] #[p1, p2]] 53)).drewN q).alloc (.cells #[.int .i64 0] 59)).alloc (.cells #[.int .i64 (v 0)] 3)) :=
    ((below_drewN ((Below.refl _ w).alloc (Nat.le_refl _) _) q).alloc (by simp) _).alloc (by simp; omega) _
  have hsz : ((((w.alloc (.cells #[.func (.func 58) #[] #[p1, p2]] 53)).drewN q).alloc (.cells #[.int .i64 0] 59)).alloc (.cells #[.int .i64 (v 0)] 3)).heap.size = w.heap.size + 1 + 1 + 1 := by simp
  generalize (((w.alloc (.cells #[.func (.func 58) #[] #[p1, p2]] 53)).drewN q).alloc (.cells #[.int .i64 0] 59)).alloc (.cells #[.int .i64 (v 0)] 3) = W0 at b0 b1 b2 hB hsz ⊢
  refine wpIn_rangeFunc_ownG rfl (by omega) (gf := 87) (lb := #[.pointer (some ⟨w.heap.size + 1 + 1 + 1, 0, none⟩)]) rfl trivial (enters_of Tryd.func87 (by kernel_rfl) rfl)
    (HP.out Fence.wide _ trivial rfl (by omega) (w.heap.size + 1 + 1 + 1) _ (by simp [hsz]) (by rw [← hsz]; simp)) kept_t (fun W l o o' _ h ho _ => kept_b W l o o' h ho) (Below.refl _ _) (fun _ => rfl)
    (fun pre W => (Boxed W w.heap.size 53 (.func (.func 58) #[] #[p1, p2]) ∧ Boxed W (w.heap.size + 1) 59 (.int .i64 (bo (pre.map Subtype.val) : Nat)) ∧ Boxed W (w.heap.size + 1 + 1) 3 (.int .i64 (v (bo (pre.map Subtype.val))))) ∧ Below w.heap.size w W)
    (fun _ _ _ => False)
    (OwnFrom.and (OwnFrom.and (Own.from (boxed_own _ _ _) _) (OwnFrom.and (Own.from (boxed_own _ _ _) _) (Own.from (boxed_own _ _ _) _))) (ownFrom_below (Nat.le_refl _) (by simp; omega)))
    (fun _ _ _ _ _ hs _ _ => hs)
    ⟨⟨b0.alloc _, by simp only [List.map_nil, HB0.out]; exact b1.alloc _, by simp only [List.map_nil, HB0.out]; exact b2.alloc _⟩, hB.alloc hB.size _⟩
    (fun x => { tmps := #[.int .i64 S, .func (.func 58) #[] #[p1, p2], undef, .pointer (some ⟨w.heap.size, 0, none⟩), .int .i64 0, .int .i64 0, .pointer (some ⟨w.heap.size + 1, 0, none⟩), .pointer (some ⟨w.heap.size + 1 + 1, 0, none⟩), .int .i64 x.1, undef, .func (.func 58) #[] #[p1, p2], .int .i64 (v 0), .int .i64 S, .func (.func 87) #[] #[.pointer (some ⟨w.heap.size + 1 + 1 + 1, 0, none⟩)], .int .i64 x.1, undef, undef, undef, undef, undef, undef, undef, undef, undef, undef], defers := [] }) ?assign ?body ?done ?stop
  case assign =>
    intro l x W K hK
    gi_wp2
    exact hK
  case body =>
    rintro l pre x W ⟨⟨c0, c1, c2⟩, hB⟩ hlt
    obtain ⟨x, hx⟩ := x
    have HC := Lib.hid (fun W hW => hv.out x hx W hW)
    have hs := HX.out (pre.map Subtype.val) x
    have hm : (pre ++ [(⟨x, hx⟩ : Part S)]).map Subtype.val = pre.map Subtype.val ++ [x] := by simp
    generalize hb : bo (pre.map Subtype.val) = b at *
    have HM := Lib.hid (hm ▸ hs : bo ((pre ++ [(⟨x, hx⟩ : Part S)]).map Subtype.val) = if v x < v b then x else b)
    have d0 := c0.cell
    have d1 := c1.cell
    have d2 := c2.cell
    have f1 := c1.frozen
    have f2 := c2.frozen
    have hd : 1 ≤ 4 - 1 - 1 := by omega
    have HC0 := Lib.hid c0
    have HC1 := Lib.hid c1
    have HC2 := Lib.hid c2
    have HB := Lib.hid hB
    clear c0 c1 c2 hB b0 b1 b2 hs hm
    by_cases hlt2 : v x < v b
    · gi_wp2_with (refine ⟨trivial, ?_⟩; gi_at_call 58; refine (CallsIn.inRound l (callsIn_wide.2 (HC.out _ HB.out))).mono ?_; rintro e w1 ⟨rfl, q, rfl⟩)
      refine ⟨((C.KeepsOthers.drewN W q).trans ((KeepsOthers.setCell _ _ _).trans (KeepsOthers.setCell _ _ _))).from _, fun hc => ?_, ⟨⟨?_, ?_, ?_⟩, ?_⟩⟩
      · exact (World.cell?_setCell_other (a := ⟨w.heap.size + 1 + 1, 0, none⟩) (b := ⟨w.heap.size + 1 + 1 + 1, 0, none⟩) _ _ (fun e => by injection e; omega)).trans ((World.cell?_setCell_other (a := ⟨w.heap.size + 1, 0, none⟩) (b := ⟨w.heap.size + 1 + 1 + 1, 0, none⟩) _ _ (fun e => by injection e; omega)).trans hc)
      · exact ((show Boxed (W.drewN q) _ _ _ from HC0.out).other (by omega) _).other (by omega) _
      · rw [HM.out, if_pos hlt2]
        exact ((show Boxed (W.drewN q) _ _ _ from HC1.out).set _).other (by omega) _
      · rw [HM.out, if_pos hlt2]
        exact ((show Boxed (W.drewN q) _ _ _ from HC2.out).other (by omega) _).set _
      · exact ((below_drewN HB.out q).setCell (p := ⟨w.heap.size + 1, 0, none⟩) (by simp) _).setCell (p := ⟨w.heap.size + 1 + 1, 0, none⟩) (by simp; omega) _
    · gi_wp2_with (refine ⟨trivial, ?_⟩; gi_at_call 58; refine (CallsIn.inRound l (callsIn_wide.2 (HC.out _ HB.out))).mono ?_; rintro e w1 ⟨rfl, q, rfl⟩)
      refine ⟨(C.KeepsOthers.drewN W q).from _, fun hc => hc, ⟨⟨HC0.out, ?_, ?_⟩, below_drewN HB.out q⟩⟩
      · rw [HM.out, if_neg (by omega)]
        exact HC1.out
      · rw [HM.out, if_neg (by omega)]
        exact HC2.out
  case done =>
    rintro D ys W hD rfl ⟨⟨c0, c1, c2⟩, hB⟩ hK
    rw [HF.out] at c1 c2
    have d1 := c1.cell
    have d2 := c2.cell
    clear c0 c1 c2 b0 b1 b2
    have hD' : D < W.heap.size := (Array.getElem?_eq_some_iff.1 hK).1
    gi_wp2
    gi_region
    all_goals gi_wp2
    refine ⟨by simp, .inl ⟨_, _, rfl, run_takeDeferred (show W.drew.heap[D]? = _ from hK), ?_⟩⟩
    refine ⟨_, ?_, rfl, hB.drew.trans (belowK_b (w := w) (Nat.le_refl _) W.drew D _ _ (by simp at hD; omega) hK rfl rfl)⟩
    simp [results, Tryd.results56, go_sem]
  case stop =>
    rintro D c pre W _ _ h _
    exact h.elim


end Go.Proofs.YtelihjanjlklpaaDoor.C
