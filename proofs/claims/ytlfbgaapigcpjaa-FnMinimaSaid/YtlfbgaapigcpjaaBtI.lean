/-
  The contracts of impl.MinimumBetween and of its closure.
-/
import Derived.Test.YtlfbgaapigcpjaaLpI
import Derived.Test.YtlfbgaapigcpjaaBtM
import Derived.Test.YtlfbgaapigcpjaaFnA
import Derived.Test.YtlfbgaapigcpjaaCutI
import Derived.Test.YtlfbgaapigcpjaaMiA
namespace Go.Proofs.Ytlfbgaapigcpjaa.C
open Go.RowKit Go.Shelf K M
set_option linter.unusedVariables false
set_option linter.unusedSimpArgs false
set_option linter.unusedSectionVars false
attribute [local go_sem] Oper.semAt_some

/-- The value of a greater set. -/
theorem btwC (x : Int) (s p q : Nat) (fb sb b off m cap : Nat) (w : World) (hq : q < m) (hor : bits .or .i64 (s : Int) (p : Int) = (q : Int))
    (hf : w.cell? ⟨fb, 1, none⟩ = some (.slice (some ⟨b, off, none⟩) m cap)) (hb : w.cell? ⟨sb, 0, none⟩ = some (.int .i64 s)) (hc : w.cell? ⟨b, off + q, none⟩ = some (.int .i64 x)) :
    Calls Try.prog 41 #[.int .i64 p, .pointer (some ⟨fb, 0, none⟩), .pointer (some ⟨sb, 0, none⟩)] w (Gives w x) := by
  have hq0 : (0 : Int) ≤ (q : Int) := by omega
  have hqm : (q : Int) < (m : Int) := by omega
  go_enter Try.func41, Try.ntmps41
  go_wp2
  go_ret
  exact ⟨rfl, 0, rfl⟩

set_option maxRecDepth 100000 in
set_option maxHeartbeats 4000000 in
/-- The least part of S for a closure, and its value. -/
theorem least_btw_any (S : Nat) (hS : S < 32) (v : Nat → Int) (p1 p2 : Value) (w : World)
    (hv : Hid (∀ x, x &&& S = x → ∀ W, Below w.heap.size w W → Calls Try.prog 41 #[.int .i64 (x : Nat), p1, p2] W (Gives W (v x)))) :
    Calls Try.prog 40 #[.int .i64 S, .func (.func 41) #[] #[p1, p2]] w fun e W' => e = .returned (.tuple #[.int .i64 (leastTo v S S : Nat), .int .i64 (v (leastTo v S S))]) ∧ Below w.heap.size w W' := by
  have HF := Lib.hid (best_partsP v hS)
  have HX := Lib.hid (best_snoc v)
  have HB0 := Lib.hid (best_nil v)
  have HV0 := Lib.hid (hv.out 0 (by simp))
  have HP := Lib.hid (fun F n hF hro hn sb W hw hc => partsP_stops F n hF hro hn sb S hS W hw hc)
  generalize bestOf v = bo at HF HX HB0
  generalize leastTo v S S = r at HF ⊢
  refine (callsIn_wide (n := 4)).1 ?_
  refine callsIn_of_wp_marks Try.func40 rfl trivial ?_ rfl
  simp only [Try.ntmps40, List.size_toArray, List.length_cons, List.length_nil, Nat.reduceAdd, Nat.reduceSub, Array.replicate_succ, Array.replicate_zero, List.push_toArray, List.append_toArray, List.nil_append, List.cons_append]
  gi_wp2_with (first
    | (refine ⟨trivial, ?_⟩; gi_at_call 41; refine (callsIn_wide.2 (HV0.out _ ((Below.refl _ _).alloc (Nat.le_refl _) _))).mono ?_; rintro e w1 ⟨rfl, q, rfl⟩)
    | (refine ⟨trivial, ?_⟩; gi_at_call 56; refine (callsIn_wide.2 (partsF_any _ _)).mono ?_; rintro e w1 ⟨rfl, rfl⟩))
  have b0 : Boxed ((((w.alloc (.cells #[.func (.func 41) #[] #[p1, p2]] 56)).drewN q).alloc (.cells #[.int .i64 0] 51)).alloc (.cells #[.int .i64 (v 0)] 3)) w.heap.size 56 (.func (.func 41) #[] #[p1, p2]) :=
    (show Boxed ((w.alloc (.cells #[.func (.func 41) #[] #[p1, p2]] 56)).drewN q) w.heap.size 56 _ from Boxed.new w _ _).alloc _ |>.alloc _
  have b1 : Boxed ((((w.alloc (.cells #[.func (.func 41) #[] #[p1, p2]] 56)).drewN q).alloc (.cells #[.int .i64 0] 51)).alloc (.cells #[.int .i64 (v 0)] 3)) (w.heap.size + 1) 51 (.int .i64 0) := by
    have h := (Boxed.new ((w.alloc (.cells #[.func (.func 41) #[] #[p1, p2]] 56)).drewN q) 51 (.int .i64 0)).alloc (.cells #[.int .i64 (v 0)] 3)
    simpa using h
  have b2 : Boxed ((((w.alloc (.cells #[.func (.func 41) #[] #[p1, p2]] 56)).drewN q).alloc (.cells #[.int .i64 0] 51)).alloc (.cells #[.int .i64 (v 0)] 3)) (w.heap.size + 1 + 1) 3 (.int .i64 (v 0)) := by
    have h := Boxed.new (((w.alloc (.cells #[.func (.func 41) #[] #[p1, p2]] 56)).drewN q).alloc (.cells #[.int .i64 0] 51)) 3 (.int .i64 (v 0))
    simpa using h
  have hB : Below w.heap.size w ((((w.alloc (.cells #[.func (.func 41) #[] #[p1, p2]] 56)).drewN q).alloc (.cells #[.int .i64 0] 51)).alloc (.cells #[.int .i64 (v 0)] 3)) :=
    ((below_drewN ((Below.refl _ w).alloc (Nat.le_refl _) _) q).alloc (by simp) _).alloc (by simp; omega) _
  have hsz : ((((w.alloc (.cells #[.func (.func 41) #[] #[p1, p2]] 56)).drewN q).alloc (.cells #[.int .i64 0] 51)).alloc (.cells #[.int .i64 (v 0)] 3)).heap.size = w.heap.size + 1 + 1 + 1 := by simp
  generalize (((w.alloc (.cells #[.func (.func 41) #[] #[p1, p2]] 56)).drewN q).alloc (.cells #[.int .i64 0] 51)).alloc (.cells #[.int .i64 (v 0)] 3) = W0 at b0 b1 b2 hB hsz ⊢
  refine wpIn_rangeFunc_ownG rfl (by omega) (gf := 65) (lb := #[.pointer (some ⟨w.heap.size + 1 + 1 + 1, 0, none⟩)]) rfl trivial (enters_of Try.func65 (by kernel_rfl) rfl)
    (HP.out Fence.wide _ trivial rfl (by omega) (w.heap.size + 1 + 1 + 1) _ (by simp [hsz]) (by rw [← hsz]; simp)) kept_t (fun W l o o' _ h ho _ => kept_b W l o o' h ho) (Below.refl _ _) (fun _ => rfl)
    (fun pre W => (Boxed W w.heap.size 56 (.func (.func 41) #[] #[p1, p2]) ∧ Boxed W (w.heap.size + 1) 51 (.int .i64 (bo (pre.map Subtype.val) : Nat)) ∧ Boxed W (w.heap.size + 1 + 1) 3 (.int .i64 (v (bo (pre.map Subtype.val))))) ∧ Below w.heap.size w W)
    (fun _ _ _ => False)
    (OwnFrom.and (OwnFrom.and (Own.from (boxed_own _ _ _) _) (OwnFrom.and (Own.from (boxed_own _ _ _) _) (Own.from (boxed_own _ _ _) _))) (ownFrom_below (Nat.le_refl _) (by simp; omega)))
    (fun _ _ _ _ _ hs _ _ => hs)
    ⟨⟨b0.alloc _, by simp only [List.map_nil, HB0.out]; exact b1.alloc _, by simp only [List.map_nil, HB0.out]; exact b2.alloc _⟩, hB.alloc hB.size _⟩
    (fun x => { tmps := #[.int .i64 S, .func (.func 41) #[] #[p1, p2], undef, .pointer (some ⟨w.heap.size, 0, none⟩), .int .i64 0, .int .i64 0, .pointer (some ⟨w.heap.size + 1, 0, none⟩), .pointer (some ⟨w.heap.size + 1 + 1, 0, none⟩), .int .i64 x.1, undef, .func (.func 41) #[] #[p1, p2], .int .i64 (v 0), .int .i64 S, .func (.func 65) #[] #[.pointer (some ⟨w.heap.size + 1 + 1 + 1, 0, none⟩)], .int .i64 x.1, undef, undef, undef, undef, undef, undef, undef, undef, undef, undef], defers := [] }) ?assign ?body ?done ?stop
  case assign =>
    intro l x W K hK
    gi_wp2
    exact hK
  case body =>
    rintro l pre x W ⟨⟨c0, c1, c2⟩, hB⟩ hlt
    obtain ⟨x, hx⟩ := x
    have HC := Lib.hid (fun W hW => hv.out x hx W hW)
    have hs := HX.out (pre.map Subtype.val) x
    have hm : (pre ++ [(⟨x, hx⟩ : Part S)]).map Subtype.val = pre.map Subtype.val ++ [x] := by simp
    generalize hb : bo (pre.map Subtype.val) = b at *
    have HM := Lib.hid (hm ▸ hs : bo ((pre ++ [(⟨x, hx⟩ : Part S)]).map Subtype.val) = if v x < v b then x else b)
    have d0 := c0.cell
    have d1 := c1.cell
    have d2 := c2.cell
    have f1 := c1.frozen
    have f2 := c2.frozen
    have hd : 1 ≤ 4 - 1 - 1 := by omega
    have HC0 := Lib.hid c0
    have HC1 := Lib.hid c1
    have HC2 := Lib.hid c2
    have HB := Lib.hid hB
    clear c0 c1 c2 hB b0 b1 b2 hs hm
    by_cases hlt2 : v x < v b
    · gi_wp2_with (refine ⟨trivial, ?_⟩; gi_at_call 41; refine (CallsIn.inRound l (callsIn_wide.2 (HC.out _ HB.out))).mono ?_; rintro e w1 ⟨rfl, q, rfl⟩)
      refine ⟨((C.KeepsOthers.drewN W q).trans ((KeepsOthers.setCell _ _ _).trans (KeepsOthers.setCell _ _ _))).from _, fun hc => ?_, ⟨⟨?_, ?_, ?_⟩, ?_⟩⟩
      · exact (World.cell?_setCell_other (a := ⟨w.heap.size + 1 + 1, 0, none⟩) (b := ⟨w.heap.size + 1 + 1 + 1, 0, none⟩) _ _ (fun e => by injection e; omega)).trans ((World.cell?_setCell_other (a := ⟨w.heap.size + 1, 0, none⟩) (b := ⟨w.heap.size + 1 + 1 + 1, 0, none⟩) _ _ (fun e => by injection e; omega)).trans hc)
      · exact ((show Boxed (W.drewN q) _ _ _ from HC0.out).other (by omega) _).other (by omega) _
      · rw [HM.out, if_pos hlt2]
        exact ((show Boxed (W.drewN q) _ _ _ from HC1.out).set _).other (by omega) _
      · rw [HM.out, if_pos hlt2]
        exact ((show Boxed (W.drewN q) _ _ _ from HC2.out).other (by omega) _).set _
      · exact ((below_drewN HB.out q).setCell (p := ⟨w.heap.size + 1, 0, none⟩) (by simp) _).setCell (p := ⟨w.heap.size + 1 + 1, 0, none⟩) (by simp; omega) _
    · gi_wp2_with (refine ⟨trivial, ?_⟩; gi_at_call 41; refine (CallsIn.inRound l (callsIn_wide.2 (HC.out _ HB.out))).mono ?_; rintro e w1 ⟨rfl, q, rfl⟩)
      refine ⟨(C.KeepsOthers.drewN W q).from _, fun hc => hc, ⟨⟨HC0.out, ?_, ?_⟩, below_drewN HB.out q⟩⟩
      · rw [HM.out, if_neg (by omega)]
        exact HC1.out
      · rw [HM.out, if_neg (by omega)]
        exact HC2.out
  case done =>
    rintro D ys W hD rfl ⟨⟨c0, c1, c2⟩, hB⟩ hK
    rw [HF.out] at c1 c2
    have d1 := c1.cell
    have d2 := c2.cell
    clear c0 c1 c2 b0 b1 b2
    have hD' : D < W.heap.size := (Array.getElem?_eq_some_iff.1 hK).1
    gi_wp2
    gi_region
    all_goals gi_wp2
    refine ⟨by simp, .inl ⟨_, _, rfl, run_takeDeferred (show W.drew.heap[D]? = _ from hK), ?_⟩⟩
    refine ⟨_, ?_, rfl, hB.drew.trans (belowK_b (w := w) (Nat.le_refl _) W.drew D _ _ (by simp at hD; omega) hK rfl rfl)⟩
    simp [results, Try.results40, go_sem]
  case stop =>
    rintro D c pre W _ _ h _
    exact h.elim


section

variable (n : Int) (A : Option Addr) (xs : List Int) (cap : Nat) (a b : Int) (w : World) (h : Hid (Ints w w.heap.size A xs))
include h
set_option maxHeartbeats 1600000 in
theorem btwI_fn (q : isFn n xs = false) : Calls Try.prog 12 #[.agg #[.int .i64 n, .slice A xs.length cap], .int .i64 a, .int .i64 b] w (RetV w (.tuple #[.int .i64 0, .int .i64 0, .bool false])) := by
  have HW := Lib.hid (St.start w)
  have HS0 := Lib.hid ((HW.out.alloc [.int .i64 n, .slice A xs.length cap] 26).alloc [.int .i64 a] 3)
  have HF := Lib.hid q
  clear q
  go_enter Try.func12, Try.ntmps12
  go_wp2_with (go_at_call 37; refine (isFnI_no n A xs cap _ (Lib.hid ((h.out.below HS0.out.base).mono HS0.out.size)) HF.out).mono ?_; rintro e w3 ⟨rfl, hb⟩; have HS := Lib.hid (HS0.out.below hb); clear hb)
  exact bodyPost_ret (v := .tuple #[.int .i64 0, .int .i64 0, .bool false]) (by simp [results, Try.results12, go_sem]) rfl ⟨rfl, HS.out.base⟩

set_option maxHeartbeats 1600000 in
theorem btwI_a (q : isFn n xs = true) (qa : isSet n a = false) : Calls Try.prog 12 #[.agg #[.int .i64 n, .slice A xs.length cap], .int .i64 a, .int .i64 b] w (RetV w (.tuple #[.int .i64 0, .int .i64 0, .bool false])) := by
  have HW := Lib.hid (St.start w)
  have HS0 := Lib.hid ((HW.out.alloc [.int .i64 n, .slice A xs.length cap] 26).alloc [.int .i64 a] 3)
  obtain ⟨n0, n5, -, -⟩ := isFn_yes q
  have HF := Lib.hid q
  have HA := Lib.hid (fun W => isOf_no a n W n0 (by omega) qa)
  clear q qa n0 n5
  go_enter Try.func12, Try.ntmps12
  go_wp2_with (first
    | (go_at_call 37; refine (isFnI_yes n A xs cap _ (Lib.hid ((h.out.below HS0.out.base).mono HS0.out.size)) HF.out).mono ?_; rintro e w3 ⟨rfl, hb⟩; have hS := HS0.out.below hb; obtain ⟨b0, -⟩ := hS.box (i := 1) rfl; have b00 := b0 0 _ rfl; have b01 := b0 1 _ rfl; obtain ⟨c0, -⟩ := hS.box (i := 0) rfl; have c00 := c0 0 _ rfl; have HS := Lib.hid hS; simp only [World.size_alloc] at c00; clear hb hS b0 c0)
    | (go_at_call 38; refine (HA.out _).mono ?_; rintro e w2 ⟨rfl, rfl⟩))
  exact bodyPost_ret (v := .tuple #[.int .i64 0, .int .i64 0, .bool false]) (by simp [results, Try.results12, go_sem]) rfl ⟨rfl, HS.out.base⟩

set_option maxHeartbeats 1600000 in
theorem btwI_b (q : isFn n xs = true) (qa : isSet n a = true) (qb : isSet n b = false) : Calls Try.prog 12 #[.agg #[.int .i64 n, .slice A xs.length cap], .int .i64 a, .int .i64 b] w (RetV w (.tuple #[.int .i64 0, .int .i64 0, .bool false])) := by
  have HW := Lib.hid (St.start w)
  have HS0 := Lib.hid ((HW.out.alloc [.int .i64 n, .slice A xs.length cap] 26).alloc [.int .i64 a] 3)
  obtain ⟨n0, n5, -, -⟩ := isFn_yes q
  have HF := Lib.hid q
  have HA := Lib.hid (fun W => isOf_yes a n W n0 (by omega) qa)
  have HB := Lib.hid (fun W => isOf_no b n W n0 (by omega) qb)
  clear q qa qb n0 n5
  go_enter Try.func12, Try.ntmps12
  go_wp2_with (first
    | (go_at_call 37; refine (isFnI_yes n A xs cap _ (Lib.hid ((h.out.below HS0.out.base).mono HS0.out.size)) HF.out).mono ?_; rintro e w3 ⟨rfl, hb⟩; have hS := HS0.out.below hb; obtain ⟨b0, -⟩ := hS.box (i := 1) rfl; have b00 := b0 0 _ rfl; have b01 := b0 1 _ rfl; obtain ⟨c0, -⟩ := hS.box (i := 0) rfl; have c00 := c0 0 _ rfl; have HS := Lib.hid hS; simp only [World.size_alloc] at c00; clear hb hS b0 c0)
    | (go_at_call_of 38 (Value.int .i64 a); refine (HA.out _).mono ?_; rintro e w2 ⟨rfl, rfl⟩)
    | (go_at_call_of 38 (Value.int .i64 b); refine (HB.out _).mono ?_; rintro e w2 ⟨rfl, rfl⟩))
  exact bodyPost_ret (v := .tuple #[.int .i64 0, .int .i64 0, .bool false]) (by simp [results, Try.results12, go_sem]) rfl ⟨rfl, HS.out.base⟩

set_option maxRecDepth 100000 in
set_option maxHeartbeats 1600000 in
theorem btwI_in (q : isFn n xs = true) (P Q : Nat) (ha : a = (P : Int)) (hb' : b = (Q : Int)) (qa : isSet n a = true) (qb : isSet n b = true) (hP : P < xs.length) (hQ : Q < xs.length) :
    Calls Try.prog 12 #[.agg #[.int .i64 n, .slice A xs.length cap], .int .i64 a, .int .i64 b] w (RetV w (.tuple (if P &&& Q = 0 then #[.int .i64 (xs.getD (btwTo xs P Q xs.length) 0), .int .i64 (btwTo xs P Q xs.length : Nat), .bool true] else #[.int .i64 0, .int .i64 0, .bool false]))) := by
  have HW := Lib.hid (St.start w)
  have HS0 := Lib.hid ((HW.out.alloc [.int .i64 n, .slice A xs.length cap] 26).alloc [.int .i64 a] 3)
  obtain ⟨n0, n5, hl, -⟩ := isFn_yes q
  have h32 := (isFn_len q).2
  have HF := Lib.hid q
  have HA := Lib.hid (fun W => isOf_yes a n W n0 (by omega) qa)
  have HB := Lib.hid (fun W => isOf_yes b n W n0 (by omega) qb)
  have hand := and_nat10 P Q (by omega) (by omega)
  have hor := or_nat10 P Q (by omega) (by omega)
  subst ha hb'
  obtain ⟨N, rfl⟩ := Int.eq_ofNat_of_zero_le n0
  rw [Int.toNat_natCast] at hl
  by_cases hz : P &&& Q = 0
  · rw [if_pos hz]
    have hpq : P ||| Q < 2 ^ N := Nat.or_lt_two_pow (by omega) (by omega)
    have HC := Lib.hid (fun W => compl_any (P ||| Q) N W (by omega) (by omega))
    obtain ⟨F, hF⟩ : ∃ F, (P ||| Q) ^^^ (2 ^ N - 1) = F := ⟨_, rfl⟩
    have hF32 : F < 2 ^ N := by rw [← hF]; exact Nat.xor_lt_two_pow hpq (by have := Nat.two_pow_pos N; omega)
    have hbl := btw_least (xs := xs) (by omega) hl (by omega) (by omega) hz hF
    have HL := Lib.hid (fun p1 p2 W hh => least_btw_any F (by omega) (btwV xs P) p1 p2 W hh)
    have hlin := (least_in (btwV xs P) F F).2
    have hv : btwV xs P (leastTo (btwV xs P) F F) = xs.getD (btwTo xs P Q xs.length) 0 := by rw [← hbl]; rfl
    rw [hv] at HL
    have HO := Lib.hid (fun x (hx : x &&& F = x) => (fun hh => ⟨Nat.or_lt_two_pow (by omega) hh, hh⟩ : x < 2 ^ N → P ||| x < 2 ^ N ∧ x < 2 ^ N) (Nat.lt_of_le_of_lt (by have : x &&& F ≤ F := Nat.and_le_right; omega) hF32))
    have hor2 := or_nat10 P (leastTo (btwV xs P) F F) (by omega) (by omega)
    rw [hbl] at hor2
    generalize btwTo xs P Q xs.length = B at *
    generalize xs.getD B 0 = y at *
    generalize leastTo (btwV xs P) F F = r at *
    have HV := Lib.hid (fun x => show btwV xs P x = xs.getD (P ||| x) 0 from rfl)
    generalize btwV xs P = v at *
    rw [hz] at hand
    rw [hF] at HC
    generalize P ||| Q = PQ at *
    have HLEN := Lib.hid hl
    clear hv hbl hl h32 hP hQ hpq hF hF32 hlin n0 n5 q qa qb hz
    have hmf : ∀ (fn : Fn) (first cap : Array Value) (w : World), (Instr.makeFunc fn first cap).run Try.prog w = .ok (.func fn first cap) w := fun _ _ _ _ => rfl
    go_enter Try.func12, Try.ntmps12
    go_wp2_with (first
      | (go_at_call 37; refine (isFnI_yes N A xs cap _ (Lib.hid ((h.out.below HS0.out.base).mono HS0.out.size)) HF.out).mono ?_; rintro e w3 ⟨rfl, hb⟩; have hS := HS0.out.below hb; obtain ⟨b0, -⟩ := hS.box (i := 1) rfl; have b00 := b0 0 _ rfl; have b01 := b0 1 _ rfl; obtain ⟨c0, -⟩ := hS.box (i := 0) rfl; have c00 := c0 0 _ rfl; have HS := Lib.hid hS; simp only [World.size_alloc] at c00; clear hb hS b0 c0)
      | (go_at_call_of 38 (Value.int .i64 (P : Int)); refine (HA.out _).mono ?_; rintro e w2 ⟨rfl, rfl⟩)
      | (go_at_call_of 38 (Value.int .i64 (Q : Int)); refine (HB.out _).mono ?_; rintro e w2 ⟨rfl, rfl⟩)
      | (go_at_call 39; refine (HC.out _).mono ?_; rintro e w2 ⟨rfl, rfl⟩))
    refine (HL.out _ _ _ (Lib.hid ?_)).mono ?_
    · intro x hx W hW
      obtain ⟨hq, hx2⟩ := HO.out x hx
      have hW1 := HS.out.below hW
      obtain ⟨r1, off, rfl, hrl, hc⟩ := h.out.at_ (k := P ||| x) (by rw [HLEN.out]; exact hq)
      rw [HV.out]
      have hN5 := (isFn_yes HF.out).2.1
      have h32 := (isFn_len HF.out).2
      rw [HLEN.out] at h32
      refine btwC _ P x (P ||| x) _ _ r1 off xs.length cap W (by rw [HLEN.out]; exact hq) (or_nat10 P x (by have : P ≤ P ||| x := Nat.left_le_or; omega) (by omega)) ((hW1.box (i := 1) rfl).1 1 _ rfl) ?_ ((hW1.base.cell (p := ⟨r1, off + (P ||| x), none⟩) hrl).trans hc)
      have := (hW1.box (i := 0) rfl).1 0 _ rfl
      simpa only [World.size_alloc] using this
    rintro e w4 ⟨rfl, hb⟩
    have hS4 := HS.out.below hb
    obtain ⟨b0, -⟩ := hS4.box (i := 0) rfl
    have d00 := b0 0 _ rfl
    simp only [World.size_alloc] at d00
    have HS4 := Lib.hid hS4
    clear hS4 hb b0
    go_wp2
    go_quiet (fail)
    go_wp2
    exact bodyPost_ret (v := .tuple #[.int .i64 y, .int .i64 (B : Nat), .bool true]) (by simp [results, Try.results12, go_sem]) rfl ⟨rfl, (HS4.out.drewN _).base⟩
  · rw [if_neg hz]
    generalize P &&& Q = Z at *
    have hbe : ((Z : Int) != (0 : Int)) = true := bne_iff_ne.2 (by omega)
    clear hor hz hl h32 hP hQ n0 n5 q qa qb
    go_enter Try.func12, Try.ntmps12
    go_wp2_with (first
      | (go_at_call 37; refine (isFnI_yes N A xs cap _ (Lib.hid ((h.out.below HS0.out.base).mono HS0.out.size)) HF.out).mono ?_; rintro e w3 ⟨rfl, hb⟩; have hS := HS0.out.below hb; obtain ⟨b0, -⟩ := hS.box (i := 1) rfl; have b00 := b0 0 _ rfl; have b01 := b0 1 _ rfl; obtain ⟨c0, -⟩ := hS.box (i := 0) rfl; have c00 := c0 0 _ rfl; have HS := Lib.hid hS; simp only [World.size_alloc] at c00; clear hb hS b0 c0)
      | (go_at_call_of 38 (Value.int .i64 (P : Int)); refine (HA.out _).mono ?_; rintro e w2 ⟨rfl, rfl⟩)
      | (go_at_call_of 38 (Value.int .i64 (Q : Int)); refine (HB.out _).mono ?_; rintro e w2 ⟨rfl, rfl⟩))
    exact bodyPost_ret (v := .tuple #[.int .i64 0, .int .i64 0, .bool false]) (by simp [results, Try.results12, go_sem]) rfl ⟨rfl, HS.out.base⟩

theorem btwI_any : Calls Try.prog 12 #[.agg #[.int .i64 n, .slice A xs.length cap], .int .i64 a, .int .i64 b] w (RetV w (.tuple #[.int .i64 (between n xs a b).1, .int .i64 (between n xs a b).2.1, .bool (between n xs a b).2.2])) := by
  unfold between
  cases hf : isFn n xs
  · rw [if_neg (fun hh => by simp at hh)]
    exact btwI_fn n A xs cap a b w h hf
  · cases ha : isSet n a
    · rw [if_neg (fun hh => by simp at hh)]
      exact btwI_a n A xs cap a b w h hf ha
    · cases hb : isSet n b
      · rw [if_neg (fun hh => by simp at hh)]
        exact btwI_b n A xs cap a b w h hf ha hb
      · obtain ⟨a1, a2⟩ := isSet_yes ha
        obtain ⟨b1, b2⟩ := isSet_yes hb
        obtain ⟨n0, -, hl, -⟩ := isFn_yes hf
        obtain ⟨P, rfl⟩ := Int.eq_ofNat_of_zero_le a1
        obtain ⟨Q, rfl⟩ := Int.eq_ofNat_of_zero_le b1
        have e : ((2 ^ n.toNat : Nat) : Int) = (2 : Int) ^ n.toNat := by simp
        have key := btwI_in n A xs cap (P : Int) (Q : Int) w h hf P Q rfl rfl ha hb (by omega) (by omega)
        rw [Int.toNat_natCast, Int.toNat_natCast]
        by_cases hz : P &&& Q = 0
        · rw [if_pos hz] at key
          rw [if_pos ⟨rfl, rfl, rfl, hz⟩]
          exact key
        · rw [if_neg hz] at key
          rw [if_neg (fun hh => hz hh.2.2.2)]
          exact key

end


end Go.Proofs.Ytlfbgaapigcpjaa.C
