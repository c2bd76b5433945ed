/-
  The contracts of impl.RankOfVector and of its closure.
-/
import Derived.Test.YtffbiflgmlabaaaDoorImB
import Derived.Test.YtffbiflgmlabaaaDoorDuA
import Derived.Test.YtffbiflgmlabaaaDoorFnA
import Derived.Test.YtffbiflgmlabaaaDoorImA
namespace Go.Proofs.YtffbiflgmlabaaaDoor.C
open Go.RowKit Go.Shelf K M
set_option linter.unusedVariables false
set_option linter.unusedSimpArgs false
set_option linter.unusedSectionVars false
attribute [local go_sem] Oper.semAt_some

theorem xor_nat11 (S P : Nat) (hS : S < 4294967296) (hP : P < 4294967296) : bits .xor .i64 (S : Int) (P : Int) = ((S ^^^ P : Nat) : Int) := by
  have hx : S ^^^ P < 2 ^ 32 := Nat.xor_lt_two_pow (by omega) (by omega)
  have ofI : ∀ a : Nat, a < 9223372036854775808 → (BitVec.ofInt 64 (a : Int)).toNat = a := fun a ha => by
    rw [BitVec.ofInt_natCast, BitVec.toNat_ofNat]; exact Nat.mod_eq_of_lt (by omega)
  show IntKind.i64.wrap ((BitVec.ofInt 64 (S : Int) ^^^ BitVec.ofInt 64 (P : Int)).toNat : Int) = _
  rw [BitVec.toNat_xor, ofI S (by omega), ofI P (by omega), IntKind.wrap_i64]
  omega

theorem cell_ltA {W : World} {b j : Nat} {v : Value} (hc : W.cell? ⟨b, j, none⟩ = some v) : b < W.heap.size := by
  rcases Nat.lt_or_ge b W.heap.size with h | h
  · exact h
  · rw [World.cell?, Array.getElem?_eq_none h] at hc
    cases hc

set_option maxRecDepth 100000 in
set_option maxHeartbeats 4000000 in
/-- The least part of S for a closure that makes memory, and its value. -/
theorem least_rank_any (S : Nat) (hS : S < 32) (v : Nat → Int) (p1 p2 p3 : Value) (w : World)
    (hv : Hid (∀ x, x &&& S = x → ∀ W, Below w.heap.size w W → Calls Tryd.prog 87 #[.int .i64 (x : Nat), p1, p2, p3] W (RetV W (.int .i64 (v x))))) :
    Calls Tryd.prog 86 #[.int .i64 S, .func (.func 87) #[] #[p1, p2, p3]] w fun e W' => e = .returned (.tuple #[.int .i64 (leastTo v S S : Nat), .int .i64 (v (leastTo v S S))]) ∧ Below w.heap.size w W' := by
  have HF := Lib.hid (best_partsP v hS)
  have HX := Lib.hid (best_snoc v)
  have HB0 := Lib.hid (best_nil v)
  have HV0 := Lib.hid (hv.out 0 (by simp))
  have HP := Lib.hid (fun F n hF hro hn sb W hw hc => partsP_stops F n hF hro hn sb S hS W hw hc)
  generalize bestOf v = bo at HF HX HB0
  generalize leastTo v S S = r at HF ⊢
  refine (callsIn_wide (n := 4)).1 ?_
  refine callsIn_of_wp_marks Tryd.func86 rfl trivial ?_ rfl
  simp only [Tryd.ntmps86, List.size_toArray, List.length_cons, List.length_nil, Nat.reduceAdd, Nat.reduceSub, Array.replicate_succ, Array.replicate_zero, List.push_toArray, List.append_toArray, List.nil_append, List.cons_append]
  gi_wp2_with (refine ⟨trivial, ?_⟩; gi_at_call 87; refine (callsIn_wide.2 (HV0.out _ ((Below.refl _ _).alloc (Nat.le_refl _) _))).mono ?_; rintro e w1 ⟨rfl, hb1⟩)
  have a0 : Boxed w1 w.heap.size 64 (.func (.func 87) #[] #[p1, p2, p3]) := below_boxed hb1 (Boxed.new w _ _)
  have HB1 := Lib.hid (((Below.refl _ w).alloc (Nat.le_refl _) _).trans (hb1.mono (by simp)))
  have HA0 := Lib.hid a0
  clear hb1 a0
  gi_wp2_with (refine ⟨trivial, ?_⟩; gi_at_call 106; refine (callsIn_wide.2 (partsF_any _ _)).mono ?_; rintro e w2 ⟨rfl, rfl⟩)
  have b0 : Boxed ((w1.alloc (.cells #[.int .i64 0] 61)).alloc (.cells #[.int .i64 (v 0)] 3)) w.heap.size 64 (.func (.func 87) #[] #[p1, p2, p3]) := (HA0.out.alloc _).alloc _
  have b1 : Boxed ((w1.alloc (.cells #[.int .i64 0] 61)).alloc (.cells #[.int .i64 (v 0)] 3)) w1.heap.size 61 (.int .i64 0) := (Boxed.new w1 _ _).alloc _
  have b2 : Boxed ((w1.alloc (.cells #[.int .i64 0] 61)).alloc (.cells #[.int .i64 (v 0)] 3)) (w1.heap.size + 1) 3 (.int .i64 (v 0)) := by
    have h := Boxed.new (w1.alloc (.cells #[.int .i64 0] 61)) 3 (.int .i64 (v 0))
    rw [World.size_alloc] at h
    exact h
  have hB : Below w.heap.size w ((w1.alloc (.cells #[.int .i64 0] 61)).alloc (.cells #[.int .i64 (v 0)] 3)) := (HB1.out.alloc HB1.out.size _).alloc (by rw [World.size_alloc]; have := HB1.out.size; omega) _
  have hlt1 : w.heap.size < w1.heap.size := HA0.out.lt
  have hsz : ((w1.alloc (.cells #[.int .i64 0] 61)).alloc (.cells #[.int .i64 (v 0)] 3)).heap.size = w1.heap.size + 1 + 1 := by rw [World.size_alloc, World.size_alloc]
  generalize ((w1.alloc (.cells #[.int .i64 0] 61)).alloc (.cells #[.int .i64 (v 0)] 3)) = W0 at b0 b1 b2 hB hsz ⊢
  generalize w1.heap.size = B at *
  clear HA0 HB1
  refine wpIn_rangeFunc_ownG rfl (by omega) (gf := 115) (lb := #[.pointer (some ⟨B + 1 + 1, 0, none⟩)]) rfl trivial (enters_of Tryd.func115 (by kernel_rfl) rfl)
    (HP.out Fence.wide _ trivial rfl (by omega) (B + 1 + 1) _ (by simp [hsz]) (by rw [← hsz]; simp)) kept_t (fun W l o o' _ h ho _ => kept_b W l o o' h ho) (Below.refl _ _) (fun _ => rfl)
    (fun pre W => (Boxed W w.heap.size 64 (.func (.func 87) #[] #[p1, p2, p3]) ∧ Boxed W B 61 (.int .i64 (bo (pre.map Subtype.val) : Nat)) ∧ Boxed W (B + 1) 3 (.int .i64 (v (bo (pre.map Subtype.val))))) ∧ Below w.heap.size w W)
    (fun _ _ _ => False)
    (OwnFrom.and (OwnFrom.and (Own.from (boxed_own _ _ _) _) (OwnFrom.and (Own.from (boxed_own _ _ _) _) (Own.from (boxed_own _ _ _) _))) (ownFrom_below (Nat.le_refl _) (by simp; omega)))
    (fun _ _ _ _ _ hs _ _ => hs)
    ⟨⟨b0.alloc _, by simp only [List.map_nil, HB0.out]; exact b1.alloc _, by simp only [List.map_nil, HB0.out]; exact b2.alloc _⟩, hB.alloc hB.size _⟩
    (fun x => { tmps := #[.int .i64 S, (.func (.func 87) #[] #[p1, p2, p3]), undef, .pointer (some ⟨w.heap.size, 0, none⟩), .int .i64 0, .int .i64 0, .pointer (some ⟨B, 0, none⟩), .pointer (some ⟨B + 1, 0, none⟩), .int .i64 x.1, undef, (.func (.func 87) #[] #[p1, p2, p3]), .int .i64 (v 0), .int .i64 S, .func (.func 115) #[] #[.pointer (some ⟨B + 1 + 1, 0, none⟩)], .int .i64 x.1, undef, undef, undef, undef, undef, undef, undef, undef, undef, undef], defers := [] }) ?assign ?body ?done ?stop
  case assign =>
    intro l x W K hK
    gi_wp2
    exact hK
  case body =>
    rintro l pre x W ⟨⟨c0, c1, c2⟩, hB⟩ hlt
    obtain ⟨x, hx⟩ := x
    have HC := Lib.hid (fun W hW => hv.out x hx W hW)
    have hs := HX.out (pre.map Subtype.val) x
    have hm : (pre ++ [(⟨x, hx⟩ : Part S)]).map Subtype.val = pre.map Subtype.val ++ [x] := by simp
    generalize hb : bo (pre.map Subtype.val) = b at *
    have HM := Lib.hid (hm ▸ hs : bo ((pre ++ [(⟨x, hx⟩ : Part S)]).map Subtype.val) = if v x < v b then x else b)
    have d0 := c0.cell
    have hd : 1 ≤ 4 - 1 - 1 := by omega
    have HC0 := Lib.hid c0
    have HC1 := Lib.hid c1
    have HC2 := Lib.hid c2
    have HB := Lib.hid hB
    clear c0 c1 c2 hB b0 b1 b2 hs hm
    gi_wp2_with fail
    refine ⟨trivial, ?_⟩
    gi_at_call 87
    refine (CallsIn.inRound l (callsIn_wide.2 (HC.out _ HB.out))).mono ?_
    rintro e w2 ⟨rfl, hb2⟩
    have HD0 := Lib.hid (below_boxed hb2 HC0.out)
    have HD1 := Lib.hid (below_boxed hb2 HC1.out)
    have HD2 := Lib.hid (below_boxed hb2 HC2.out)
    have HK := Lib.hid (below_keeps hb2)
    have HBB := Lib.hid (HB.out.trans (hb2.mono HB.out.size))
    have HKE := Lib.hid (fun (hc : W.cell? ⟨B + 1 + 1, 0, none⟩ = some (.int .i64 (S : Int))) => (hb2.cell (p := ⟨B + 1 + 1, 0, none⟩) (cell_lt hc)).trans hc)
    have e1 := HD1.out.cell
    have e2 := HD2.out.cell
    have f1 := HD1.out.frozen
    have f2 := HD2.out.frozen
    clear hb2 d0
    by_cases hlt2 : v x < v b
    · gi_wp2
      refine ⟨(HK.out.trans ((KeepsOthers.setCell _ _ _).trans (KeepsOthers.setCell _ _ _))).from _, fun hc => ?_, ⟨⟨?_, ?_, ?_⟩, ?_⟩⟩
      · exact (World.cell?_setCell_other (a := ⟨B + 1, 0, none⟩) (b := ⟨B + 1 + 1, 0, none⟩) _ _ (fun e => by injection e; omega)).trans ((World.cell?_setCell_other (a := ⟨B, 0, none⟩) (b := ⟨B + 1 + 1, 0, none⟩) _ _ (fun e => by injection e; omega)).trans (HKE.out hc))
      · exact (HD0.out.other (by omega) _).other (by omega) _
      · rw [HM.out, if_pos hlt2]
        exact (HD1.out.set _).other (by omega) _
      · rw [HM.out, if_pos hlt2]
        exact (HD2.out.other (by omega) _).set _
      · exact (HBB.out.setCell (p := ⟨B, 0, none⟩) (by simp; omega) _).setCell (p := ⟨B + 1, 0, none⟩) (by simp; omega) _
    · gi_wp2
      refine ⟨HK.out.from _, fun hc => HKE.out hc, ⟨⟨HD0.out, ?_, ?_⟩, HBB.out⟩⟩
      · rw [HM.out, if_neg (by omega)]
        exact HD1.out
      · rw [HM.out, if_neg (by omega)]
        exact HD2.out
  case done =>
    rintro D ys W hD rfl ⟨⟨c0, c1, c2⟩, hB⟩ hK
    rw [HF.out] at c1 c2
    have d1 := c1.cell
    have d2 := c2.cell
    clear c0 c1 c2 b0 b1 b2
    have hD' : D < W.heap.size := (Array.getElem?_eq_some_iff.1 hK).1
    gi_wp2
    gi_region
    all_goals gi_wp2
    refine ⟨by simp, .inl ⟨_, _, rfl, run_takeDeferred (show W.drew.heap[D]? = _ from hK), ?_⟩⟩
    refine ⟨_, ?_, rfl, hB.drew.trans (belowK_b (w := w) (Nat.le_refl _) W.drew D _ _ (by simp at hD; omega) hK rfl rfl)⟩
    simp [results, Tryd.results86, go_sem]
  case stop =>
    rintro D c pre W _ _ h _
    exact h.elim


set_option maxRecDepth 100000 in
set_option maxHeartbeats 1600000 in
/-- The value of a part and the weights of the other elements. -/
theorem rankC (n : Int) (A : Option Addr) (xs : List Int) (cap : Nat) (D : Option Addr) (ws : List Int) (dap p q F : Nat) (fb sb gb : Nat) (w : World) (h : Hid (Ints w w.heap.size A xs)) (g : Hid (Ints w w.heap.size D ws)) (hbr : Hid (Brujn w))
    (h5 : ws.length ≤ 5) (hv : ∀ k, k < ws.length → -5000 ≤ ws.getD k 0 ∧ ws.getD k 0 ≤ 5000) (hF : F < 1024) (hp : p < 1024) (hq : F ^^^ p = q) (hpx : p < xs.length) (hqw : q < 2 ^ ws.length) (x1 : -1000 ≤ xs.getD p 0) (x2 : xs.getD p 0 ≤ 1000)
    (hf : w.cell? ⟨fb, 1, none⟩ = some (.slice A xs.length cap)) (hs : w.cell? ⟨sb, 0, none⟩ = some (.slice D ws.length dap)) (hg : w.cell? ⟨gb, 0, none⟩ = some (.int .i64 F)) :
    Calls Tryd.prog 87 #[.int .i64 p, .pointer (some ⟨fb, 0, none⟩), .pointer (some ⟨sb, 0, none⟩), .pointer (some ⟨gb, 0, none⟩)] w (RetV w (.int .i64 (xs.getD p 0 + weigh ws q ws.length))) := by
  have HW := Lib.hid (St.start w)
  have HC := Lib.hid (fun W h1 h2 => weigh5I_any D ws dap q W (Lib.hid h1) hv h5 hqw (Lib.hid h2))
  have hxor : bits .xor .i64 (F : Int) (p : Int) = (q : Int) := by rw [xor_nat11 F p (by omega) (by omega), hq]
  have hbd := weigh5_bd hv q ws.length (Nat.le_refl _)
  obtain ⟨b, off, rfl, hbl, hco⟩ := h.out.at_ hpx
  have y1 : -25000 ≤ weigh ws q ws.length := by omega
  have y2 : weigh ws q ws.length ≤ 25000 := by omega
  generalize weigh ws q ws.length = y at HC y1 y2 ⊢
  generalize xs.getD p 0 = x at hco x1 x2 ⊢
  have hw : IntKind.i64.wrap (x + y) = x + y := IntWalk.i64_in _ (by omega)
  obtain ⟨l, hl⟩ : ∃ l, xs.length = l := ⟨_, rfl⟩
  obtain ⟨m, hm⟩ : ∃ m, ws.length = m := ⟨_, rfl⟩
  rw [hl] at hpx hf
  rw [hm] at HC hs
  have hq0 : (0 : Int) ≤ (p : Int) := by omega
  have hqi : (p : Int) < (l : Int) := by omega
  have hfl := cell_ltA hf
  have hsl := cell_ltA hs
  have hgl := cell_ltA hg
  clear hl hm hqw hv hbd hq x1 x2 y1 y2 hF hp h5
  go_enter Tryd.func87, Tryd.ntmps87
  go_wp2
  go_region_held3 (fun w' => w'.cell? ⟨fb, 1, none⟩ = some (.slice (some ⟨b, off, none⟩) l cap) ∧ w'.cell? ⟨sb, 0, none⟩ = some (.slice D m dap) ∧ w'.cell? ⟨gb, 0, none⟩ = some (.int .i64 F) ∧ w'.cell? ⟨b, off + p, none⟩ = some (.int .i64 x)) (first | (refine ⟨?_, ?_, ?_, ?_⟩ <;> assumption) | assumption | go_keep)
    ((go_at_call 60; refine (HC.out _ ?_ ?_).mono ?_; (first | exact g.out | exact (g.out.below HW.out.drew.base).mono HW.out.drew.size); (first | exact hbr.out | exact brujn_on hbr.out HW.out.drew.base); rintro e w2 ⟨rfl, hb2⟩; have HB2 := Lib.hid (HW.out.drew.below hb2); have hf' := (hb2.cell (p := ⟨fb, 1, none⟩) hfl).trans hf; have hs' := (hb2.cell (p := ⟨sb, 0, none⟩) hsl).trans hs; have hg' := (hb2.cell (p := ⟨gb, 0, none⟩) hgl).trans hg; have hc' := (hb2.cell (p := ⟨b, off + p, none⟩) hbl).trans hco; clear hb2))
  go_wp2
  go_ret
  exact ⟨rfl, HB2.out.base⟩


section

variable (n : Int) (A : Option Addr) (xs : List Int) (cap : Nat) (D : Option Addr) (ws : List Int) (dap : Nat) (w : World) (h : Hid (Ints w w.heap.size A xs)) (g : Hid (Ints w w.heap.size D ws)) (hl : ws.length ≤ 1048576)
include h g hl

set_option maxRecDepth 100000 in
set_option maxHeartbeats 1600000 in
theorem rankI_no (q : isFn n xs = false ∨ (isFn n xs = true ∧ isVec ws = false) ∨ (isFn n xs = true ∧ isVec ws = true ∧ (ws.length : Int) ≠ n)) : Calls Tryd.prog 33 #[.agg #[.int .i64 n, .slice A xs.length cap], .slice D ws.length dap] w (RetV w (.tuple #[.int .i64 0, .bool false])) := by
  have HW := Lib.hid (St.start w)
  have HS0 := Lib.hid ((HW.out.alloc [.int .i64 n, .slice A xs.length cap] 26).alloc [.slice D ws.length dap] 24)
  have HV := Lib.hid (fun W h1 => isVecI_any D ws dap W (Lib.hid h1) hl)
  rcases q with q | ⟨q, q2⟩ | ⟨q, q2, q3⟩
  · have HF := Lib.hid q
    clear q
    go_enter Tryd.func33, Tryd.ntmps33
    go_wp2_with (go_at_call 84; refine (isFnI_no n A xs cap _ (Lib.hid ((h.out.below HS0.out.base).mono HS0.out.size)) HF.out).mono ?_; rintro e w3 ⟨rfl, hb⟩; have HS := Lib.hid (HS0.out.below hb); clear hb)
    exact bodyPost_ret (v := .tuple #[.int .i64 0, .bool false]) (by simp [results, Tryd.results33, go_sem]) rfl ⟨rfl, HS.out.base⟩
  · have HF := Lib.hid q
    rw [q2] at HV
    clear q q2
    go_enter Tryd.func33, Tryd.ntmps33
    go_wp2_with (first
      | (go_at_call 84; refine (isFnI_yes n A xs cap _ (Lib.hid ((h.out.below HS0.out.base).mono HS0.out.size)) HF.out).mono ?_; rintro e w3 ⟨rfl, hb⟩; have hS := HS0.out.below hb; obtain ⟨b0, -⟩ := hS.box (i := 0) rfl; have b00 := b0 0 _ rfl; obtain ⟨c0, -⟩ := hS.box (i := 1) rfl; have c00 := c0 0 _ rfl; simp only [World.size_alloc] at b00; have HS := Lib.hid hS; clear hb hS b0 c0)
      | (go_at_call 85; refine (HV.out _ ((g.out.below HS.out.base).mono HS.out.size)).mono ?_; rintro e w4 ⟨rfl, rfl⟩))
    exact bodyPost_ret (v := .tuple #[.int .i64 0, .bool false]) (by simp [results, Tryd.results33, go_sem]) rfl ⟨rfl, HS.out.base⟩
  · have HF := Lib.hid q
    have hne : ((ws.length : Int) != n) = true := bne_iff_ne.2 q3
    rw [q2] at HV
    clear q q2 q3
    go_enter Tryd.func33, Tryd.ntmps33
    go_wp2_with (first
      | (go_at_call 84; refine (isFnI_yes n A xs cap _ (Lib.hid ((h.out.below HS0.out.base).mono HS0.out.size)) HF.out).mono ?_; rintro e w3 ⟨rfl, hb⟩; have hS := HS0.out.below hb; obtain ⟨b0, -⟩ := hS.box (i := 0) rfl; have b00 := b0 0 _ rfl; obtain ⟨c0, -⟩ := hS.box (i := 1) rfl; have c00 := c0 0 _ rfl; simp only [World.size_alloc] at b00; have HS := Lib.hid hS; clear hb hS b0 c0)
      | (go_at_call 85; refine (HV.out _ ((g.out.below HS.out.base).mono HS.out.size)).mono ?_; rintro e w4 ⟨rfl, rfl⟩))
    exact bodyPost_ret (v := .tuple #[.int .i64 0, .bool false]) (by simp [results, Tryd.results33, go_sem]) rfl ⟨rfl, HS.out.base⟩

set_option maxRecDepth 100000 in
set_option maxHeartbeats 1600000 in
theorem rankI_yes (q1 : isFn n xs = true) (q2 : isVec ws = true) (q3 : (ws.length : Int) = n) (hbr : Hid (Brujn w)) : Calls Tryd.prog 33 #[.agg #[.int .i64 n, .slice A xs.length cap], .slice D ws.length dap] w (RetV w (.tuple #[.int .i64 (rankTo xs ws xs.length), .bool true])) := by
  have HW := Lib.hid (St.start w)
  have HS0 := Lib.hid ((HW.out.alloc [.int .i64 n, .slice A xs.length cap] 26).alloc [.slice D ws.length dap] 24)
  have HV := Lib.hid (fun W h1 => isVecI_any D ws dap W (Lib.hid h1) hl)
  have HF := Lib.hid q1
  rw [q2] at HV
  obtain ⟨n0, n5, hlx, hxv⟩ := isFn_yes q1
  obtain ⟨v1, v2⟩ := isVec_yes q2
  obtain ⟨N, rfl⟩ := Int.eq_ofNat_of_zero_le n0
  rw [Int.toNat_natCast] at hlx
  have hwN : ws.length = N := by omega
  have hv : ∀ k, k < ws.length → -5000 ≤ ws.getD k 0 ∧ ws.getD k 0 ≤ 5000 := fun k hk => by have := v2 k hk; omega
  have hne : ((ws.length : Int) != (N : Int)) = false := bne_eq_false_iff_eq.2 q3
  have hp0 := Nat.two_pow_pos N
  have h32 : 2 ^ N ≤ 32 := Nat.le_trans (Nat.pow_le_pow_right (by decide) (show N ≤ 5 by omega)) (by decide)
  have HC := Lib.hid (fun W => compl_any 0 N W (by omega) (by omega))
  rw [Nat.zero_xor] at HC
  have hwb := fun s => weigh5_bd hv s ws.length (Nat.le_refl _)
  have hrl := rank_least (xs := xs) (ws := ws) (n := N) (by omega) hlx (fun s hs => by have := hwb (2 ^ N - 1 - s); have := hxv s (by omega); omega)
  have HL := Lib.hid (fun p1 p2 p3 W hh => least_rank_any (2 ^ N - 1) (by omega) (rankV xs ws (2 ^ N - 1)) p1 p2 p3 W hh)
  rw [hrl]
  have HO := Lib.hid (fun x (hx : x &&& (2 ^ N - 1) = x) => show x < 2 ^ N from by have : x &&& (2 ^ N - 1) ≤ 2 ^ N - 1 := Nat.and_le_right; omega)
  have HVV := Lib.hid (fun x => show rankV xs ws (2 ^ N - 1) x = xs.getD x 0 + weigh ws ((2 ^ N - 1) ^^^ x) ws.length from rfl)
  have HFB := Lib.hid (show 2 ^ N - 1 < 2 ^ N ∧ 2 ^ N ≤ 32 by omega)
  have HXV := Lib.hid hxv
  have HWV := Lib.hid hv
  have HLX := Lib.hid hlx
  have HLW := Lib.hid hwN
  generalize leastTo (rankV xs ws (2 ^ N - 1)) (2 ^ N - 1) (2 ^ N - 1) = r at *
  generalize rankV xs ws (2 ^ N - 1) = v at *
  generalize 2 ^ N - 1 = F at *
  have H5 := Lib.hid v1
  clear q1 q2 q3 n0 n5 hlx hxv v1 v2 hwN hv hp0 h32 hwb hrl hl
  have hmf : ∀ (fn : Fn) (first cap : Array Value) (w : World), (Instr.makeFunc fn first cap).run Tryd.prog w = .ok (.func fn first cap) w := fun _ _ _ _ => rfl
  go_enter Tryd.func33, Tryd.ntmps33
  go_wp2_with (first
    | (go_at_call 84; refine (isFnI_yes N A xs cap _ (Lib.hid ((h.out.below HS0.out.base).mono HS0.out.size)) HF.out).mono ?_; rintro e w3 ⟨rfl, hb⟩; have hS := HS0.out.below hb; obtain ⟨b0, -⟩ := hS.box (i := 0) rfl; have b00 := b0 0 _ rfl; obtain ⟨c0, -⟩ := hS.box (i := 1) rfl; have c00 := c0 0 _ rfl; simp only [World.size_alloc] at b00; have HS := Lib.hid hS; clear hb hS b0 c0)
    | (go_at_call 85; refine (HV.out _ ((g.out.below HS.out.base).mono HS.out.size)).mono ?_; rintro e w4 ⟨rfl, rfl⟩)
    | (go_at_call 59; refine (HC.out _).mono ?_; rintro e w2 ⟨rfl, rfl⟩))
  have HS1 := Lib.hid (HS.out.alloc [.int .i64 (F : Int)] 61)
  refine (HL.out _ _ _ _ (Lib.hid ?_)).mono ?_
  · intro x hx W hW
    have hx2 := HO.out x hx
    have hF2 := HFB.out
    have hW1 := HS1.out.below hW
    have d2 := (hW1.box (i := 2) rfl).1 1 _ rfl
    have d1 := (hW1.box (i := 1) rfl).1 0 _ rfl
    have d0 := (hW1.box (i := 0) rfl).1 0 _ rfl
    simp only [World.size_alloc] at d1
    have hxl : x < xs.length := by rw [HLX.out]; exact hx2
    rw [HVV.out]
    exact rankC (N : Int) A xs cap D ws dap x (F ^^^ x) F _ _ _ W (Lib.hid ((h.out.below hW1.base).mono hW1.size)) (Lib.hid ((g.out.below hW1.base).mono hW1.size)) (Lib.hid (brujn_on hbr.out hW1.base)) H5.out HWV.out (by omega) (by omega) rfl hxl (by rw [HLW.out]; exact Nat.xor_lt_two_pow (by omega) hx2) (HXV.out x hxl).1 (HXV.out x hxl).2 d2 d1 d0
  rintro e w4 ⟨rfl, hb⟩
  have HS4 := Lib.hid (HS1.out.below hb)
  clear hb
  go_wp2
  exact bodyPost_ret (v := .tuple #[.int .i64 (v r), .bool true]) (by simp [results, Tryd.results33, go_sem]) rfl ⟨rfl, HS4.out.base⟩

theorem rankVI_any (hbr : Hid (Brujn w)) : Calls Tryd.prog 33 #[.agg #[.int .i64 n, .slice A xs.length cap], .slice D ws.length dap] w (RetV w (.tuple #[.int .i64 (rankVec n xs ws).1, .bool (rankVec n xs ws).2])) := by
  unfold rankVec
  cases q1 : isFn n xs
  · rw [if_neg (by simp)]
    exact rankI_no n A xs cap D ws dap w h g hl (.inl q1)
  · cases q2 : isVec ws
    · rw [if_neg (by simp)]
      exact rankI_no n A xs cap D ws dap w h g hl (.inr (.inl ⟨q1, q2⟩))
    · by_cases q3 : (ws.length : Int) = n
      · rw [if_pos ⟨rfl, rfl, q3⟩]
        exact rankI_yes n A xs cap D ws dap w h g hl q1 q2 q3 hbr
      · rw [if_neg fun hh => q3 hh.2.2]
        exact rankI_no n A xs cap D ws dap w h g hl (.inr (.inr ⟨q1, q2, q3⟩))

end



end Go.Proofs.YtffbiflgmlabaaaDoor.C
