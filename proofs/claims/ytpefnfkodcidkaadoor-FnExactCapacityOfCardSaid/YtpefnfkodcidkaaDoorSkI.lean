/-
  The contracts of impl.leastSlack, of the method that it hands on, and of weightOf for base vectors.
-/
import Derived.Test.YtpefnfkodcidkaaDoorSkM
import Derived.Test.YtpefnfkodcidkaaDoorPtG
import Derived.Test.YtpefnfkodcidkaaDoorFunI
import Derived.Test.YtpefnfkodcidkaaDoorVal
import Derived.Test.YtpefnfkodcidkaaDoorLpI
import Derived.Test.YtpefnfkodcidkaaDoorCutI
import Derived.Test.YtpefnfkodcidkaaDoorEls
import Derived.Test.YtpefnfkodcidkaaDoorWsM
import Derived.RangeFuncNested
import Derived.RangeFuncBound
import Derived.Laws.EntriesVeiled
namespace Go.Proofs.YtpefnfkodcidkaaDoor.C
open Go.RowKit Go.Shelf K M
set_option linter.unusedVariables false
set_option linter.unusedSimpArgs false
attribute [local go_sem] Oper.semAt_some

set_option maxRecDepth 100000 in
set_option maxHeartbeats 1600000 in
theorem weigh5I_any (A : Option Addr) (ws : List Int) (cap S : Nat) (w : World) (h : Hid (Ints w w.heap.size A ws)) (hv : ∀ k, k < ws.length → -5000 ≤ ws.getD k 0 ∧ ws.getD k 0 ≤ 5000) (hm : ws.length ≤ 5) (hS : S < 2 ^ ws.length) (hb : Hid (Brujn w)) :
    Calls Tryd.prog 35 #[.slice A ws.length cap, .int .i64 S] w (RetV w (.int .i64 (weigh ws S ws.length))) := by
  have hS32 : S < 1024 := Nat.lt_of_lt_of_le hS (Nat.le_trans (Nat.pow_le_pow_right (by decide) hm) (by decide))
  have HT := Lib.hid (weigh_els ws S ws.length hS (by omega))
  have hat := Lib.hid (fun k (hk : k < (els S).length) => els_at S ws.length hS hk)
  have hdr := Lib.hid (fun k (hk : k < (els S).length) => wsum_drop ws (els S) hk)
  have hlen := els_len S
  have HE := Lib.hid (listI_any S w hS32 hb)
  obtain ⟨m, hxm⟩ : ∃ m, ws.length = m := ⟨_, rfl⟩
  rw [hxm] at hm HT hat hS ⊢
  generalize els S = es at *
  obtain ⟨l, hel⟩ : ∃ l, es.length = l := ⟨_, rfl⟩
  have HW := Lib.hid (St.start w)
  have HX := Lib.hid hxm
  have HV := Lib.hid hv
  have HL := Lib.hid hel
  rw [hel] at hlen hat hdr
  clear hv hxm hS hS32
  go_enter Tryd.func35, Tryd.ntmps35
  go_wp2_with fail
  refine HE.out.mono ?_
  rintro e w1 ⟨V, cc, rfl, ho, hb1⟩
  rw [hel]
  rw [hel] at ho
  have HS1 := Lib.hid (HW.out.newI hb1 ho)
  rw [hel] at HS1
  clear ho hb1 hel
  go_wp2
  go_loopw [5, 11] (fun y i wr => ∃ (k : Nat) (t : Int), i = .int .i64 k ∧ k ≤ l ∧ y = .int .i64 t ∧ Hid (-5000 * (k : Int) ≤ t ∧ t ≤ 5000 * (k : Int)) ∧ Hid (t + wsum ws (es.drop k) = weigh ws S m) ∧ St w wr [il (.slice V l cc) l es]) (fun _ i _ => l - (intOf i).toNat)
  case atStart => exact ⟨0, 0, rfl, Nat.zero_le _, rfl, Lib.hid (by omega), Lib.hid (by rw [List.drop_zero, HT.out]; omega), HS1.out⟩
  case round =>
    obtain ⟨k, t, rfl, hk, rfl, hbd, hsum, hS⟩ := hrel
    have HS := Lib.hid hS
    clear hS
    by_cases hlt : k < l
    · obtain ⟨b, off, rfl, hbl, hc0⟩ := (HS.out.ints (i := 0) rfl).at_ (k := k) (by rw [HL.out]; exact hlt)
      obtain ⟨g1, g2⟩ := hat.out k hlt
      have hd := hdr.out k hlt
      obtain ⟨E, hE⟩ : ∃ E : Nat, es.getD k 0 = (E : Int) := ⟨_, (Int.toNat_of_nonneg g1).symm⟩
      rw [hE] at hc0 g1 g2 hd
      rw [Int.toNat_natCast] at hd
      have hEm : E < m := by omega
      obtain ⟨b', off', rfl, hbl', hc'⟩ := h.out.at_ (k := E) (by rw [HX.out]; exact hEm)
      have d1 := (HS.out.base.cell (p := ⟨b', off' + E, none⟩) hbl').trans hc'
      obtain ⟨v1, v2⟩ := HV.out E (by rw [HX.out]; exact hEm)
      obtain ⟨t1, t2⟩ := hbd.out
      have hs := hsum.out
      rw [hd] at hs
      generalize ws.getD E 0 = x at d1 v1 v2 hs
      have hw : IntKind.i64.wrap (t + x) = t + x := IntWalk.i64_in _ (by omega)
      have HB := Lib.hid (show -5000 * ((k + 1 : Nat) : Int) ≤ t + x ∧ t + x ≤ 5000 * ((k + 1 : Nat) : Int) by omega)
      have HU := Lib.hid (show (t + x) + wsum ws (es.drop (k + 1)) = weigh ws S m by omega)
      have hk0 : (0 : Int) ≤ (k : Int) := by omega
      have hkl : (k : Int) < (l : Int) := by omega
      have hE0 : (0 : Int) ≤ (E : Int) := by omega
      have hEi : (E : Int) < (m : Int) := by omega
      clear hc' hs hd t1 t2 hE
      go_wp2
      go_roundw
      case rel => exact ⟨k + 1, t + x, by go_num, by omega, rfl, HB, HU, HS.out⟩
      case measure => simp [intOf]; omega
    · obtain rfl : k = l := by omega
      have hkl : ¬ (k : Int) < (k : Int) := by omega
      have hfin := hsum.out
      rw [List.drop_of_length_le (by rw [HL.out]; exact Nat.le_refl _)] at hfin
      have HF := Lib.hid (show t = weigh ws S m by simpa [wsum] using hfin)
      clear hfin
      go_wp2
      go_ret
      exact ⟨by rw [HF.out]; rfl, HS.out.base⟩

theorem or_val (S P : Nat) (hS : S < 4294967296) (hP : P < 4294967296) : bits .or .i64 (S : Int) (P : Int) = ((S ||| P : Nat) : Int) := by
  have hx : S ||| P < 2 ^ 32 := Nat.or_lt_two_pow (by omega) (by omega)
  have ofI : ∀ a : Nat, a < 9223372036854775808 → (BitVec.ofInt 64 (a : Int)).toNat = a := fun a ha => by
    rw [BitVec.ofInt_natCast, BitVec.toNat_ofNat]; exact Nat.mod_eq_of_lt (by omega)
  show IntKind.i64.wrap ((BitVec.ofInt 64 (S : Int) ||| BitVec.ofInt 64 (P : Int)).toNat : Int) = _
  rw [BitVec.toNat_or, ofI S (by omega), ofI P (by omega), IntKind.wrap_i64]
  omega

set_option maxRecDepth 100000 in
set_option maxHeartbeats 1600000 in
/-- How far the weight of a set lies below its value. -/
theorem slackC (n : Int) (A : Option Addr) (xs : List Int) (cap : Nat) (D : Option Addr) (ws : List Int) (dap c s q : Nat) (w : World) (h : Hid (Ints w w.heap.size A xs)) (g : Hid (Ints w w.heap.size D ws)) (hbr : Hid (Brujn w))
    (h5 : ws.length ≤ 5) (hv : ∀ k, k < ws.length → -5000 ≤ ws.getD k 0 ∧ ws.getD k 0 ≤ 5000) (hc : c < 32) (hs : s < 32) (hq : c ||| s = q) (hqx : q < xs.length) (hqw : q < 2 ^ ws.length) (x1 : -1000 ≤ xs.getD q 0) (x2 : xs.getD q 0 ≤ 1000) :
    Calls Tryd.prog 36 #[.agg #[.int .i64 n, .slice A xs.length cap, .slice D ws.length dap, .int .i64 c], .int .i64 s] w (RetV w (.int .i64 (xs.getD q 0 - weigh ws q ws.length))) := by
  have HW := Lib.hid (St.start w)
  have HC := Lib.hid (fun W h1 h2 => weigh5I_any D ws dap q W (Lib.hid h1) hv h5 hqw (Lib.hid h2))
  have hor : bits .or .i64 (c : Int) (s : Int) = (q : Int) := by rw [or_val c s (by omega) (by omega), hq]
  have hbd := weigh5_bd hv q ws.length (Nat.le_refl _)
  obtain ⟨b, off, rfl, hbl, hco⟩ := h.out.at_ hqx
  have y1 : -25000 ≤ weigh ws q ws.length := by omega
  have y2 : weigh ws q ws.length ≤ 25000 := by omega
  generalize weigh ws q ws.length = y at HC y1 y2 ⊢
  generalize xs.getD q 0 = x at hco x1 x2 ⊢
  have hw : IntKind.i64.wrap (x - y) = x - y := IntWalk.i64_in _ (by omega)
  obtain ⟨p, hp⟩ : ∃ p, xs.length = p := ⟨_, rfl⟩
  obtain ⟨m, hm⟩ : ∃ m, ws.length = m := ⟨_, rfl⟩
  rw [hp] at hqx ⊢
  rw [hm] at HC ⊢
  have hq0 : (0 : Int) ≤ (q : Int) := by omega
  have hqi : (q : Int) < (p : Int) := by omega
  clear hp hm hqw hv hbd hq x1 x2 y1 y2
  go_enter Tryd.func36, Tryd.ntmps36
  go_wp2
  have HS := Lib.hid (HW.out.alloc [.int .i64 n, .slice (some ⟨b, off, none⟩) p cap, .slice D m dap, .int .i64 c] 51)
  have hbl2 : b < (w.alloc (.cells #[.int .i64 n, .slice (some ⟨b, off, none⟩) p cap, .slice D m dap, .int .i64 c] 51)).heap.size := by rw [World.size_alloc]; omega
  generalize w.alloc (.cells #[.int .i64 n, .slice (some ⟨b, off, none⟩) p cap, .slice D m dap, .int .i64 c] 51) = w1 at HS hbl2 ⊢
  obtain ⟨b0, -⟩ := HS.out.box (i := 0) rfl
  have b01 := b0 1 _ rfl
  have b02 := b0 2 _ rfl
  have hc1 := (HS.out.base.cell (p := ⟨b, off + q, none⟩) hbl).trans hco
  have hcl := (HS.out.lt (i := 0) rfl).2
  clear b0 hco
  go_region_held3 (fun w' => w'.cell? ⟨w.heap.size, 1, none⟩ = some (.slice (some ⟨b, off, none⟩) p cap) ∧ w'.cell? ⟨w.heap.size, 2, none⟩ = some (.slice D m dap) ∧ w'.cell? ⟨b, off + q, none⟩ = some (.int .i64 x)) (first | (refine ⟨?_, ?_, ?_⟩ <;> assumption) | assumption | go_keep)
    ((go_at_call 35; refine (HC.out _ ?_ ?_).mono ?_; (first | exact (g.out.below HS.out.base).mono HS.out.size | exact (g.out.below HS.out.drew.base).mono HS.out.drew.size); (first | exact brujn_on hbr.out HS.out.base | exact brujn_on hbr.out HS.out.drew.base); rintro e w2 ⟨rfl, hb2⟩; have HB2 := Lib.hid (HS.out.drew.below hb2); have hw1' := (hb2.cell (p := ⟨w.heap.size, 1, none⟩) hcl).trans b01; have hw2' := (hb2.cell (p := ⟨w.heap.size, 2, none⟩) hcl).trans b02; have hc' := (hb2.cell (p := ⟨b, off + q, none⟩) hbl2).trans hc1; clear hb2))
  go_wp2
  go_ret
  exact ⟨rfl, HB2.out.base⟩

theorem below_keeps {W W' : World} (h : Below W.heap.size W W') : KeepsOthers W W' := ⟨h.size, fun k o hk _ => (h.block k (Array.getElem?_eq_some_iff.1 hk).1).trans hk⟩
theorem cell_lt {W : World} {sb : Nat} {v : Value} (hc : W.cell? ⟨sb, 0, none⟩ = some v) : sb < W.heap.size := by
  rcases Nat.lt_or_ge sb W.heap.size with h | h
  · exact h
  · rw [World.cell?, Array.getElem?_eq_none h] at hc
    cases hc
theorem below_boxed {W W' : World} {B : Nat} {t : TypeId} {v : Value} (h : Below W.heap.size W W') (b : Boxed W B t v) : Boxed W' B t v := (h.block B b.lt).trans b

set_option maxRecDepth 100000 in
set_option maxHeartbeats 4000000 in
/-- The least part of S for a closure that makes memory, and its value. -/
theorem least_slack_any (S : Nat) (hS : S < 32) (v : Nat → Int) (p : Value) (w : World)
    (hv : Hid (∀ x, x &&& S = x → ∀ W, Below w.heap.size w W → Calls Tryd.prog 36 #[p, .int .i64 (x : Nat)] W (RetV W (.int .i64 (v x))))) :
    Calls Tryd.prog 43 #[.int .i64 S, .func (.func 36) #[p] #[]] w fun e W' => e = .returned (.tuple #[.int .i64 (leastTo v S S : Nat), .int .i64 (v (leastTo v S S))]) ∧ Below w.heap.size w W' := by
  have HF := Lib.hid (best_partsP v hS)
  have HX := Lib.hid (best_snoc v)
  have HB0 := Lib.hid (best_nil v)
  have HV0 := Lib.hid (hv.out 0 (by simp))
  have HP := Lib.hid (fun F n hF hro hn sb W hw hc => partsP_stops F n hF hro hn sb S hS W hw hc)
  generalize bestOf v = bo at HF HX HB0
  generalize leastTo v S S = r at HF ⊢
  refine (callsIn_wide (n := 4)).1 ?_
  refine callsIn_of_wp_marks Tryd.func43 rfl trivial ?_ rfl
  simp only [Tryd.ntmps43, List.size_toArray, List.length_cons, List.length_nil, Nat.reduceAdd, Nat.reduceSub, Array.replicate_succ, Array.replicate_zero, List.push_toArray, List.append_toArray, List.nil_append, List.cons_append]
  gi_wp2_with (refine ⟨trivial, ?_⟩; gi_at_call 36; refine (callsIn_wide.2 (HV0.out _ ((Below.refl _ _).alloc (Nat.le_refl _) _))).mono ?_; rintro e w1 ⟨rfl, hb1⟩)
  have a0 : Boxed w1 w.heap.size 52 (.func (.func 36) #[p] #[]) := below_boxed hb1 (Boxed.new w _ _)
  have HB1 := Lib.hid (((Below.refl _ w).alloc (Nat.le_refl _) _).trans (hb1.mono (by simp)))
  have HA0 := Lib.hid a0
  clear hb1 a0
  gi_wp2_with (refine ⟨trivial, ?_⟩; gi_at_call 45; refine (callsIn_wide.2 (partsF_any _ _)).mono ?_; rintro e w2 ⟨rfl, rfl⟩)
  have b0 : Boxed ((w1.alloc (.cells #[.int .i64 0] 46)).alloc (.cells #[.int .i64 (v 0)] 3)) w.heap.size 52 (.func (.func 36) #[p] #[]) := (HA0.out.alloc _).alloc _
  have b1 : Boxed ((w1.alloc (.cells #[.int .i64 0] 46)).alloc (.cells #[.int .i64 (v 0)] 3)) w1.heap.size 46 (.int .i64 0) := (Boxed.new w1 _ _).alloc _
  have b2 : Boxed ((w1.alloc (.cells #[.int .i64 0] 46)).alloc (.cells #[.int .i64 (v 0)] 3)) (w1.heap.size + 1) 3 (.int .i64 (v 0)) := by
    have h := Boxed.new (w1.alloc (.cells #[.int .i64 0] 46)) 3 (.int .i64 (v 0))
    rw [World.size_alloc] at h
    exact h
  have hB : Below w.heap.size w ((w1.alloc (.cells #[.int .i64 0] 46)).alloc (.cells #[.int .i64 (v 0)] 3)) := (HB1.out.alloc HB1.out.size _).alloc (by rw [World.size_alloc]; have := HB1.out.size; omega) _
  have hlt1 : w.heap.size < w1.heap.size := HA0.out.lt
  have hsz : ((w1.alloc (.cells #[.int .i64 0] 46)).alloc (.cells #[.int .i64 (v 0)] 3)).heap.size = w1.heap.size + 1 + 1 := by rw [World.size_alloc, World.size_alloc]
  generalize ((w1.alloc (.cells #[.int .i64 0] 46)).alloc (.cells #[.int .i64 (v 0)] 3)) = W0 at b0 b1 b2 hB hsz ⊢
  generalize w1.heap.size = B at *
  clear HA0 HB1
  refine wpIn_rangeFunc_ownG rfl (by omega) (gf := 47) (lb := #[.pointer (some ⟨B + 1 + 1, 0, none⟩)]) rfl trivial (enters_of Tryd.func47 (by kernel_rfl) rfl)
    (HP.out Fence.wide _ trivial rfl (by omega) (B + 1 + 1) _ (by simp [hsz]) (by rw [← hsz]; simp)) kept_t (fun W l o o' _ h ho _ => kept_b W l o o' h ho) (Below.refl _ _) (fun _ => rfl)
    (fun pre W => (Boxed W w.heap.size 52 (.func (.func 36) #[p] #[]) ∧ Boxed W B 46 (.int .i64 (bo (pre.map Subtype.val) : Nat)) ∧ Boxed W (B + 1) 3 (.int .i64 (v (bo (pre.map Subtype.val))))) ∧ Below w.heap.size w W)
    (fun _ _ _ => False)
    (OwnFrom.and (OwnFrom.and (Own.from (boxed_own _ _ _) _) (OwnFrom.and (Own.from (boxed_own _ _ _) _) (Own.from (boxed_own _ _ _) _))) (ownFrom_below (Nat.le_refl _) (by simp; omega)))
    (fun _ _ _ _ _ hs _ _ => hs)
    ⟨⟨b0.alloc _, by simp only [List.map_nil, HB0.out]; exact b1.alloc _, by simp only [List.map_nil, HB0.out]; exact b2.alloc _⟩, hB.alloc hB.size _⟩
    (fun x => { tmps := #[.int .i64 S, (.func (.func 36) #[p] #[]), undef, .pointer (some ⟨w.heap.size, 0, none⟩), .int .i64 0, .int .i64 0, .pointer (some ⟨B, 0, none⟩), .pointer (some ⟨B + 1, 0, none⟩), .int .i64 x.1, undef, (.func (.func 36) #[p] #[]), .int .i64 (v 0), .int .i64 S, .func (.func 47) #[] #[.pointer (some ⟨B + 1 + 1, 0, none⟩)], .int .i64 x.1, undef, undef, undef, undef, undef, undef, undef, undef, undef, undef], defers := [] }) ?assign ?body ?done ?stop
  case assign =>
    intro l x W K hK
    gi_wp2
    exact hK
  case body =>
    rintro l pre x W ⟨⟨c0, c1, c2⟩, hB⟩ hlt
    obtain ⟨x, hx⟩ := x
    have HC := Lib.hid (fun W hW => hv.out x hx W hW)
    have hs := HX.out (pre.map Subtype.val) x
    have hm : (pre ++ [(⟨x, hx⟩ : Part S)]).map Subtype.val = pre.map Subtype.val ++ [x] := by simp
    generalize hb : bo (pre.map Subtype.val) = b at *
    have HM := Lib.hid (hm ▸ hs : bo ((pre ++ [(⟨x, hx⟩ : Part S)]).map Subtype.val) = if v x < v b then x else b)
    have d0 := c0.cell
    have hd : 1 ≤ 4 - 1 - 1 := by omega
    have HC0 := Lib.hid c0
    have HC1 := Lib.hid c1
    have HC2 := Lib.hid c2
    have HB := Lib.hid hB
    clear c0 c1 c2 hB b0 b1 b2 hs hm
    gi_wp2_with fail
    refine ⟨trivial, ?_⟩
    gi_at_call 36
    refine (CallsIn.inRound l (callsIn_wide.2 (HC.out _ HB.out))).mono ?_
    rintro e w2 ⟨rfl, hb2⟩
    have HD0 := Lib.hid (below_boxed hb2 HC0.out)
    have HD1 := Lib.hid (below_boxed hb2 HC1.out)
    have HD2 := Lib.hid (below_boxed hb2 HC2.out)
    have HK := Lib.hid (below_keeps hb2)
    have HBB := Lib.hid (HB.out.trans (hb2.mono HB.out.size))
    have HKE := Lib.hid (fun (hc : W.cell? ⟨B + 1 + 1, 0, none⟩ = some (.int .i64 (S : Int))) => (hb2.cell (p := ⟨B + 1 + 1, 0, none⟩) (cell_lt hc)).trans hc)
    have e1 := HD1.out.cell
    have e2 := HD2.out.cell
    have f1 := HD1.out.frozen
    have f2 := HD2.out.frozen
    clear hb2 d0
    by_cases hlt2 : v x < v b
    · gi_wp2
      refine ⟨(HK.out.trans ((KeepsOthers.setCell _ _ _).trans (KeepsOthers.setCell _ _ _))).from _, fun hc => ?_, ⟨⟨?_, ?_, ?_⟩, ?_⟩⟩
      · exact (World.cell?_setCell_other (a := ⟨B + 1, 0, none⟩) (b := ⟨B + 1 + 1, 0, none⟩) _ _ (fun e => by injection e; omega)).trans ((World.cell?_setCell_other (a := ⟨B, 0, none⟩) (b := ⟨B + 1 + 1, 0, none⟩) _ _ (fun e => by injection e; omega)).trans (HKE.out hc))
      · exact (HD0.out.other (by omega) _).other (by omega) _
      · rw [HM.out, if_pos hlt2]
        exact (HD1.out.set _).other (by omega) _
      · rw [HM.out, if_pos hlt2]
        exact (HD2.out.other (by omega) _).set _
      · exact (HBB.out.setCell (p := ⟨B, 0, none⟩) (by simp; omega) _).setCell (p := ⟨B + 1, 0, none⟩) (by simp; omega) _
    · gi_wp2
      refine ⟨HK.out.from _, fun hc => HKE.out hc, ⟨⟨HD0.out, ?_, ?_⟩, HBB.out⟩⟩
      · rw [HM.out, if_neg (by omega)]
        exact HD1.out
      · rw [HM.out, if_neg (by omega)]
        exact HD2.out
  case done =>
    rintro D ys W hD rfl ⟨⟨c0, c1, c2⟩, hB⟩ hK
    rw [HF.out] at c1 c2
    have d1 := c1.cell
    have d2 := c2.cell
    clear c0 c1 c2 b0 b1 b2
    have hD' : D < W.heap.size := (Array.getElem?_eq_some_iff.1 hK).1
    gi_wp2
    gi_region
    all_goals gi_wp2
    refine ⟨by simp, .inl ⟨_, _, rfl, run_takeDeferred (show W.drew.heap[D]? = _ from hK), ?_⟩⟩
    refine ⟨_, ?_, rfl, hB.drew.trans (belowK_b (w := w) (Nat.le_refl _) W.drew D _ _ (by simp at hD; omega) hK rfl rfl)⟩
    simp [results, Tryd.results43, go_sem]
  case stop =>
    rintro D c pre W _ _ h _
    exact h.elim


end Go.Proofs.YtpefnfkodcidkaaDoor.C
