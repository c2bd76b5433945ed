/-
  The contracts of impl.BestOrder, MaximumFor, negativesOf and MinimumFor.
-/
import Derived.Test.YtlbefommcahkeaaLnM
import Derived.Test.YtlbefommcahkeaaOrdJ
import Derived.Test.YtlbefommcahkeaaGaI
import Derived.Test.YtlbefommcahkeaaPrI
import Derived.Test.YtlbefommcahkeaaSubI
import Derived.Test.YtlbefommcahkeaaCopy
import Derived.Test.YtlbefommcahkeaaRet3
namespace Go.Proofs.Ytlbefommcahkeaa.M
set_option linter.unusedVariables false
/-- The numbers of a list, each turned about, as a machine does it. -/
def negW (ws : List Int) : List Int := tab ws.length fun k => IntKind.i64.wrap (-ws.getD k 0)
theorem negW_len (ws : List Int) : (negW ws).length = ws.length := tab_length _ _
theorem negW_at (ws : List Int) {k : Nat} (hk : k < ws.length) : (negW ws).getD k 0 = IntKind.i64.wrap (-ws.getD k 0) := by unfold negW; rw [tab_at _ hk]
theorem negW_vec {ws : List Int} (h : isVec ws = true) : negW ws = negV ws := by
  obtain ⟨-, hv⟩ := isVec_yes h
  refine List.ext_getElem (by rw [negW_len, negV_len]) fun k h1 h2 => ?_
  rw [negW_len] at h1
  have e1 := negW_at ws h1
  have e2 := negV_at ws h1
  have := hv k h1
  rw [List.getD_eq_getElem?_getD, List.getElem?_eq_getElem (by rw [negW_len]; exact h1), Option.getD_some] at e1
  rw [List.getD_eq_getElem?_getD, List.getElem?_eq_getElem (by rw [negV_len]; exact h1), Option.getD_some] at e2
  rw [e1, e2, IntWalk.i64_in _ (by omega)]
theorem wrap_back {x : Int} (h1 : -9223372036854775808 ≤ x) (h2 : x ≤ 9223372036854775807) (h3 : -1000 ≤ IntKind.i64.wrap (-x)) (h4 : IntKind.i64.wrap (-x) ≤ 1000) : -1000 ≤ x ∧ x ≤ 1000 := by
  rcases Int.lt_or_le (-9223372036854775808) x with h | h
  · rw [IntWalk.i64_in _ (by omega)] at h3 h4
    omega
  · obtain rfl : x = -9223372036854775808 := by omega
    rw [IntKind.wrap_i64] at h3 h4
    omega
theorem negW_back {ws : List Int} (hr : ∀ x ∈ ws, -9223372036854775808 ≤ x ∧ x ≤ 9223372036854775807) (h : isVec (negW ws) = true) : isVec ws = true := by
  obtain ⟨h5, hv⟩ := isVec_yes h
  rw [negW_len] at h5
  refine isVec_mk h5 fun k hk => ?_
  have := hv k (by rw [negW_len]; exact hk)
  rw [negW_at ws hk] at this
  have e : ws.getD k 0 = ws[k] := by rw [List.getD_eq_getElem?_getD, List.getElem?_eq_getElem hk]; rfl
  have hm := hr ws[k] (List.getElem_mem hk)
  rw [← e] at hm
  exact wrap_back hm.1 hm.2 this.1 this.2
theorem maxFor_neg (n : Int) (xs : List Int) {ws : List Int} (hr : ∀ x ∈ ws, -9223372036854775808 ≤ x ∧ x ≤ 9223372036854775807) :
    (-(maxFor n xs (negW ws)).1, (maxFor n xs (negW ws)).2.1, (maxFor n xs (negW ws)).2.2) = minFor n xs ws := by
  unfold maxFor minFor
  cases e : fit9 n xs ws
  · have e2 : fit9 n xs (negW ws) = false := by
      cases e3 : fit9 n xs (negW ws)
      · rfl
      · obtain ⟨h1, h2, h3, h4⟩ := fit9_yes e3
        rw [negW_len] at h4
        have h5 := negW_back hr h3
        rw [← e]
        unfold fit9
        rw [h1, h2, h5, decide_eq_true h4]
        rfl
    rw [e2]
    rfl
  · have hv := (fit9_yes e).2.2.1
    rw [negW_vec hv, fit9_neg e]
    rfl
theorem maxFor_small {n : Int} {xs ws : List Int} : -10000000 ≤ (maxFor n xs ws).1 ∧ (maxFor n xs ws).1 ≤ 10000000 := by
  unfold maxFor
  split
  · rename_i h
    have h1 := best_part h ws.length (Nat.le_refl _)
    have h2 := (isVec_yes (fit9_yes h).2.2.1).1
    unfold bestN
    dsimp only
    omega
  · dsimp only
    omega

end Go.Proofs.Ytlbefommcahkeaa.M
namespace Go.Proofs.Ytlbefommcahkeaa.C
open Go.RowKit K M
set_option linter.unusedVariables false
set_option linter.unusedSimpArgs false
set_option linter.unusedSectionVars false


section

variable (n : Int) (A : Option Addr) (xs : List Int) (cap : Nat) (D : Option Addr) (ws : List Int) (dap : Nat) (w : World) (h : Hid (Ints w w.heap.size A xs)) (g : Hid (Ints w w.heap.size D ws)) (hl : ws.length ≤ 1048576)
include h g hl
set_option maxRecDepth 100000 in
set_option maxHeartbeats 1600000 in
theorem bestI_ground (q : isGround n xs = false) : Calls Try.prog 11 #[.agg #[.int .i64 n, .slice A xs.length cap], .slice D ws.length dap] w (RetIB w [] false) := by
  have HW := Lib.hid (St.start w)
  have HS0 := Lib.hid (HW.out.alloc [.int .i64 n, .slice A xs.length cap] 28)
  have HG := Lib.hid (fun W h1 => groundI_any n A xs cap W (Lib.hid h1))
  rw [q] at HG
  clear q
  go_enter Try.func11, Try.ntmps11
  go_wp2_with (go_at_call 26; refine (HG.out _ ((h.out.below HS0.out.base).mono HS0.out.size)).mono ?_; rintro e w2 ⟨rfl, hb⟩; have HS := Lib.hid (HS0.out.below hb); clear hb)
  go_ret2
  exact ⟨none, 0, rfl, K.Own.nil _ _, HS.out.base⟩

set_option maxRecDepth 100000 in
set_option maxHeartbeats 1600000 in
theorem bestI_sub (q : isGround n xs = true) (q2 : isSub n xs = false) : Calls Try.prog 11 #[.agg #[.int .i64 n, .slice A xs.length cap], .slice D ws.length dap] w (RetIB w [] false) := by
  have HW := Lib.hid (St.start w)
  have HS0 := Lib.hid (HW.out.alloc [.int .i64 n, .slice A xs.length cap] 28)
  have HG := Lib.hid (fun W h1 => groundI_any n A xs cap W (Lib.hid h1))
  have HB := Lib.hid (fun W h1 => subI_any n A xs cap W (Lib.hid h1))
  rw [q] at HG
  rw [q2] at HB
  clear q q2
  go_enter Try.func11, Try.ntmps11
  go_wp2_with (first
    | (go_at_call 26; refine (HG.out _ ((h.out.below HS0.out.base).mono HS0.out.size)).mono ?_; rintro e w2 ⟨rfl, hb⟩; have hS := HS0.out.below hb; obtain ⟨b0, -⟩ := hS.box (i := 0) rfl; have b00 := b0 0 _ rfl; have b01 := b0 1 _ rfl; have HS := Lib.hid hS; clear hb hS b0)
    | (go_at_call 27; refine (HB.out _ ((h.out.below HS.out.base).mono HS.out.size)).mono ?_; rintro e w3 ⟨rfl, hb⟩; have HS2 := Lib.hid (HS.out.below hb); clear hb))
  go_ret2
  exact ⟨none, 0, rfl, K.Own.nil _ _, HS2.out.base⟩

set_option maxRecDepth 100000 in
set_option maxHeartbeats 1600000 in
theorem bestI_len (q : isGround n xs = true) (q2 : isSub n xs = true) (q3 : (ws.length : Int) ≠ n) : Calls Try.prog 11 #[.agg #[.int .i64 n, .slice A xs.length cap], .slice D ws.length dap] w (RetIB w [] false) := by
  have HW := Lib.hid (St.start w)
  have HS0 := Lib.hid (HW.out.alloc [.int .i64 n, .slice A xs.length cap] 28)
  have HG := Lib.hid (fun W h1 => groundI_any n A xs cap W (Lib.hid h1))
  have HB := Lib.hid (fun W h1 => subI_any n A xs cap W (Lib.hid h1))
  have hne : ((ws.length : Int) != n) = true := bne_iff_ne.2 q3
  rw [q] at HG
  rw [q2] at HB
  clear q q2 q3
  go_enter Try.func11, Try.ntmps11
  go_wp2_with (first
    | (go_at_call 26; refine (HG.out _ ((h.out.below HS0.out.base).mono HS0.out.size)).mono ?_; rintro e w2 ⟨rfl, hb⟩; have hS := HS0.out.below hb; obtain ⟨b0, -⟩ := hS.box (i := 0) rfl; have b00 := b0 0 _ rfl; have b01 := b0 1 _ rfl; have HS := Lib.hid hS; clear hb hS b0)
    | (go_at_call 27; refine (HB.out _ ((h.out.below HS.out.base).mono HS.out.size)).mono ?_; rintro e w3 ⟨rfl, hb⟩; have hS := HS.out.below hb; obtain ⟨b0, -⟩ := hS.box (i := 0) rfl; have c00 := b0 0 _ rfl; have c01 := b0 1 _ rfl; have HS2 := Lib.hid hS; clear hb hS b0))
  go_ret2
  exact ⟨none, 0, rfl, K.Own.nil _ _, HS2.out.base⟩

set_option maxRecDepth 100000 in
set_option maxHeartbeats 1600000 in
theorem bestI_go (q : isGround n xs = true) (q2 : isSub n xs = true) (q3 : (ws.length : Int) = n) : Calls Try.prog 11 #[.agg #[.int .i64 n, .slice A xs.length cap], .slice D ws.length dap] w (RetIB w (orderFor ws).1 (orderFor ws).2) := by
  have HW := Lib.hid (St.start w)
  have HS0 := Lib.hid (HW.out.alloc [.int .i64 n, .slice A xs.length cap] 28)
  have HG := Lib.hid (fun W h1 => groundI_any n A xs cap W (Lib.hid h1))
  have HB := Lib.hid (fun W h1 => subI_any n A xs cap W (Lib.hid h1))
  have HO := Lib.hid (fun W h1 => ordI_any D ws dap W (Lib.hid h1) hl)
  have hne : ((ws.length : Int) != n) = false := bne_eq_false_iff_eq.2 q3
  generalize orderFor ws = ob at HO ⊢
  obtain ⟨os, ok⟩ := ob
  dsimp only at HO ⊢
  rw [q] at HG
  rw [q2] at HB
  clear q q2 q3
  go_enter Try.func11, Try.ntmps11
  go_wp2_with (first
    | (go_at_call 26; refine (HG.out _ ((h.out.below HS0.out.base).mono HS0.out.size)).mono ?_; rintro e w2 ⟨rfl, hb⟩; have hS := HS0.out.below hb; obtain ⟨b0, -⟩ := hS.box (i := 0) rfl; have b00 := b0 0 _ rfl; have b01 := b0 1 _ rfl; have HS := Lib.hid hS; clear hb hS b0)
    | (go_at_call 27; refine (HB.out _ ((h.out.below HS.out.base).mono HS.out.size)).mono ?_; rintro e w3 ⟨rfl, hb⟩; have hS := HS.out.below hb; obtain ⟨b0, -⟩ := hS.box (i := 0) rfl; have c00 := b0 0 _ rfl; have c01 := b0 1 _ rfl; have HS2 := Lib.hid hS; clear hb hS b0)
    | (go_at_call 28; refine (HO.out _ ((g.out.below HS2.out.base).mono HS2.out.size)).mono ?_; rintro e w4 ⟨V, c, rfl, ho, hb⟩; have HS3 := Lib.hid (HS2.out.newI hb ho); clear ho hb))
  go_ret2
  exact ⟨V, c, rfl, HS3.out.ownI (i := 0) rfl, HS3.out.base⟩

theorem bestI_any : Calls Try.prog 11 #[.agg #[.int .i64 n, .slice A xs.length cap], .slice D ws.length dap] w (RetIB w (bestOrder n xs ws).1 (bestOrder n xs ws).2) := by
  cases q : isGround n xs
  · have e : bestOrder n xs ws = ([], false) := by unfold bestOrder fit9; rw [q]; rfl
    rw [e]
    exact bestI_ground n A xs cap D ws dap w h g hl q
  · cases q2 : isSub n xs
    · have e : bestOrder n xs ws = ([], false) := by unfold bestOrder fit9; rw [q, q2]; rfl
      rw [e]
      exact bestI_sub n A xs cap D ws dap w h g hl q q2
    · by_cases q3 : (ws.length : Int) = n
      · have e : bestOrder n xs ws = orderFor ws := by
          unfold bestOrder orderFor fit9
          rw [q, q2, decide_eq_true q3]
          cases isVec ws <;> rfl
        rw [e]
        exact bestI_go n A xs cap D ws dap w h g hl q q2 q3
      · have e : bestOrder n xs ws = ([], false) := by
          unfold bestOrder fit9
          rw [q, q2, decide_eq_false q3, Bool.and_false]
          rfl
        rw [e]
        exact bestI_len n A xs cap D ws dap w h g hl q q2 q3

set_option maxRecDepth 100000 in
set_option maxHeartbeats 1600000 in
theorem maxI_no (e1 : fit9 n xs ws = false) : Calls Try.prog 18 #[.agg #[.int .i64 n, .slice A xs.length cap], .slice D ws.length dap] w (RetIIB w 0 [] false) := by
  have HW := Lib.hid (St.start w)
  have HS0 := Lib.hid (HW.out.alloc [.int .i64 n, .slice A xs.length cap] 28)
  have HF := Lib.hid (fun W h1 h2 => bestI_any n A xs cap D ws dap W (Lib.hid h1) (Lib.hid h2) hl)
  have e : bestOrder n xs ws = ([], false) := by unfold bestOrder; rw [e1]; rfl
  rw [e] at HF
  clear e e1
  go_enter Try.func18, Try.ntmps18
  go_wp2_with (go_at_call 11; refine (HF.out _ ((h.out.below HS0.out.base).mono HS0.out.size) ((g.out.below HS0.out.base).mono HS0.out.size)).mono ?_; rintro e w2 ⟨V, c, rfl, ho, hb⟩; have HS := Lib.hid (HS0.out.newI hb ho); clear ho hb)
  exact bodyPost_ret (v := .tuple #[.int .i64 0, .slice none 0 0, .bool false]) (by simp [results, Try.results18, go_sem]) rfl ⟨none, 0, rfl, K.Own.nil _ _, HS.out.base⟩

set_option maxRecDepth 100000 in
set_option maxHeartbeats 4000000 in
theorem maxI_yes (e1 : fit9 n xs ws = true) : Calls Try.prog 18 #[.agg #[.int .i64 n, .slice A xs.length cap], .slice D ws.length dap] w (RetIIB w (bestN xs ws) (bestX xs ws) true) := by
  obtain ⟨-, -, g3, -⟩ := fit9_yes e1
  obtain ⟨v1, v2⟩ := isVec_yes g3
  obtain ⟨hxl, hxv⟩ := fit9_len e1
  have HW := Lib.hid (St.start w)
  have HS0 := Lib.hid (HW.out.alloc [.int .i64 n, .slice A xs.length cap] 28)
  have HF := Lib.hid (fun W h1 h2 => bestI_any n A xs cap D ws dap W (Lib.hid h1) (Lib.hid h2) hl)
  have e : bestOrder n xs ws = (nats (ordN ws ws.length), true) := by unfold bestOrder; rw [e1]; rfl
  rw [e] at HF
  have hol := order_len ws
  have hpm := ordF_pm ws
  have hgl := bestX_len xs ws
  have HGA := Lib.hid (fun W V c (h1 : Ints W W.heap.size A xs) (h2 : Ints W W.heap.size V (nats (ordN ws ws.length))) => show Calls Try.prog 30 #[.agg #[.int .i64 n, .slice A xs.length cap], .slice V (nats (ordN ws ws.length)).length c] W (RetI W (bestX xs ws)) from gainsI_any n A xs cap V (nats (ordN ws ws.length)) c W (Lib.hid h1) (Lib.hid h2) ws.length (ordF ws) hol v1 hxl hxv (fun i hi => order_at ws hi) hpm.lt)
  have HPR := Lib.hid (fun W V c (h1 : Ints W W.heap.size D ws) (h2 : Ints W W.heap.size V (bestX xs ws)) => show Calls Try.prog 31 #[.slice D ws.length dap, .slice V (bestX xs ws).length c] W fun e w' => e = .returned (.int .i64 (bestN xs ws)) ∧ W = w' from productI_any D ws dap V _ c W (Lib.hid h1) (Lib.hid h2) v1 hgl v2 fun k _ => bestX_bd e1 k)
  rw [hol] at HGA
  rw [hgl] at HPR
  generalize bestN xs ws = y at *
  generalize bestX xs ws = us at *
  generalize nats (ordN ws ws.length) = os at *
  obtain ⟨m, hm⟩ : ∃ m, ws.length = m := ⟨_, rfl⟩
  rw [hm] at HF HGA HPR hgl hol ⊢
  have HL := Lib.hid hgl
  have HOL := Lib.hid hol
  clear e e1 g3 v1 v2 hxl hxv hpm hm hgl hol hl
  go_enter Try.func18, Try.ntmps18
  go_wp2_with (first
    | (go_at_call 11; refine (HF.out _ ((h.out.below HS0.out.base).mono HS0.out.size) ((g.out.below HS0.out.base).mono HS0.out.size)).mono ?_; rintro e w2 ⟨V, c, rfl, ho, hb⟩; rw [HOL.out] at ho ⊢; have hS := HS0.out.newI hb ho; rw [HOL.out] at hS; obtain ⟨b0, -⟩ := hS.box (i := 1) rfl; have b00 := b0 0 _ rfl; have b01 := b0 1 _ rfl; have HS := Lib.hid hS; clear ho hb hS b0)
    | (go_at_call 30; refine (HGA.out _ _ _ ((h.out.below HS.out.base).mono HS.out.size) (HS.out.ints (i := 0) rfl)).mono ?_; rintro e w3 ⟨V', c', rfl, ho, hb⟩; rw [HL.out] at ho ⊢; have hS := HS.out.newI hb ho; rw [HL.out] at hS; have HS2 := Lib.hid hS; clear ho hb hS)
    | (go_at_call 31; refine (HPR.out _ _ _ ((g.out.below HS2.out.base).mono HS2.out.size) (HS2.out.ints (i := 0) rfl)).mono ?_; rintro e w4 ⟨rfl, rfl⟩))
  exact bodyPost_ret (v := .tuple #[.int .i64 y, .slice V' m c', .bool true]) (by simp [results, Try.results18, go_sem]) rfl ⟨V', c', by rw [HL.out], by rw [HL.out]; exact HS2.out.ownI (i := 0) rfl, HS2.out.base⟩

theorem maxI_any : Calls Try.prog 18 #[.agg #[.int .i64 n, .slice A xs.length cap], .slice D ws.length dap] w (RetIIB w (maxFor n xs ws).1 (maxFor n xs ws).2.1 (maxFor n xs ws).2.2) := by
  unfold maxFor
  cases e1 : fit9 n xs ws
  · exact maxI_no n A xs cap D ws dap w h g hl e1
  · exact maxI_yes n A xs cap D ws dap w h g hl e1

end


set_option maxRecDepth 100000 in
set_option maxHeartbeats 1600000 in
theorem negI_any (D : Option Addr) (ws : List Int) (dap : Nat) (w : World) (g : Hid (Ints w w.heap.size D ws)) (hl : ws.length ≤ 1048576) : Calls Try.prog 32 #[.slice D ws.length dap] w (RetI w (negW ws)) := by
  have HW := Lib.hid (St.start w)
  have hnl := negW_len ws
  obtain ⟨m, hm⟩ : ∃ m, ws.length = m := ⟨_, rfl⟩
  obtain ⟨f, hf⟩ : ∃ f : Nat → Int, f = fun k => IntKind.i64.wrap (-ws.getD k 0) := ⟨_, rfl⟩
  have HFN := Lib.hid (fun k => show f k = IntKind.i64.wrap (-ws.getD k 0) by rw [hf])
  have htf : negW ws = tab m f := by rw [hf, ← hm]; rfl
  rw [htf] at hnl ⊢
  have HX := Lib.hid hm
  rw [hm] at hl hnl ⊢
  have HNL := Lib.hid hnl
  clear hf htf hm hnl
  obtain ⟨i0, hi, hi0, hi1, hi2⟩ := info_parts info_int
  go_enter Try.func32, Try.ntmps32
  go_wp2_with (first
    | (refine wpList_make_full _ rfl _ _ _ rfl w.heap.size 3 i0 (.int .i64 0) 1 Try.underlying22 hi hi0 hi1 .i64 .i64 _ _ m rfl rfl rfl rfl (by rw [hi2]; omega) (by unfold maxLen; omega) (by simp) ?_; intro w1 hown1 hg1; rw [zeros] at hown1; have HS1 := Lib.hid (show St w w1 [il (.slice (some ⟨w.heap.size, 0, none⟩) m m) m (List.replicate m 0)] from (HW.out.new ((Below.refl _ _).grown hg1 (Nat.le_refl _) (by simp)) hown1)); clear hown1 hg1)
    | (refine wpList_copyI (o' := ⟨some 10, _, _, _, _, _⟩) rfl (.tmp 8) (.tmp 9) 22 rfl Try.underlying22 (by kernel_rfl) HS1.out (i := 0) rfl ((g.out.below HS1.out.base).mono HS1.out.size) HX.out rfl rfl ?_; intro w2 hS; have HS2 := Lib.hid hS; clear hS))
  go_loopw [13] (fun i wr => ∃ (j : Nat) (ys : List Int), i = .int .i64 j ∧ j ≤ m ∧ Hid (ys.length = m ∧ ys.take j = tab j f ∧ ∀ k, j ≤ k → ys.getD k 0 = ws.getD k 0) ∧ St w wr [il (.slice (some ⟨w.heap.size, 0, none⟩) m m) m ys]) (fun i _ => m - (intOf i).toNat)
  case atStart => exact ⟨0, ws, rfl, Nat.zero_le _, Lib.hid ⟨HX.out, by simp [tab], fun _ _ => rfl⟩, HS2.out⟩
  case round =>
    obtain ⟨j, ys, rfl, hj, HY, hS⟩ := hrel
    have HR := Lib.hid hS
    by_cases hlt : j < m
    · obtain ⟨c1, c2⟩ := hS.cellI (i := 0) rfl hlt
      rw [HY.out.2.2 j (Nat.le_refl _)] at c1
      have hval := HFN.out j
      have hj0 : (0 : Int) ≤ (j : Int) := by omega
      have hjn : (j : Int) < (m : Int) := by omega
      clear hS
      generalize hx : ws.getD j 0 = x at c1 hval
      have hww : IntKind.i64.wrap (-x) = wrap64 (-x) := IntWalk.i64_left _
      rw [hww] at hval
      have HV := Lib.hid hval
      clear hval hx hww
      go_wp2
      have HS3 := Lib.hid (HR.out.setI (i := 0) rfl j (wrap64 (-x)))
      go_roundw
      case rel =>
        refine ⟨j + 1, ys.set j (wrap64 (-x)), by go_num, by omega, Lib.hid ⟨by rw [List.length_set]; exact HY.out.1, ?_, fun k hk => ?_⟩, HS3.out⟩
        · rw [← HV.out]
          exact tab_set f HY.out.1 HY.out.2.1 hlt
        · rw [← HY.out.2.2 k (by omega), List.getD_eq_getElem?_getD, List.getD_eq_getElem?_getD, List.getElem?_set_ne (by omega)]
      case measure => simp [intOf]; omega
    · obtain rfl : j = m := by omega
      have hjn : ¬ (j : Int) < (j : Int) := by omega
      have e1 : ys = tab j f := by
        have := HY.out.2.1
        rwa [List.take_of_length_le (by rw [HY.out.1]; exact Nat.le_refl _)] at this
      subst e1
      clear hS
      go_wp2
      go_ret
      exact ⟨some ⟨w.heap.size, 0, none⟩, j, by rw [HNL.out]; rfl, by rw [HNL.out]; exact HR.out.ownI (i := 0) rfl, HR.out.base⟩

set_option maxRecDepth 100000 in
set_option maxHeartbeats 4000000 in
theorem minI_any (n : Int) (A : Option Addr) (xs : List Int) (cap : Nat) (D : Option Addr) (ws : List Int) (dap : Nat) (w : World) (h : Hid (Ints w w.heap.size A xs)) (g : Hid (Ints w w.heap.size D ws)) (hl : ws.length ≤ 1048576) (hr : ∀ x ∈ ws, -9223372036854775808 ≤ x ∧ x ≤ 9223372036854775807) :
    Calls Try.prog 20 #[.agg #[.int .i64 n, .slice A xs.length cap], .slice D ws.length dap] w (RetIIB w (minFor n xs ws).1 (minFor n xs ws).2.1 (minFor n xs ws).2.2) := by
  have HW := Lib.hid (St.start w)
  have HS0 := Lib.hid (HW.out.alloc [.int .i64 n, .slice A xs.length cap] 28)
  have HN := Lib.hid (fun W h1 => negI_any D ws dap W (Lib.hid h1) hl)
  have hnl := negW_len ws
  have HM := Lib.hid (fun W E c h1 h2 => maxI_any n A xs cap E (negW ws) c W (Lib.hid h1) (Lib.hid h2) (by rw [hnl]; exact hl))
  have hsm := maxFor_small (n := n) (xs := xs) (ws := negW ws)
  rw [← maxFor_neg n xs hr]
  have hml := maxFor_le n xs (negW ws)
  generalize maxFor n xs (negW ws) = r at *
  obtain ⟨y, us, ok⟩ := r
  dsimp only at HM hsm hml ⊢
  rw [hnl] at HM
  generalize negW ws = vs at *
  obtain ⟨m, hm⟩ : ∃ m, ws.length = m := ⟨_, rfl⟩
  rw [hm] at HN HM hnl ⊢
  have HVL := Lib.hid hnl
  have hwn : IntKind.i64.wrap (-y) = -y := IntWalk.i64_in _ (by omega)
  obtain ⟨p, hp⟩ : ∃ p, xs.length = p := ⟨_, rfl⟩
  rw [hp] at HS0 HM ⊢
  clear hnl hm hp hr hl hml
  go_enter Try.func20, Try.ntmps20
  go_wp2
  generalize World.alloc _ _ = w1 at HS0 ⊢
  obtain ⟨b0, -⟩ := HS0.out.box (i := 0) rfl
  have b00 := b0 0 _ rfl
  have b01 := b0 1 _ rfl
  clear b0
  go_region_held3 (fun w' => w'.cell? ⟨w.heap.size, 0, none⟩ = some (.int .i64 n) ∧ w'.cell? ⟨w.heap.size, 1, none⟩ = some (.slice A p cap)) (first | (refine ⟨?_, ?_⟩ <;> assumption) | assumption | go_keep) (first
    | (go_at_call 32; have HSD := Lib.hid HS0.out.drew; refine (HN.out _ ?_).mono ?_; (first | exact (g.out.below HS0.out.base).mono HS0.out.size | exact (g.out.below HSD.out.base).mono HSD.out.size); rintro e w2 ⟨V, c, rfl, ho, hb⟩; rw [HVL.out] at ho ⊢; have hS := (HSD.out.newI hb ho); rw [HVL.out] at hS; obtain ⟨b0, -⟩ := hS.box (i := 1) rfl; have c00 := b0 0 _ rfl; have c01 := b0 1 _ rfl; have HS2 := Lib.hid hS; clear ho hb hS b0)
    | (go_at_call 18; refine (HM.out _ _ _ ?_ ?_).mono ?_; (exact (h.out.below HS2.out.base).mono HS2.out.size); (exact HS2.out.ints (i := 0) rfl); rintro e w3 ⟨V', c', rfl, ho, hb⟩; have hS := HS2.out.newI hb ho; obtain ⟨b0, -⟩ := hS.box (i := 2) rfl; have e00 := b0 0 _ rfl; have e01 := b0 1 _ rfl; have HS3 := Lib.hid hS; clear ho hb hS b0))
  go_wp2
  exact bodyPost_ret (v := .tuple #[.int .i64 (-y), .slice V' us.length c', .bool ok]) (by simp [results, Try.results20, go_sem]) rfl ⟨V', c', rfl, HS3.out.ownI (i := 0) rfl, HS3.out.base⟩

end Go.Proofs.Ytlbefommcahkeaa.C
