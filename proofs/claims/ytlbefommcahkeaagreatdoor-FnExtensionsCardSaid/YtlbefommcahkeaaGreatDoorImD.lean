/-
  The contracts of impl.BestOrder, MaximumFor, negativesOf and MinimumFor.
  The contracts of the library's slices.Index, Contains, Grow, Concat and ContainsFunc, as impl's chapter 8 calls them.
  The contracts of the library's slices.Concat of two lists and slices.ContainsFunc with impl.hasList's closure, and of impl.hasList.
  The contracts of impl.setOf, levelsOf and LevelSets.
  The contract of impl.IsBestBase.
-/
import Derived.Test.YtlbefommcahkeaaGreatDoorAllM
import Derived.Test.YtlbefommcahkeaaGreatDoorImA
import Derived.Test.YtlbefommcahkeaaGreatDoorSubI
import Derived.Test.YtlbefommcahkeaaGreatDoorLnA
import Derived.Test.YtlbefommcahkeaaGreatDoorLolA
import Derived.Test.YtlbefommcahkeaaGreatDoorBsA
import Derived.Deep.QuietTactic
import Derived.Laws.EntriesVeiled
import Derived.Test.YtlbefommcahkeaaGreatDoorVal
import Derived.Test.YtlbefommcahkeaaGreatDoorImB
namespace Go.Proofs.YtlbefommcahkeaaGreatDoor.M
set_option linter.unusedVariables false
/-- The numbers of a list, each turned about, as a machine does it. -/
def negW (ws : List Int) : List Int := tab ws.length fun k => IntKind.i64.wrap (-ws.getD k 0)
theorem negW_len (ws : List Int) : (negW ws).length = ws.length := tab_length _ _
theorem negW_at (ws : List Int) {k : Nat} (hk : k < ws.length) : (negW ws).getD k 0 = IntKind.i64.wrap (-ws.getD k 0) := by unfold negW; rw [tab_at _ hk]
theorem negW_vec {ws : List Int} (h : isVec ws = true) : negW ws = negV ws := by
  obtain ⟨-, hv⟩ := isVec_yes h
  refine List.ext_getElem (by rw [negW_len, negV_len]) fun k h1 h2 => ?_
  rw [negW_len] at h1
  have e1 := negW_at ws h1
  have e2 := negV_at ws h1
  have := hv k h1
  rw [List.getD_eq_getElem?_getD, List.getElem?_eq_getElem (by rw [negW_len]; exact h1), Option.getD_some] at e1
  rw [List.getD_eq_getElem?_getD, List.getElem?_eq_getElem (by rw [negV_len]; exact h1), Option.getD_some] at e2
  rw [e1, e2, IntWalk.i64_in _ (by omega)]
theorem wrap_back {x : Int} (h1 : -9223372036854775808 ≤ x) (h2 : x ≤ 9223372036854775807) (h3 : -1000 ≤ IntKind.i64.wrap (-x)) (h4 : IntKind.i64.wrap (-x) ≤ 1000) : -1000 ≤ x ∧ x ≤ 1000 := by
  rcases Int.lt_or_le (-9223372036854775808) x with h | h
  · rw [IntWalk.i64_in _ (by omega)] at h3 h4
    omega
  · obtain rfl : x = -9223372036854775808 := by omega
    rw [IntKind.wrap_i64] at h3 h4
    omega
theorem negW_back {ws : List Int} (hr : ∀ x ∈ ws, -9223372036854775808 ≤ x ∧ x ≤ 9223372036854775807) (h : isVec (negW ws) = true) : isVec ws = true := by
  obtain ⟨h5, hv⟩ := isVec_yes h
  rw [negW_len] at h5
  refine isVec_mk h5 fun k hk => ?_
  have := hv k (by rw [negW_len]; exact hk)
  rw [negW_at ws hk] at this
  have e : ws.getD k 0 = ws[k] := by rw [List.getD_eq_getElem?_getD, List.getElem?_eq_getElem hk]; rfl
  have hm := hr ws[k] (List.getElem_mem hk)
  rw [← e] at hm
  exact wrap_back hm.1 hm.2 this.1 this.2
theorem maxFor_neg (n : Int) (xs : List Int) {ws : List Int} (hr : ∀ x ∈ ws, -9223372036854775808 ≤ x ∧ x ≤ 9223372036854775807) :
    (-(maxFor n xs (negW ws)).1, (maxFor n xs (negW ws)).2.1, (maxFor n xs (negW ws)).2.2) = minFor n xs ws := by
  unfold maxFor minFor
  cases e : fit9 n xs ws
  · have e2 : fit9 n xs (negW ws) = false := by
      cases e3 : fit9 n xs (negW ws)
      · rfl
      · obtain ⟨h1, h2, h3, h4⟩ := fit9_yes e3
        rw [negW_len] at h4
        have h5 := negW_back hr h3
        rw [← e]
        unfold fit9
        rw [h1, h2, h5, decide_eq_true h4]
        rfl
    rw [e2]
    rfl
  · have hv := (fit9_yes e).2.2.1
    rw [negW_vec hv, fit9_neg e]
    rfl
theorem maxFor_small {n : Int} {xs ws : List Int} : -10000000 ≤ (maxFor n xs ws).1 ∧ (maxFor n xs ws).1 ≤ 10000000 := by
  unfold maxFor
  split
  · rename_i h
    have h1 := best_part h ws.length (Nat.le_refl _)
    have h2 := (isVec_yes (fit9_yes h).2.2.1).1
    unfold bestN
    dsimp only
    omega
  · dsimp only
    omega

end Go.Proofs.YtlbefommcahkeaaGreatDoor.M
namespace Go.Proofs.YtlbefommcahkeaaGreatDoor.C
open Go.RowKit K M
set_option linter.unusedVariables false
set_option linter.unusedSimpArgs false
set_option linter.unusedSectionVars false


section

variable (n : Int) (A : Option Addr) (xs : List Int) (cap : Nat) (D : Option Addr) (ws : List Int) (dap : Nat) (w : World) (h : Hid (Ints w w.heap.size A xs)) (g : Hid (Ints w w.heap.size D ws)) (hl : ws.length ≤ 1048576)
include h g hl
set_option maxRecDepth 100000 in
set_option maxHeartbeats 1600000 in
theorem bestI_ground (q : isGround n xs = false) : Calls Tryz.prog 51 #[.agg #[.int .i64 n, .slice A xs.length cap], .slice D ws.length dap] w (RetIB w [] false) := by
  have HW := Lib.hid (St.start w)
  have HS0 := Lib.hid (HW.out.alloc [.int .i64 n, .slice A xs.length cap] 26)
  have HG := Lib.hid (fun W h1 => groundI_any n A xs cap W (Lib.hid h1))
  rw [q] at HG
  clear q
  go_enter Tryz.func51, Tryz.ntmps51
  go_wp2_with (go_at_call 79; refine (HG.out _ ((h.out.below HS0.out.base).mono HS0.out.size)).mono ?_; rintro e w2 ⟨rfl, hb⟩; have HS := Lib.hid (HS0.out.below hb); clear hb)
  go_ret2
  exact ⟨none, 0, rfl, K.Own.nil _ _, HS.out.base⟩

set_option maxRecDepth 100000 in
set_option maxHeartbeats 1600000 in
theorem bestI_sub (q : isGround n xs = true) (q2 : isSub n xs = false) : Calls Tryz.prog 51 #[.agg #[.int .i64 n, .slice A xs.length cap], .slice D ws.length dap] w (RetIB w [] false) := by
  have HW := Lib.hid (St.start w)
  have HS0 := Lib.hid (HW.out.alloc [.int .i64 n, .slice A xs.length cap] 26)
  have HG := Lib.hid (fun W h1 => groundI_any n A xs cap W (Lib.hid h1))
  have HB := Lib.hid (fun W h1 => subI_any n A xs cap W (Lib.hid h1))
  rw [q] at HG
  rw [q2] at HB
  clear q q2
  go_enter Tryz.func51, Tryz.ntmps51
  go_wp2_with (first
    | (go_at_call 79; refine (HG.out _ ((h.out.below HS0.out.base).mono HS0.out.size)).mono ?_; rintro e w2 ⟨rfl, hb⟩; have hS := HS0.out.below hb; obtain ⟨b0, -⟩ := hS.box (i := 0) rfl; have b00 := b0 0 _ rfl; have b01 := b0 1 _ rfl; have HS := Lib.hid hS; clear hb hS b0)
    | (go_at_call 80; refine (HB.out _ ((h.out.below HS.out.base).mono HS.out.size)).mono ?_; rintro e w3 ⟨rfl, hb⟩; have HS2 := Lib.hid (HS.out.below hb); clear hb))
  go_ret2
  exact ⟨none, 0, rfl, K.Own.nil _ _, HS2.out.base⟩

set_option maxRecDepth 100000 in
set_option maxHeartbeats 1600000 in
theorem bestI_len (q : isGround n xs = true) (q2 : isSub n xs = true) (q3 : (ws.length : Int) ≠ n) : Calls Tryz.prog 51 #[.agg #[.int .i64 n, .slice A xs.length cap], .slice D ws.length dap] w (RetIB w [] false) := by
  have HW := Lib.hid (St.start w)
  have HS0 := Lib.hid (HW.out.alloc [.int .i64 n, .slice A xs.length cap] 26)
  have HG := Lib.hid (fun W h1 => groundI_any n A xs cap W (Lib.hid h1))
  have HB := Lib.hid (fun W h1 => subI_any n A xs cap W (Lib.hid h1))
  have hne : ((ws.length : Int) != n) = true := bne_iff_ne.2 q3
  rw [q] at HG
  rw [q2] at HB
  clear q q2 q3
  go_enter Tryz.func51, Tryz.ntmps51
  go_wp2_with (first
    | (go_at_call 79; refine (HG.out _ ((h.out.below HS0.out.base).mono HS0.out.size)).mono ?_; rintro e w2 ⟨rfl, hb⟩; have hS := HS0.out.below hb; obtain ⟨b0, -⟩ := hS.box (i := 0) rfl; have b00 := b0 0 _ rfl; have b01 := b0 1 _ rfl; have HS := Lib.hid hS; clear hb hS b0)
    | (go_at_call 80; refine (HB.out _ ((h.out.below HS.out.base).mono HS.out.size)).mono ?_; rintro e w3 ⟨rfl, hb⟩; have hS := HS.out.below hb; obtain ⟨b0, -⟩ := hS.box (i := 0) rfl; have c00 := b0 0 _ rfl; have c01 := b0 1 _ rfl; have HS2 := Lib.hid hS; clear hb hS b0))
  go_ret2
  exact ⟨none, 0, rfl, K.Own.nil _ _, HS2.out.base⟩

set_option maxRecDepth 100000 in
set_option maxHeartbeats 1600000 in
theorem bestI_go (q : isGround n xs = true) (q2 : isSub n xs = true) (q3 : (ws.length : Int) = n) : Calls Tryz.prog 51 #[.agg #[.int .i64 n, .slice A xs.length cap], .slice D ws.length dap] w (RetIB w (orderFor ws).1 (orderFor ws).2) := by
  have HW := Lib.hid (St.start w)
  have HS0 := Lib.hid (HW.out.alloc [.int .i64 n, .slice A xs.length cap] 26)
  have HG := Lib.hid (fun W h1 => groundI_any n A xs cap W (Lib.hid h1))
  have HB := Lib.hid (fun W h1 => subI_any n A xs cap W (Lib.hid h1))
  have HO := Lib.hid (fun W h1 => ordI_any D ws dap W (Lib.hid h1) hl)
  have hne : ((ws.length : Int) != n) = false := bne_eq_false_iff_eq.2 q3
  generalize orderFor ws = ob at HO ⊢
  obtain ⟨os, ok⟩ := ob
  dsimp only at HO ⊢
  rw [q] at HG
  rw [q2] at HB
  clear q q2 q3
  go_enter Tryz.func51, Tryz.ntmps51
  go_wp2_with (first
    | (go_at_call 79; refine (HG.out _ ((h.out.below HS0.out.base).mono HS0.out.size)).mono ?_; rintro e w2 ⟨rfl, hb⟩; have hS := HS0.out.below hb; obtain ⟨b0, -⟩ := hS.box (i := 0) rfl; have b00 := b0 0 _ rfl; have b01 := b0 1 _ rfl; have HS := Lib.hid hS; clear hb hS b0)
    | (go_at_call 80; refine (HB.out _ ((h.out.below HS.out.base).mono HS.out.size)).mono ?_; rintro e w3 ⟨rfl, hb⟩; have hS := HS.out.below hb; obtain ⟨b0, -⟩ := hS.box (i := 0) rfl; have c00 := b0 0 _ rfl; have c01 := b0 1 _ rfl; have HS2 := Lib.hid hS; clear hb hS b0)
    | (go_at_call 29; refine (HO.out _ ((g.out.below HS2.out.base).mono HS2.out.size)).mono ?_; rintro e w4 ⟨V, c, rfl, ho, hb⟩; have HS3 := Lib.hid (HS2.out.newI hb ho); clear ho hb))
  go_ret2
  exact ⟨V, c, rfl, HS3.out.ownI (i := 0) rfl, HS3.out.base⟩

theorem bestI_any : Calls Tryz.prog 51 #[.agg #[.int .i64 n, .slice A xs.length cap], .slice D ws.length dap] w (RetIB w (bestOrder n xs ws).1 (bestOrder n xs ws).2) := by
  cases q : isGround n xs
  · have e : bestOrder n xs ws = ([], false) := by unfold bestOrder fit9; rw [q]; rfl
    rw [e]
    exact bestI_ground n A xs cap D ws dap w h g hl q
  · cases q2 : isSub n xs
    · have e : bestOrder n xs ws = ([], false) := by unfold bestOrder fit9; rw [q, q2]; rfl
      rw [e]
      exact bestI_sub n A xs cap D ws dap w h g hl q q2
    · by_cases q3 : (ws.length : Int) = n
      · have e : bestOrder n xs ws = orderFor ws := by
          unfold bestOrder orderFor fit9
          rw [q, q2, decide_eq_true q3]
          cases isVec ws <;> rfl
        rw [e]
        exact bestI_go n A xs cap D ws dap w h g hl q q2 q3
      · have e : bestOrder n xs ws = ([], false) := by
          unfold bestOrder fit9
          rw [q, q2, decide_eq_false q3, Bool.and_false]
          rfl
        rw [e]
        exact bestI_len n A xs cap D ws dap w h g hl q q2 q3

set_option maxRecDepth 100000 in
set_option maxHeartbeats 1600000 in
theorem maxI_no (e1 : fit9 n xs ws = false) : Calls Tryz.prog 15 #[.agg #[.int .i64 n, .slice A xs.length cap], .slice D ws.length dap] w (RetIIB w 0 [] false) := by
  have HW := Lib.hid (St.start w)
  have HS0 := Lib.hid (HW.out.alloc [.int .i64 n, .slice A xs.length cap] 26)
  have HF := Lib.hid (fun W h1 h2 => bestI_any n A xs cap D ws dap W (Lib.hid h1) (Lib.hid h2) hl)
  have e : bestOrder n xs ws = ([], false) := by unfold bestOrder; rw [e1]; rfl
  rw [e] at HF
  clear e e1
  go_enter Tryz.func15, Tryz.ntmps15
  go_wp2_with (go_at_call 51; refine (HF.out _ ((h.out.below HS0.out.base).mono HS0.out.size) ((g.out.below HS0.out.base).mono HS0.out.size)).mono ?_; rintro e w2 ⟨V, c, rfl, ho, hb⟩; have HS := Lib.hid (HS0.out.newI hb ho); clear ho hb)
  exact bodyPost_ret (v := .tuple #[.int .i64 0, .slice none 0 0, .bool false]) (by simp [results, Tryz.results15, go_sem]) rfl ⟨none, 0, rfl, K.Own.nil _ _, HS.out.base⟩

set_option maxRecDepth 100000 in
set_option maxHeartbeats 4000000 in
theorem maxI_yes (e1 : fit9 n xs ws = true) : Calls Tryz.prog 15 #[.agg #[.int .i64 n, .slice A xs.length cap], .slice D ws.length dap] w (RetIIB w (bestN xs ws) (bestX xs ws) true) := by
  obtain ⟨-, -, g3, -⟩ := fit9_yes e1
  obtain ⟨v1, v2⟩ := isVec_yes g3
  obtain ⟨hxl, hxv⟩ := fit9_len e1
  have HW := Lib.hid (St.start w)
  have HS0 := Lib.hid (HW.out.alloc [.int .i64 n, .slice A xs.length cap] 26)
  have HF := Lib.hid (fun W h1 h2 => bestI_any n A xs cap D ws dap W (Lib.hid h1) (Lib.hid h2) hl)
  have e : bestOrder n xs ws = (nats (ordN ws ws.length), true) := by unfold bestOrder; rw [e1]; rfl
  rw [e] at HF
  have hol := order_len ws
  have hpm := ordF_pm ws
  have hgl := bestX_len xs ws
  have HGA := Lib.hid (fun W V c (h1 : Ints W W.heap.size A xs) (h2 : Ints W W.heap.size V (nats (ordN ws ws.length))) => show Calls Tryz.prog 41 #[.agg #[.int .i64 n, .slice A xs.length cap], .slice V (nats (ordN ws ws.length)).length c] W (RetI W (bestX xs ws)) from gainsI_any n A xs cap V (nats (ordN ws ws.length)) c W (Lib.hid h1) (Lib.hid h2) ws.length (ordF ws) hol v1 hxl hxv (fun i hi => order_at ws hi) hpm.lt)
  have HPR := Lib.hid (fun W V c (h1 : Ints W W.heap.size D ws) (h2 : Ints W W.heap.size V (bestX xs ws)) => show Calls Tryz.prog 40 #[.slice D ws.length dap, .slice V (bestX xs ws).length c] W fun e w' => e = .returned (.int .i64 (bestN xs ws)) ∧ W = w' from productI_any D ws dap V _ c W (Lib.hid h1) (Lib.hid h2) v1 hgl v2 fun k _ => bestX_bd e1 k)
  rw [hol] at HGA
  rw [hgl] at HPR
  generalize bestN xs ws = y at *
  generalize bestX xs ws = us at *
  generalize nats (ordN ws ws.length) = os at *
  obtain ⟨m, hm⟩ : ∃ m, ws.length = m := ⟨_, rfl⟩
  rw [hm] at HF HGA HPR hgl hol ⊢
  have HL := Lib.hid hgl
  have HOL := Lib.hid hol
  clear e e1 g3 v1 v2 hxl hxv hpm hm hgl hol hl
  go_enter Tryz.func15, Tryz.ntmps15
  go_wp2_with (first
    | (go_at_call 51; refine (HF.out _ ((h.out.below HS0.out.base).mono HS0.out.size) ((g.out.below HS0.out.base).mono HS0.out.size)).mono ?_; rintro e w2 ⟨V, c, rfl, ho, hb⟩; rw [HOL.out] at ho ⊢; have hS := HS0.out.newI hb ho; rw [HOL.out] at hS; obtain ⟨b0, -⟩ := hS.box (i := 1) rfl; have b00 := b0 0 _ rfl; have b01 := b0 1 _ rfl; have HS := Lib.hid hS; clear ho hb hS b0)
    | (go_at_call 41; refine (HGA.out _ _ _ ((h.out.below HS.out.base).mono HS.out.size) (HS.out.ints (i := 0) rfl)).mono ?_; rintro e w3 ⟨V', c', rfl, ho, hb⟩; rw [HL.out] at ho ⊢; have hS := HS.out.newI hb ho; rw [HL.out] at hS; have HS2 := Lib.hid hS; clear ho hb hS)
    | (go_at_call 40; refine (HPR.out _ _ _ ((g.out.below HS2.out.base).mono HS2.out.size) (HS2.out.ints (i := 0) rfl)).mono ?_; rintro e w4 ⟨rfl, rfl⟩))
  exact bodyPost_ret (v := .tuple #[.int .i64 y, .slice V' m c', .bool true]) (by simp [results, Tryz.results15, go_sem]) rfl ⟨V', c', by rw [HL.out], by rw [HL.out]; exact HS2.out.ownI (i := 0) rfl, HS2.out.base⟩

theorem maxI_any : Calls Tryz.prog 15 #[.agg #[.int .i64 n, .slice A xs.length cap], .slice D ws.length dap] w (RetIIB w (maxFor n xs ws).1 (maxFor n xs ws).2.1 (maxFor n xs ws).2.2) := by
  unfold maxFor
  cases e1 : fit9 n xs ws
  · exact maxI_no n A xs cap D ws dap w h g hl e1
  · exact maxI_yes n A xs cap D ws dap w h g hl e1

end


set_option maxRecDepth 100000 in
set_option maxHeartbeats 1600000 in
theorem negI_any (D : Option Addr) (ws : List Int) (dap : Nat) (w : World) (g : Hid (Ints w w.heap.size D ws)) (hl : ws.length ≤ 1048576) : Calls Tryz.prog 54 #[.slice D ws.length dap] w (RetI w (negW ws)) := by
  have HW := Lib.hid (St.start w)
  have hnl := negW_len ws
  obtain ⟨m, hm⟩ : ∃ m, ws.length = m := ⟨_, rfl⟩
  obtain ⟨f, hf⟩ : ∃ f : Nat → Int, f = fun k => IntKind.i64.wrap (-ws.getD k 0) := ⟨_, rfl⟩
  have HFN := Lib.hid (fun k => show f k = IntKind.i64.wrap (-ws.getD k 0) by rw [hf])
  have htf : negW ws = tab m f := by rw [hf, ← hm]; rfl
  rw [htf] at hnl ⊢
  have HX := Lib.hid hm
  rw [hm] at hl hnl ⊢
  have HNL := Lib.hid hnl
  clear hf htf hm hnl
  obtain ⟨i0, hi, hi0, hi1, hi2⟩ := info_parts info_int
  go_enter Tryz.func54, Tryz.ntmps54
  go_wp2_with (first
    | (refine wpList_make_full _ rfl _ _ _ rfl w.heap.size 3 i0 (.int .i64 0) 1 Tryz.underlying24 hi hi0 hi1 .i64 .i64 _ _ m rfl rfl rfl rfl (by rw [hi2]; omega) (by unfold maxLen; omega) (by simp) ?_; intro w1 hown1 hg1; rw [zeros] at hown1; have HS1 := Lib.hid (show St w w1 [il (.slice (some ⟨w.heap.size, 0, none⟩) m m) m (List.replicate m 0)] from (HW.out.new ((Below.refl _ _).grown hg1 (Nat.le_refl _) (by simp)) hown1)); clear hown1 hg1)
    | (refine wpList_copyI (o' := ⟨some 10, _, _, _, _, _⟩) rfl (.tmp 8) (.tmp 9) 24 rfl Tryz.underlying24 (by kernel_rfl) HS1.out (i := 0) rfl ((g.out.below HS1.out.base).mono HS1.out.size) HX.out rfl rfl ?_; intro w2 hS; have HS2 := Lib.hid hS; clear hS))
  go_loopw [13] (fun i wr => ∃ (j : Nat) (ys : List Int), i = .int .i64 j ∧ j ≤ m ∧ Hid (ys.length = m ∧ ys.take j = tab j f ∧ ∀ k, j ≤ k → ys.getD k 0 = ws.getD k 0) ∧ St w wr [il (.slice (some ⟨w.heap.size, 0, none⟩) m m) m ys]) (fun i _ => m - (intOf i).toNat)
  case atStart => exact ⟨0, ws, rfl, Nat.zero_le _, Lib.hid ⟨HX.out, by simp [tab], fun _ _ => rfl⟩, HS2.out⟩
  case round =>
    obtain ⟨j, ys, rfl, hj, HY, hS⟩ := hrel
    have HR := Lib.hid hS
    by_cases hlt : j < m
    · obtain ⟨c1, c2⟩ := hS.cellI (i := 0) rfl hlt
      rw [HY.out.2.2 j (Nat.le_refl _)] at c1
      have hval := HFN.out j
      have hj0 : (0 : Int) ≤ (j : Int) := by omega
      have hjn : (j : Int) < (m : Int) := by omega
      clear hS
      generalize hx : ws.getD j 0 = x at c1 hval
      have hww : IntKind.i64.wrap (-x) = wrap64 (-x) := IntWalk.i64_left _
      rw [hww] at hval
      have HV := Lib.hid hval
      clear hval hx hww
      go_wp2
      have HS3 := Lib.hid (HR.out.setI (i := 0) rfl j (wrap64 (-x)))
      go_roundw
      case rel =>
        refine ⟨j + 1, ys.set j (wrap64 (-x)), by go_num, by omega, Lib.hid ⟨by rw [List.length_set]; exact HY.out.1, ?_, fun k hk => ?_⟩, HS3.out⟩
        · rw [← HV.out]
          exact tab_set f HY.out.1 HY.out.2.1 hlt
        · rw [← HY.out.2.2 k (by omega), List.getD_eq_getElem?_getD, List.getD_eq_getElem?_getD, List.getElem?_set_ne (by omega)]
      case measure => simp [intOf]; omega
    · obtain rfl : j = m := by omega
      have hjn : ¬ (j : Int) < (j : Int) := by omega
      have e1 : ys = tab j f := by
        have := HY.out.2.1
        rwa [List.take_of_length_le (by rw [HY.out.1]; exact Nat.le_refl _)] at this
      subst e1
      clear hS
      go_wp2
      go_ret
      exact ⟨some ⟨w.heap.size, 0, none⟩, j, by rw [HNL.out]; rfl, by rw [HNL.out]; exact HR.out.ownI (i := 0) rfl, HR.out.base⟩

set_option maxRecDepth 100000 in
set_option maxHeartbeats 4000000 in
theorem minI_any (n : Int) (A : Option Addr) (xs : List Int) (cap : Nat) (D : Option Addr) (ws : List Int) (dap : Nat) (w : World) (h : Hid (Ints w w.heap.size A xs)) (g : Hid (Ints w w.heap.size D ws)) (hl : ws.length ≤ 1048576) (hr : ∀ x ∈ ws, -9223372036854775808 ≤ x ∧ x ≤ 9223372036854775807) :
    Calls Tryz.prog 17 #[.agg #[.int .i64 n, .slice A xs.length cap], .slice D ws.length dap] w (RetIIB w (minFor n xs ws).1 (minFor n xs ws).2.1 (minFor n xs ws).2.2) := by
  have HW := Lib.hid (St.start w)
  have HS0 := Lib.hid (HW.out.alloc [.int .i64 n, .slice A xs.length cap] 26)
  have HN := Lib.hid (fun W h1 => negI_any D ws dap W (Lib.hid h1) hl)
  have hnl := negW_len ws
  have HM := Lib.hid (fun W E c h1 h2 => maxI_any n A xs cap E (negW ws) c W (Lib.hid h1) (Lib.hid h2) (by rw [hnl]; exact hl))
  have hsm := maxFor_small (n := n) (xs := xs) (ws := negW ws)
  rw [← maxFor_neg n xs hr]
  have hml := maxFor_le n xs (negW ws)
  generalize maxFor n xs (negW ws) = r at *
  obtain ⟨y, us, ok⟩ := r
  dsimp only at HM hsm hml ⊢
  rw [hnl] at HM
  generalize negW ws = vs at *
  obtain ⟨m, hm⟩ : ∃ m, ws.length = m := ⟨_, rfl⟩
  rw [hm] at HN HM hnl ⊢
  have HVL := Lib.hid hnl
  have hwn : IntKind.i64.wrap (-y) = -y := IntWalk.i64_in _ (by omega)
  obtain ⟨p, hp⟩ : ∃ p, xs.length = p := ⟨_, rfl⟩
  rw [hp] at HS0 HM ⊢
  clear hnl hm hp hr hl hml
  go_enter Tryz.func17, Tryz.ntmps17
  go_wp2
  generalize World.alloc _ _ = w1 at HS0 ⊢
  obtain ⟨b0, -⟩ := HS0.out.box (i := 0) rfl
  have b00 := b0 0 _ rfl
  have b01 := b0 1 _ rfl
  clear b0
  go_region_held3 (fun w' => w'.cell? ⟨w.heap.size, 0, none⟩ = some (.int .i64 n) ∧ w'.cell? ⟨w.heap.size, 1, none⟩ = some (.slice A p cap)) (first | (refine ⟨?_, ?_⟩ <;> assumption) | assumption | go_keep) (first
    | (go_at_call 54; have HSD := Lib.hid HS0.out.drew; refine (HN.out _ ?_).mono ?_; (first | exact (g.out.below HS0.out.base).mono HS0.out.size | exact (g.out.below HSD.out.base).mono HSD.out.size); rintro e w2 ⟨V, c, rfl, ho, hb⟩; rw [HVL.out] at ho ⊢; have hS := (HSD.out.newI hb ho); rw [HVL.out] at hS; obtain ⟨b0, -⟩ := hS.box (i := 1) rfl; have c00 := b0 0 _ rfl; have c01 := b0 1 _ rfl; have HS2 := Lib.hid hS; clear ho hb hS b0)
    | (go_at_call 15; refine (HM.out _ _ _ ?_ ?_).mono ?_; (exact (h.out.below HS2.out.base).mono HS2.out.size); (exact HS2.out.ints (i := 0) rfl); rintro e w3 ⟨V', c', rfl, ho, hb⟩; have hS := HS2.out.newI hb ho; obtain ⟨b0, -⟩ := hS.box (i := 2) rfl; have e00 := b0 0 _ rfl; have e01 := b0 1 _ rfl; have HS3 := Lib.hid hS; clear ho hb hS b0))
  go_wp2
  exact bodyPost_ret (v := .tuple #[.int .i64 (-y), .slice V' us.length c', .bool ok]) (by simp [results, Tryz.results17, go_sem]) rfl ⟨V', c', rfl, HS3.out.ownI (i := 0) rfl, HS3.out.base⟩

end Go.Proofs.YtlbefommcahkeaaGreatDoor.C

namespace Go.Proofs.YtlbefommcahkeaaGreatDoor.M
theorem used_yes {p : List Int} {x : Int} {k : Nat} (hx : p.getD k 0 = x) : ∀ m, k < m → usedTo p x m = true
  | 0, h => absurd h (by omega)
  | m + 1, h => by
    unfold usedTo
    by_cases e : k = m
    · subst e
      rw [hx, beq_self_eq_true, Bool.or_true]
    · rw [used_yes hx m (by omega), Bool.true_or]

end Go.Proofs.YtlbefommcahkeaaGreatDoor.M
namespace Go.Proofs.YtlbefommcahkeaaGreatDoor.K
open Go.RowKit
set_option linter.unusedVariables false
set_option linter.unusedSimpArgs false

theorem run_append_make {P : Program} (w : World) (t u ty e : TypeId) (k : IntKind) (i : TypeInfo) (z : Value) (ht : P.underlying t = some (.slice e)) (hu : P.underlying u = some (.int k)) (hi : P.info? e = some i) (hz : i.zero = some z)
    (n : Nat) (h0 : 0 < n) (hsz : 0 < i.size) (hn : n ≤ 1048576) (hb : i.bytes ≤ 8) :
    (Builtin.append_ #[t, u] ty #[.slice none 0 0, .int .i64 n]).run P w =
      .ok (.slice (some ⟨w.heap.size, 0, none⟩) n (grownCap w n 0 e)) (w.drew.alloc (.cells (Builtin.zeroCells z.cells n ++ Builtin.zeroCells z.cells (grownCap w n 0 e - n)) e)) := by
  have hne : n ≠ 0 := by omega
  have hm : n * i.size ≠ 0 := Nat.mul_ne_zero hne (by omega)
  have h63 : ¬ (9223372036854775807 < (n : Int)) := by omega
  have hwr : IntKind.i64.wrap (n : Int) = (n : Int) := IntWalk.i64_in _ (by omega)
  have hnb : n * i.bytes ≤ 1048576 * 8 := Nat.mul_le_mul hn hb
  have h48 : ¬ (281474976710656 < Builtin.nextslicecap n 0 * i.bytes) := by rw [nextslicecap_zero h0]; omega
  have hneg : ¬ ((n : Int) < 0) := by omega
  have hbig : ¬ (281474976710656 < (n : Int) * (i.bytes : Int)) := by
    have : ((n * i.bytes : Nat) : Int) ≤ 1048576 * 8 := by omega
    rw [Int.natCast_mul] at this
    omega
  have hmax : max (n : Int) 0 = (n : Int) := by omega
  have hle : ¬ ((n : Int) ≤ 0) := by omega
  simp [Builtin.append_, run_underlying ht, run_underlying hu, sizeOf, typeInfo, zeroValue, hi, hz, asInt, asIntOf, hwr, hmax, hle, hneg, hbig, hne, hm, h63, h48, Question.forced, run_firstCells_none, newRow, grownCap]


section

variable {w0 w w' : World} {L L' : List Cel}
/-- 'append(nil, make([]int, n)...)': n numbers in a block of their own. -/
theorem wp_make0 {o' : Oper} {a : Act} {K : Act → World → Prop} {Q : Exit → Act → World → Prop} (s x : Operand) (t u : TypeId)
    (ho : o'.op = .call { callee := .builtin .append, args := #[s, x], argTypes := #[t, u] }) {o : TypeInfo} {kd : IntKind} (ht : Tryz.prog.underlying t = some (.slice 3)) (hu : Tryz.prog.underlying u = some (.int kd))
    (hio : Tryz.prog.info? 3 = some o) (hz : o.zero = some (.int .i64 0)) (hsz : o.size = 1) (hy : o.bytes = 8)
    (h : St w0 w L) (n : Nat) (h0 : 0 < n) (hn : n ≤ 1048576) (hs : a.eval s = .slice none 0 0) (hx : a.eval x = .int .i64 n)
    (hK : ∀ g c w', St w0 w' (⟨3, 1, .slice (some ⟨g, 0, none⟩) n c, n, (Builtin.zeroCells #[.int .i64 0] n).toList⟩ :: L) → K (a.put o'.dst (.slice (some ⟨g, 0, none⟩) n c)) w') : o'.wp Tryz.prog a w K Q := by
  have hr := run_append_make w t u o'.type 3 kd o (.int .i64 0) ht hu hio hz n h0 (by omega) hn (by omega)
  have hge := grownCap_ge w n 0 3
  have hcm : grownCap w n 0 3 ≤ maxLen := grownCap_le_maxLen w n 0 3 (by unfold maxLen; omega)
  have hS := hK w.heap.size (grownCap w n 0 3) (w.drew.alloc (.cells (Builtin.zeroCells #[.int .i64 0] n ++ Builtin.zeroCells #[.int .i64 0] (grownCap w n 0 3 - n)) 3)) (by
    refine h.new ((Below.refl _ w).drew.alloc (by simp) _) ⟨?_, .inr ⟨w.heap.size, _, _, rfl, by simp, heap_alloc_new w.drew _, hge, hcm, ?_, ?_⟩⟩
    · rw [Array.length_toList, size_zeroCells]; rfl
    · rw [Array.size_append, size_zeroCells, size_zeroCells]; show n * 1 + (grownCap w n 0 3 - n) * 1 = grownCap w n 0 3 * 1; omega
    · rw [Array.toList_append]
      exact List.take_left' (by rw [Array.length_toList, size_zeroCells]; rfl))
  unfold Oper.wp execOp
  simp only [ho, resolve, invoke, builtin, Sem.run_bind, Sem.run_pure, Result.andThen_ok, List.map_toArray, List.map_cons, List.map_nil, hs, hx]
  rw [hr]
  exact hS
theorem wpList_make0 {ops : Array Oper} {rest : List Oper} {o' : Oper} {a : Act} {Q : Exit → Act → World → Prop} (hgd : o'.guard = none) (s x : Operand) (t u : TypeId)
    (ho : o'.op = .call { callee := .builtin .append, args := #[s, x], argTypes := #[t, u] }) {o : TypeInfo} {kd : IntKind} (ht : Tryz.prog.underlying t = some (.slice 3)) (hu : Tryz.prog.underlying u = some (.int kd))
    (hio : Tryz.prog.info? 3 = some o) (hz : o.zero = some (.int .i64 0)) (hsz : o.size = 1) (hy : o.bytes = 8)
    (h : St w0 w L) (n : Nat) (h0 : 0 < n) (hn : n ≤ 1048576) (hs : a.eval s = .slice none 0 0) (hx : a.eval x = .int .i64 n)
    (hK : ∀ g c w', St w0 w' (⟨3, 1, .slice (some ⟨g, 0, none⟩) n c, n, (Builtin.zeroCells #[.int .i64 0] n).toList⟩ :: L) → wpList Tryz.prog ops Q rest (a.put o'.dst (.slice (some ⟨g, 0, none⟩) n c)) w') : wpList Tryz.prog ops Q (o' :: rest) a w :=
  wpList_plain hgd fun _ hk => wp_make0 s x t u ho ht hu hio hz hsz hy h n h0 hn hs hx fun g c w' h2 => hk _ _ (hK g c w' h2)
/-- A row's empty head. -/
theorem St.head0 {g c n : Nat} {cs : List Value} (h : St w0 w (⟨3, 1, .slice (some ⟨g, 0, none⟩) n c, n, cs⟩ :: L)) : St w0 w (il (.slice (some ⟨g, 0, none⟩) 0 c) 0 [] :: L) := by
  refine ⟨h.1, fun r hr => ?_, ?_⟩
  · rcases List.mem_cons.1 hr with rfl | hr
    · have ho := h.2.1 _ (List.mem_cons_self ..)
      refine ⟨rfl, ?_⟩
      rcases ho.2 with ⟨e, _⟩ | ⟨g', cap, cur, hv, h1, h2, h3, h4, h5, h6⟩
      · cases e
      · injection hv with e1 e2 e3
        injection e1 with e1
        injection e1 with e1
        subst e1 e3
        exact .inr ⟨g, c, cur, rfl, h1, h2, Nat.zero_le _, h4, h5, by show cur.toList.take (0 * 1) = []; rfl⟩
    · exact h.2.1 r (List.mem_cons_of_mem _ hr)
  · have hp := List.pairwise_cons.1 h.2.2
    exact .cons (fun r hr k hk => hp.1 r hr k hk) hp.2

end


end Go.Proofs.YtlbefommcahkeaaGreatDoor.K
namespace Go.Proofs.YtlbefommcahkeaaGreatDoor.C
open Go.RowKit K M
set_option linter.unusedVariables false
set_option linter.unusedSimpArgs false

end Go.Proofs.YtlbefommcahkeaaGreatDoor.C

namespace Go.Proofs.YtlbefommcahkeaaGreatDoor.K
open Go.RowKit
set_option linter.unusedVariables false


section

variable {w0 w w' : World} {L L' : List Cel}
/-- A nil list appended: nothing turns. -/
theorem wpList_app0 {ops : Array Oper} {rest : List Oper} {o' : Oper} {a : Act} {Q : Exit → Act → World → Prop} (hgd : o'.guard = none) (s x : Operand) (t : TypeId)
    (ho : o'.op = .call { callee := .builtin .append, args := #[s, x], argTypes := #[t, t] })
    {i n : Nat} {v : Value} {xs : List Int} {o : TypeInfo} (ht : Tryz.prog.underlying t = some (.slice 3)) (hio : Tryz.prog.info? 3 = some o)
    (h : St w0 w L) (hi : L[i]? = some (il v n xs)) (hs : a.eval s = v) (hx : a.eval x = .slice none 0 0)
    (hK : wpList Tryz.prog ops Q rest (a.put o'.dst v) w) : wpList Tryz.prog ops Q (o' :: rest) a w :=
  wpList_plain hgd fun _ hk => by
    have hr := run_append_owned_none (P := Tryz.prog) (w := w) w0.heap.size t o'.type 3 o 1 ht hio v n (ints xs) (h.own hi)
    unfold Oper.wp execOp
    simp only [ho, resolve, invoke, builtin, Sem.run_bind, Sem.run_pure, Result.andThen_ok, List.map_toArray, List.map_cons, List.map_nil, hs, hx]
    rw [hr]
    exact hk _ _ hK
/-- One list more behind an outer row, be it nil. -/
theorem run_appL1 {i c b off c2 : Nat} {G : Option Addr} {es : List Ent} {e1 : Ent} {t ty : TypeId} {o : TypeInfo} (ht : Tryz.prog.underlying t = some (.slice 24)) (hio : Tryz.prog.info? 24 = some o) (hz : o.zero = some (.slice none 0 0)) (hs : o.size = 1) (hy : o.bytes = 24)
    (h : St w0 w L) (hi : L[i]? = some (ol (.slice G es.length c) es)) (hc : w.cell? ⟨b, off, none⟩ = some (sv e1)) (hn : es.length ≤ 1048576) :
    ∃ g' c' w', (Builtin.append_ #[t, t] ty #[.slice G es.length c, .slice (some ⟨b, off, none⟩) 1 c2]).run Tryz.prog w = .ok (.slice (some ⟨g', 0, none⟩) (es ++ [e1]).length c') w' ∧ St w0 w' (L.set i (ol (.slice (some ⟨g', 0, none⟩) (es ++ [e1]).length c') (es ++ [e1]))) := by
  obtain ⟨v', w', hr, h2, h3, h4, h5⟩ := run_append_own_at (P := Tryz.prog) w w0.heap.size t ty 24 o (.slice none 0 0) 1 24 ht hio hz hs hy rfl (by decide) _ es.length (es.map sv) (h.own hi) ⟨b, off, none⟩ 1 c2 ([e1].map sv) (by simp) (fun j u hu => by
      have hj : j = 0 := by
        have := (List.getElem?_eq_some_iff.1 hu).1
        simpa using this
      subst hj
      cases hu
      exact hc) (sv_one [e1]) (by unfold maxLen; omega) (by omega) h.size
  have hl1 : es.length + 1 = (es ++ [e1]).length := by rw [List.length_append]; rfl
  rw [hl1] at h2
  obtain ⟨g', cap, hv'⟩ : ∃ g' cap, v' = .slice (some ⟨g', 0, none⟩) (es ++ [e1]).length cap := by
    rcases h2.2 with ⟨e, _⟩ | ⟨g', cap, _, e, _⟩
    · exact absurd (h4.1 e).2 (by decide)
    · exact ⟨g', cap, e⟩
  subst hv'
  refine ⟨g', cap, w', hr, ?_⟩
  have := h.app hi h3 h2 h5
  rw [show es.map sv ++ [e1].map sv = (es ++ [e1]).map sv from List.map_append.symm] at this
  exact this
theorem wpList_appL1 {ops : Array Oper} {rest : List Oper} {o' : Oper} {a : Act} {Q : Exit → Act → World → Prop} (hgd : o'.guard = none) (s x : Operand) (t : TypeId)
    (ho : o'.op = .call { callee := .builtin .append, args := #[s, x], argTypes := #[t, t] })
    {i c b off c2 n : Nat} {G : Option Addr} {es : List Ent} (e1 : Ent) {o : TypeInfo} (ht : Tryz.prog.underlying t = some (.slice 24)) (hio : Tryz.prog.info? 24 = some o) (hz : o.zero = some (.slice none 0 0)) (hsz : o.size = 1) (hy : o.bytes = 24)
    (h : St w0 w L) (hi : L[i]? = some (ol (.slice G es.length c) es)) (hs : a.eval s = .slice G n c) (hx : a.eval x = .slice (some ⟨b, off, none⟩) 1 c2) (hne : es.length = n) (hc : w.cell? ⟨b, off, none⟩ = some (sv e1)) (hn : n ≤ 1048576)
    (hK : ∀ g' c' w', St w0 w' (L.set i (ol (.slice (some ⟨g', 0, none⟩) (es ++ [e1]).length c') (es ++ [e1]))) → wpList Tryz.prog ops Q rest (a.put o'.dst (.slice (some ⟨g', 0, none⟩) (es ++ [e1]).length c')) w') : wpList Tryz.prog ops Q (o' :: rest) a w :=
  wpList_plain hgd fun _ hk => by
    subst hne
    obtain ⟨g', c', w', hr, h2⟩ := run_appL1 (ty := o'.type) (c2 := c2) ht hio hz hsz hy h hi hc hn
    unfold Oper.wp execOp
    simp only [ho, resolve, invoke, builtin, Sem.run_bind, Sem.run_pure, Result.andThen_ok, List.map_toArray, List.map_cons, List.map_nil, hs, hx]
    rw [hr]
    exact hk _ _ (hK g' c' w' h2)

end


end Go.Proofs.YtlbefommcahkeaaGreatDoor.K
namespace Go.Proofs.YtlbefommcahkeaaGreatDoor.C
open Go.RowKit K M
set_option linter.unusedVariables false
set_option linter.unusedSimpArgs false

/-- A list to be appended: nil, or one that holds something. -/
def Src (A : Option Addr) (c : Nat) (p : List Int) : Prop := (A = none ∧ c = 0 ∧ p = []) ∨ 0 < p.length

end Go.Proofs.YtlbefommcahkeaaGreatDoor.C

namespace Go.Proofs.YtlbefommcahkeaaGreatDoor.M
set_option linter.unusedVariables false
/-- How far the level sets of the first k elements of the order reach. -/
def endsTo (ws : List Int) : Nat → List Nat
  | 0 => []
  | k + 1 => if k + 1 = ws.length ∨ ws.getD (ordF ws (k + 1)) 0 < ws.getD (ordF ws k) 0 then endsTo ws k ++ [k + 1] else endsTo ws k
theorem ends_lev (ws : List Int) : ∀ k, levTo ws k = (endsTo ws k).map fun e => (pre (ordF ws) e : Int)
  | 0 => rfl
  | k + 1 => by
    unfold levTo endsTo
    split
    · rw [ends_lev ws k, List.map_append]; rfl
    · exact ends_lev ws k
theorem ends_le (ws : List Int) : ∀ k, ∀ e ∈ endsTo ws k, 1 ≤ e ∧ e ≤ k
  | 0, e, h => by cases h
  | k + 1, e, h => by
    unfold endsTo at h
    split at h
    · rcases List.mem_append.1 h with h | h
      · have := ends_le ws k e h
        omega
      · rw [List.mem_singleton.1 h]
        omega
    · have := ends_le ws k e h
      omega
theorem ends_len (ws : List Int) : ∀ k, (endsTo ws k).length ≤ k
  | 0 => Nat.le_refl _
  | k + 1 => by
    have := ends_len ws k
    unfold endsTo
    split
    · rw [List.length_append]; simp; omega
    · omega

end Go.Proofs.YtlbefommcahkeaaGreatDoor.M
namespace Go.Proofs.YtlbefommcahkeaaGreatDoor.K
open Go.RowKit
set_option linter.unusedVariables false
/-- A start of a list, which shares its memory. -/
def lvE (V : Option Addr) (os : List Int) (e : Nat) : Ent := (V, e, os.take e)
theorem Ints.take {w : World} {B : Nat} {A : Option Addr} {xs : List Int} (h : Ints w B A xs) (k : Nat) : Ints w B A (xs.take k) := fun h0 => by
  rw [List.length_take] at h0
  obtain ⟨b, off, h1, h2, h3⟩ := h (by omega)
  refine ⟨b, off, h1, h2, fun j hj => ?_⟩
  rw [List.length_take] at hj
  rw [h3 j (by omega), getD_take (by omega)]
theorem Own.room {w : World} {lo n c : Nat} {A : Option Addr} {xs : List Int} (h : Own w lo (.slice A n c) xs) : n ≤ c := by
  rcases h.2 with ⟨h1, h0⟩ | ⟨g, cap, cur, hv, hg, hh, hn, hm, hs, ht⟩
  · injection h1 with _ h2 h3
    omega
  · injection hv with _ h2 h3
    omega

end Go.Proofs.YtlbefommcahkeaaGreatDoor.K
namespace Go.Proofs.YtlbefommcahkeaaGreatDoor.C
open Go.RowKit K M
set_option linter.unusedVariables false
set_option linter.unusedSimpArgs false

set_option maxRecDepth 100000 in
theorem setOfI_any (A : Option Addr) (p : List Int) (cap : Nat) (w : World) (h : Hid (Ints w w.heap.size A p)) (hp : ∀ k, k < p.length → 0 ≤ p.getD k 0 ∧ p.getD k 0 ≤ 4) (hl : p.length ≤ 1048576) :
    Calls Tryz.prog 60 #[.slice A p.length cap] w fun e w' => e = .returned (.int .i64 (seenTo p p.length : Nat)) ∧ w = w' := by
  have HL := Lib.hid (fun k (hk : k ≤ p.length) => show seenTo p k < 2 ^ 5 from seen_lt (N := 5) k fun i hi => by have := hp i (by omega); omega)
  have HS := Lib.hid (fun k => show seenTo p (k + 1) = seenTo p k ||| 2 ^ (p.getD k 0).toNat from rfl)
  have HP := Lib.hid hp
  have hz : seenTo p 0 = 0 := rfl
  obtain ⟨m, hm⟩ : ∃ m, p.length = m := ⟨_, rfl⟩
  have HX := Lib.hid hm
  rw [hm] at HL HP hl ⊢
  generalize seenTo p = f at *
  clear hp hm
  go_enter Tryz.func60, Tryz.ntmps60
  go_wp2
  go_loop [3, 8] (fun s i => ∃ k : Nat, i = .int .i64 k ∧ k ≤ m ∧ s = .int .i64 (f k : Nat)) (fun _ i => m - (intOf i).toNat)
  case atStart => exact ⟨0, rfl, Nat.zero_le _, by rw [hz]; rfl⟩
  case round =>
    obtain ⟨k, rfl, hk, rfl⟩ := hrel
    clear hz
    by_cases hlt : k < m
    · obtain ⟨b, off, rfl, hbl, hc⟩ := h.out.at_ (k := k) (by rw [HX.out]; exact hlt)
      obtain ⟨g1, g2⟩ := HP.out k hlt
      have hs := HS.out k
      have hl := HL.out k hk
      obtain ⟨E, hE⟩ : ∃ E : Nat, p.getD k 0 = (E : Int) := ⟨_, (Int.toNat_of_nonneg g1).symm⟩
      rw [hE] at hc g1 g2 hs
      rw [Int.toNat_natCast] at hs
      have HWI := Lib.hid (fun W => with_any ((f k : Nat) : Int) (E : Int) W (by omega) (by omega) g1 (by omega))
      rw [show withE ((f k : Nat) : Int) (E : Int) = f k ||| 2 ^ E from by unfold withE; rw [Int.toNat_natCast, Int.toNat_natCast]] at HWI
      rw [← hs] at HWI
      generalize hT : f (k + 1) = T at *
      have HT := Lib.hid hT
      generalize f k = S at *
      have hk0 : (0 : Int) ≤ (k : Int) := by omega
      have hkm : (k : Int) < (m : Int) := by omega
      clear hs hl hE hT
      go_wp2_with (go_at_call 76; refine (HWI.out _).mono ?_; rintro e w' ⟨rfl, rfl⟩)
      go_round
      case rel => exact ⟨k + 1, by go_num, by omega, by rw [HT.out]⟩
      case measure => simp [intOf]; omega
    · obtain rfl : k = m := by omega
      have hkm : ¬ (k : Int) < (k : Int) := by omega
      go_wp2
      go_ret
      exact ⟨rfl, rfl⟩

set_option maxRecDepth 100000 in
set_option maxHeartbeats 4000000 in
/-- The starts of an order that are level sets: slices of its memory. -/
theorem levelsI_any (D : Option Addr) (ws : List Int) (dap : Nat) (V : Option Addr) (c : Nat) (w : World) (g : Hid (Ints w w.heap.size D ws)) (h : Hid (Ints w w.heap.size V (nats (ordN ws ws.length)))) (hm5 : ws.length ≤ 5) (hc : ws.length ≤ c) :
    Calls Tryz.prog 58 #[.slice D ws.length dap, .slice V ws.length c] w fun e w' => ∃ (G : Option Addr) (cc : Nat) (es : List Ent), e = .returned (.slice G es.length cc) ∧ es = (endsTo ws ws.length).map (lvE V (nats (ordN ws ws.length))) ∧ St w w' [ol (.slice G es.length cc) es] := by
  have HW := Lib.hid (St.start w)
  have hpm := ordF_pm ws
  have hol := order_len ws
  have HOA := Lib.hid (fun i (hi : i < ws.length) => order_at ws hi)
  have HLT := Lib.hid hpm.lt
  have HEN := Lib.hid (fun k => show endsTo ws (k + 1) = if k + 1 = ws.length ∨ ws.getD (ordF ws (k + 1)) 0 < ws.getD (ordF ws k) 0 then endsTo ws k ++ [k + 1] else endsTo ws k from rfl)
  have HEL := Lib.hid (ends_len ws)
  have h0 : endsTo ws 0 = [] := rfl
  generalize nats (ordN ws ws.length) = os at *
  generalize ordF ws = o at *
  generalize endsTo ws = F at *
  obtain ⟨m, hm⟩ : ∃ m, ws.length = m := ⟨_, rfl⟩
  rw [hm] at hm5 hol HOA HLT HEN hc ⊢
  have HX := Lib.hid hm
  have HL := Lib.hid hol
  have H0 := Lib.hid h0
  clear hm hol hpm h0
  obtain ⟨j0, hj, hy0, hy1, hy2⟩ := info_parts info_ints
  have HS0 := Lib.hid HW.out.nilL
  go_enter Tryz.func58, Tryz.ntmps58
  go_wp2
  go_loopw [5, 11] (fun v i wr => ∃ (k l : Nat) (G : Option Addr) (d : Nat) (es : List Ent), i = .int .i64 k ∧ k ≤ m ∧ es.length = l ∧ v = .slice G l d ∧ Hid (es = (F k).map (lvE V os)) ∧ St w wr [ol (.slice G l d) es]) (fun _ i _ => m - (intOf i).toNat)
  case atStart => exact ⟨0, 0, none, 0, [], rfl, Nat.zero_le _, rfl, rfl, Lib.hid (by rw [H0.out]; rfl), HS0.out⟩
  case round =>
    obtain ⟨k, l, G, d, es, rfl, hk, hl, rfl, HES, hS⟩ := hrel
    have HR := Lib.hid hS
    have HLE := Lib.hid hl
    have hl5 : l ≤ 1048576 := by
      have h1 := congrArg List.length HES.out
      have h2 := HEL.out k
      rw [List.length_map] at h1
      omega
    clear hS hl HS0
    by_cases hlt : k < m
    · obtain ⟨b, off, rfl, hbl, hco0⟩ := (h.out.below HR.out.base).at_ (k := k) (by rw [HL.out]; exact hlt)
      have hco := hco0
      rw [HOA.out k hlt] at hco
      have hE := HLT.out k hlt
      have hen := HEN.out k
      obtain ⟨E, hEE⟩ : ∃ E, o k = E := ⟨_, rfl⟩
      rw [hEE] at hco hE hen
      obtain ⟨r, ro, rfl, hrl, hcx⟩ := (g.out.below HR.out.base).at_ (k := E) (by rw [HX.out]; exact hE)
      have g1 : (0 : Int) ≤ (k : Int) := by omega
      have g2 : (k : Int) < (m : Int) := by omega
      have g3 : (0 : Int) ≤ (E : Int) := by omega
      have g4 : (E : Int) < (m : Int) := by omega
      have g5 : (0 : Int) ≤ (k : Int) + 1 := by omega
      have g6 : ((k : Int) + 1).toNat = k + 1 := by omega
      have g7 : (k : Int) + 1 ≤ (c : Int) := by omega
      have htk : (os.take (k + 1)).length = k + 1 := by rw [List.length_take, HL.out]; omega
      have HTK := Lib.hid htk
      clear hEE hco0 htk
      by_cases hend : k + 1 = m
      · have hbe : (((k : Int) + 1) == (m : Int)) = true := beq_iff_eq.2 (by omega)
        rw [if_pos (.inl hend)] at hen
        have HENJ := Lib.hid hen
        clear hen hend
        go_wp2
        go_quiet (fail)
        have HY := Lib.hid (HR.out.drewN nq)
        generalize wr.drewN nq = w9 at HY ⊢
        go_wp2_with (at_builtin; have hS := HY.out; refine wpList_appL1 rfl (.tmp 36) (.tmp 41) 42 rfl (lvE (some ⟨b, off, none⟩) os (k + 1)) Tryz.underlying42 hj hy0 hy1 hy2 ((hS.alloc _ _).drop 0) (i := 0) (by rw [HLE.out]; rfl) rfl rfl HLE.out (by show _ = some (Value.slice (some ⟨b, off, none⟩) (os.take (k + 1)).length (k + 1)); rw [HTK.out]; exact ((hS.alloc _ _).box (i := 0) rfl).1 0 _ rfl) hl5 ?_; intro g8 c8 w8 hS8; have HS8 := Lib.hid hS8; clear hS hS8)
        go_roundw
        case rel => exact ⟨k + 1, l + 1, some ⟨g8, 0, none⟩, c8, es ++ [lvE (some ⟨b, off, none⟩) os (k + 1)], by go_num, by omega, by rw [List.length_append, HLE.out]; rfl, by rw [HLE.out], Lib.hid (by rw [HES.out, HENJ.out, List.map_append]; rfl), by have h9 := HS8.out; rw [List.length_append, HLE.out] at h9; exact h9⟩
        case measure => simp [intOf]; omega
      · have hbe : (((k : Int) + 1) == (m : Int)) = false := beq_eq_false_iff_ne.2 (by omega)
        have hj1 : k + 1 < m := by omega
        obtain ⟨b', off', e', -, hco2⟩ := (h.out.below HR.out.base).at_ (k := k + 1) (by rw [HL.out]; exact hj1)
        obtain ⟨rfl, rfl⟩ : b = b' ∧ off = off' := by cases e'; exact ⟨rfl, rfl⟩
        rw [HOA.out (k + 1) hj1] at hco2
        have hE2 := HLT.out (k + 1) hj1
        obtain ⟨E2, hEE2⟩ : ∃ E2, o (k + 1) = E2 := ⟨_, rfl⟩
        rw [hEE2] at hco2 hE2 hen
        obtain ⟨r', ro', e'', -, hcx2⟩ := (g.out.below HR.out.base).at_ (k := E2) (by rw [HX.out]; exact hE2)
        obtain ⟨rfl, rfl⟩ : r = r' ∧ ro = ro' := by cases e''; exact ⟨rfl, rfl⟩
        generalize ws.getD E 0 = x at *
        generalize ws.getD E2 0 = y at *
        have g8 : (k : Int) + 1 < (m : Int) := by omega
        have g9 : (0 : Int) ≤ (E2 : Int) := by omega
        have g10 : (E2 : Int) < (m : Int) := by omega
        clear e' e'' hEE2
        by_cases hyx : y < x
        · rw [if_pos (.inr hyx)] at hen
          have HENJ := Lib.hid hen
          clear hen hend
          go_wp2
          go_quiet (fail)
          have HY := Lib.hid (HR.out.drewN nq)
          generalize wr.drewN nq = w9 at HY ⊢
          go_wp2_with (at_builtin; have hS := HY.out; refine wpList_appL1 rfl (.tmp 36) (.tmp 41) 42 rfl (lvE (some ⟨b, off, none⟩) os (k + 1)) Tryz.underlying42 hj hy0 hy1 hy2 ((hS.alloc _ _).drop 0) (i := 0) (by rw [HLE.out]; rfl) rfl rfl HLE.out (by show _ = some (Value.slice (some ⟨b, off, none⟩) (os.take (k + 1)).length (k + 1)); rw [HTK.out]; exact ((hS.alloc _ _).box (i := 0) rfl).1 0 _ rfl) hl5 ?_; intro g8 c8 w8 hS8; have HS8 := Lib.hid hS8; clear hS hS8)
          go_roundw
          case rel => exact ⟨k + 1, l + 1, some ⟨g8, 0, none⟩, c8, es ++ [lvE (some ⟨b, off, none⟩) os (k + 1)], by go_num, by omega, by rw [List.length_append, HLE.out]; rfl, by rw [HLE.out], Lib.hid (by rw [HES.out, HENJ.out, List.map_append]; rfl), by have h9 := HS8.out; rw [List.length_append, HLE.out] at h9; exact h9⟩
          case measure => simp [intOf]; omega
        · rw [if_neg (fun hh => hh.elim hend hyx)] at hen
          have HENJ := Lib.hid hen
          clear hen hend
          go_wp2
          go_quiet (fail)
          go_wp2
          go_roundw
          case rel => exact ⟨k + 1, l, G, d, es, by go_num, by omega, HLE.out, rfl, Lib.hid (by rw [HES.out, HENJ.out]), HR.out.drewN _⟩
          case measure => simp [intOf]; omega
    · obtain rfl : k = m := by omega
      have hjn : ¬ (k : Int) < (k : Int) := by omega
      go_wp2
      go_ret
      exact ⟨G, d, es, by rw [HLE.out]; rfl, HES.out, by rw [HLE.out]; exact HR.out⟩


section

variable (D : Option Addr) (ws : List Int) (dap : Nat) (w : World) (g : Hid (Ints w w.heap.size D ws)) (hl : ws.length ≤ 1048576)
include g hl
theorem levI_no (hf : isVec ws = false) : Calls Tryz.prog 34 #[.slice D ws.length dap] w (RetIB w [] false) := by
  have HW := Lib.hid (St.start w)
  have HO := Lib.hid (fun W h1 => ordI_any D ws dap W (Lib.hid h1) hl)
  have e : orderFor ws = ([], false) := by unfold orderFor; rw [hf]; rfl
  rw [e] at HO
  clear e hf
  go_enter Tryz.func34, Tryz.ntmps34
  go_wp2_with (go_at_call 29; refine (HO.out _ ((g.out.below HW.out.base).mono HW.out.size)).mono ?_; rintro e w2 ⟨V, c, rfl, ho, hb⟩; have HS := Lib.hid (HW.out.newI hb ho); clear ho hb)
  exact bodyPost_ret (v := .tuple #[.slice none 0 0, .bool false]) (by simp [results, Tryz.results34, go_sem]) rfl ⟨none, 0, rfl, K.Own.nil _ _, HS.out.base⟩

set_option maxRecDepth 100000 in
set_option maxHeartbeats 4000000 in
theorem levI_yes (hf : isVec ws = true) : Calls Tryz.prog 34 #[.slice D ws.length dap] w (RetIB w (levTo ws ws.length) true) := by
  have HW := Lib.hid (St.start w)
  have HO := Lib.hid (fun W h1 => ordI_any D ws dap W (Lib.hid h1) hl)
  have e : orderFor ws = (nats (ordN ws ws.length), true) := by unfold orderFor; rw [hf]; rfl
  rw [e] at HO
  have hm5 := (isVec_yes hf).1
  have hpm := ordF_pm ws
  have hol := order_len ws
  have HLV := Lib.hid (fun W V c (h1 : Ints W W.heap.size D ws) (h2 : Ints W W.heap.size V (nats (ordN ws ws.length))) (hc : ws.length ≤ c) => levelsI_any D ws dap V c W (Lib.hid h1) (Lib.hid h2) hm5 hc)
  have HOB := Lib.hid (fun i (hi : i < ws.length) => show 0 ≤ (nats (ordN ws ws.length)).getD i 0 ∧ (nats (ordN ws ws.length)).getD i 0 ≤ 4 by rw [order_at ws hi]; have := hpm.lt i hi; omega)
  have HSE := Lib.hid (fun e (he : e ≤ ws.length) => show seenTo ((nats (ordN ws ws.length)).take e) e = pre (ordF ws) e from seen_pre e fun i hi => by rw [getD_take hi, order_at ws (by omega)])
  have HEN := Lib.hid (fun e he => (ends_le ws ws.length e he).2)
  have hll := ends_len ws ws.length
  rw [ends_lev]
  generalize nats (ordN ws ws.length) = os at *
  generalize endsTo ws ws.length = F at *
  generalize pre (ordF ws) = P at *
  obtain ⟨m, hm⟩ : ∃ m, ws.length = m := ⟨_, rfl⟩
  rw [hm] at HO hm5 hol HLV HOB HSE HEN hll ⊢
  have HL := Lib.hid hol
  clear e hf hm hol hl hpm
  obtain ⟨i0, hi, hz0, hz1, hz2⟩ := info_parts info_int
  go_enter Tryz.func34, Tryz.ntmps34
  go_wp2_with (first
    | (go_at_call 29; refine (HO.out _ ((g.out.below HW.out.base).mono HW.out.size)).mono ?_; rintro e w2 ⟨V, c, rfl, ho, hb⟩; rw [HL.out] at ho ⊢; have HRM := Lib.hid ho.room; have hS := HW.out.newI hb ho; rw [HL.out] at hS; have HS := Lib.hid hS; clear ho hb hS)
    | (go_at_call 58; refine (HLV.out _ _ _ ((g.out.below HS.out.base).mono HS.out.size) (HS.out.ints (i := 0) rfl) HRM.out).mono ?_; rintro e w3 ⟨G, cc, es, rfl, hes, hS3⟩; have HES := Lib.hid hes; have HS3 := Lib.hid (HS.out.join hS3).nil; clear hes hS3))
  have hel : es.length = F.length := by rw [HES.out, List.length_map]
  obtain ⟨l, hl2⟩ : ∃ l, es.length = l := ⟨_, rfl⟩
  have HLE := Lib.hid hl2
  have hl5 : l ≤ 5 := by omega
  rw [hl2] at HS3 ⊢
  have HFL := Lib.hid (show F.length = l by omega)
  clear hel hl2 hll
  go_loopw [6, 20] (fun v i wr => ∃ (k : Nat) (U : Option Addr) (d : Nat), i = .int .i64 k ∧ k ≤ l ∧ v = .slice U k d ∧ St w wr [il (.slice U k d) k ((F.take k).map fun e => (P e : Int)), ol (.slice G l cc) es, il (.slice V m c) m os]) (fun _ i _ => l - (intOf i).toNat)
  case atStart => exact ⟨0, none, 0, rfl, Nat.zero_le _, rfl, HS3.out⟩
  case round =>
    obtain ⟨k, U, d, rfl, hk, rfl, hS⟩ := hrel
    have HR := Lib.hid hS
    clear hS HS3
    by_cases hlt : k < l
    · have hkF : k < F.length := by rw [HFL.out]; exact hlt
      obtain ⟨E, hE⟩ : ∃ E, F[k]? = some E := ⟨F[k], by simp [hkF]⟩
      have hEm := HEN.out E (List.mem_of_getElem? hE)
      have hek : es[k]? = some (lvE V os E) := by rw [HES.out, List.getElem?_map, hE]; rfl
      obtain ⟨gg, rfl⟩ : ∃ gg, G = some ⟨gg, 0, none⟩ := HR.out.ol_at (c := cc) (i := 1) (by rw [HLE.out]; rfl) (k := k) (by rw [HLE.out]; exact hlt)
      have htk : (os.take E).length = E := by rw [List.length_take, HL.out]; omega
      have d0 : wr.cell? ⟨gg, k, none⟩ = some (.slice V E E) := by
        have h1 := HR.out.cellL (c := cc) (i := 1) (by rw [HLE.out]; rfl) hek
        rw [h1]
        show some (Value.slice V (os.take E).length E) = _
        rw [htk]
      have HIN := Lib.hid (show Ints wr wr.heap.size V (os.take E) from (HR.out.ints (i := 2) rfl).take E)
      have HSO := Lib.hid (setOfI_any V (os.take E) E wr HIN (fun j hj => by rw [htk] at hj; rw [getD_take hj]; exact HOB.out j (by omega)) (by rw [htk]; omega))
      rw [htk, HSE.out E hEm] at HSO
      have HNX := Lib.hid (show ((F.take (k + 1)).map fun e => (P e : Int)) = ((F.take k).map fun e => (P e : Int)) ++ [(P E : Int)] by
        have h1 := List.getElem?_eq_some_iff.1 hE
        rw [List.take_succ_eq_append_getElem h1.1, h1.2, List.map_append]; rfl)
      generalize P E = S at *
      have hk0 : (0 : Int) ≤ (k : Int) := by omega
      have hki : (k : Int) < (l : Int) := by omega
      clear hE hEm hek htk hkF
      go_wp2_with (first
        | (go_at_call 60; refine HSO.out.mono ?_; rintro e w' ⟨rfl, rfl⟩)
        | (at_builtin; have hS := HR.out; refine wpList_app1 rfl (.tmp 24) (.tmp 27) 24 rfl (S : Int) Tryz.underlying24 hi hz0 hz1 hz2 ((hS.alloc _ _).drop 0) (i := 0) rfl rfl rfl (by simp) (by omega) ?_; intro V' c' w4 hS4; have HR4 := Lib.hid hS4; clear hS hS4))
      go_roundw
      case rel => exact ⟨k + 1, V', c', by go_num, by omega, rfl, by rw [HNX.out]; exact HR4.out⟩
      case measure => simp [intOf]; omega
    · obtain rfl : k = l := by omega
      have hki : ¬ (k : Int) < (k : Int) := by omega
      have hfin : F.take k = F := List.take_of_length_le (by rw [HFL.out]; exact Nat.le_refl _)
      have HY := HR.out
      rw [hfin] at HY
      have hln : (F.map fun e => (P e : Int)).length = k := by rw [List.length_map, HFL.out]
      have HZ := Lib.hid HY
      clear HY hfin
      go_wp2
      exact bodyPost_ret (v := .tuple #[.slice U k d, .bool true]) (by simp [results, Tryz.results34, go_sem]) rfl ⟨U, d, by rw [hln], by rw [hln]; exact HZ.out.ownI (i := 0) rfl, HZ.out.base⟩

theorem levI_any : Calls Tryz.prog 34 #[.slice D ws.length dap] w (RetIB w (levels ws).1 (levels ws).2) := by
  unfold levels
  cases hf : isVec ws
  · exact levI_no D ws dap w g hl hf
  · exact levI_yes D ws dap w g hl hf

end


end Go.Proofs.YtlbefommcahkeaaGreatDoor.C

namespace Go.Proofs.YtlbefommcahkeaaGreatDoor.M
set_option linter.unusedVariables false
/-- The first k level sets are tight. -/
theorem tight_step {xs us : List Int} {P : Nat → Nat} {F : List Nat} {k e : Nat} (h : F[k]? = some e) :
    tightAll xs us (F.map fun e => (P e : Int)) (k + 1) = (tightAll xs us (F.map fun e => (P e : Int)) k && decide (weigh us (P e) us.length = xs.getD (P e) 0)) := by
  have e1 : (F.map fun e => (P e : Int)).getD k 0 = (P e : Int) := by
    rw [List.getD_eq_getElem?_getD, List.getElem?_map, h]; rfl
  rw [tightAll, e1, Int.toNat_natCast]

end Go.Proofs.YtlbefommcahkeaaGreatDoor.M
namespace Go.Proofs.YtlbefommcahkeaaGreatDoor.C
open Go.RowKit K M
set_option linter.unusedVariables false
set_option linter.unusedSimpArgs false
set_option linter.unusedSectionVars false


section

variable (n : Int) (A : Option Addr) (xs : List Int) (cap : Nat) (D : Option Addr) (ws : List Int) (dap : Nat) (E : Option Addr) (us : List Int) (eap : Nat) (w : World) (h : Hid (Ints w w.heap.size A xs)) (g : Hid (Ints w w.heap.size D ws)) (k : Hid (Ints w w.heap.size E us)) (hl : ws.length ≤ 1048576) (hu : us.length ≤ 1048576) (hbr : Hid (Brujn w))
include h g k hl hu hbr
set_option maxRecDepth 100000 in
set_option maxHeartbeats 1600000 in
theorem bestbI_fit (q : fit9 n xs ws = false) : Calls Tryz.prog 21 #[.agg #[.int .i64 n, .slice A xs.length cap], .slice D ws.length dap, .slice E us.length eap] w (RetV w (.bool false)) := by
  have HW := Lib.hid (St.start w)
  have HS0 := Lib.hid (HW.out.alloc [.int .i64 n, .slice A xs.length cap] 26)
  have HF := Lib.hid (fun W h1 h2 => bestI_any n A xs cap D ws dap W (Lib.hid h1) (Lib.hid h2) hl)
  have e : bestOrder n xs ws = ([], false) := by unfold bestOrder; rw [q]; rfl
  rw [e] at HF
  clear q e
  go_enter Tryz.func21, Tryz.ntmps21
  go_wp2_with (go_at_call 51; refine (HF.out _ ((h.out.below HS0.out.base).mono HS0.out.size) ((g.out.below HS0.out.base).mono HS0.out.size)).mono ?_; rintro e w2 ⟨V, c, rfl, ho, hb⟩; have HS := Lib.hid (HS0.out.newI hb ho); clear ho hb)
  go_ret
  exact ⟨rfl, HS.out.base⟩

set_option maxRecDepth 100000 in
set_option maxHeartbeats 1600000 in
theorem bestbI_base (q : fit9 n xs ws = true) (q2 : isBase n xs us = false) : Calls Tryz.prog 21 #[.agg #[.int .i64 n, .slice A xs.length cap], .slice D ws.length dap, .slice E us.length eap] w (RetV w (.bool false)) := by
  have HW := Lib.hid (St.start w)
  have HS0 := Lib.hid (HW.out.alloc [.int .i64 n, .slice A xs.length cap] 26)
  have HF := Lib.hid (fun W h1 h2 => bestI_any n A xs cap D ws dap W (Lib.hid h1) (Lib.hid h2) hl)
  have e : bestOrder n xs ws = (nats (ordN ws ws.length), true) := by unfold bestOrder; rw [q]; rfl
  rw [e] at HF
  have HB := Lib.hid (fun W h1 h2 h3 => baseI_any n A xs cap E us eap W (Lib.hid h1) (Lib.hid h2) hu (Lib.hid h3))
  rw [q2] at HB
  generalize nats (ordN ws ws.length) = os at HF
  clear q q2 e
  go_enter Tryz.func21, Tryz.ntmps21
  go_wp2_with (first
    | (go_at_call 51; refine (HF.out _ ((h.out.below HS0.out.base).mono HS0.out.size) ((g.out.below HS0.out.base).mono HS0.out.size)).mono ?_; rintro e w2 ⟨V, c, rfl, ho, hb⟩; have hS := HS0.out.newI hb ho; obtain ⟨b0, -⟩ := hS.box (i := 1) rfl; have b00 := b0 0 _ rfl; have b01 := b0 1 _ rfl; have HS := Lib.hid hS; clear ho hb hS b0)
    | (go_at_call 57; refine (HB.out _ ((h.out.below HS.out.base).mono HS.out.size) ((k.out.below HS.out.base).mono HS.out.size) (brujn_on hbr.out HS.out.base)).mono ?_; rintro e w3 ⟨rfl, hb⟩; have HS2 := Lib.hid (HS.out.below hb); clear hb))
  go_ret
  exact ⟨rfl, HS2.out.base⟩

set_option maxRecDepth 100000 in
set_option maxHeartbeats 4000000 in
theorem bestbI_yes (q : fit9 n xs ws = true) (q2 : isBase n xs us = true) : Calls Tryz.prog 21 #[.agg #[.int .i64 n, .slice A xs.length cap], .slice D ws.length dap, .slice E us.length eap] w (RetV w (.bool (tightAll xs us (levTo ws ws.length) (levTo ws ws.length).length))) := by
  obtain ⟨-, -, g3, g4⟩ := fit9_yes q
  obtain ⟨v1, -⟩ := isVec_yes g3
  obtain ⟨hxl, hxv⟩ := fit9_len q
  have hbl : isBelow n xs us = true := by
    unfold isBase at q2
    rw [Bool.and_eq_true] at q2
    exact q2.1
  obtain ⟨-, u4, u5, -⟩ := isBelow_yes hbl
  obtain ⟨u1, u2⟩ := isVec5_yes u5
  have huw : us.length = ws.length := by omega
  have HW := Lib.hid (St.start w)
  have HS0 := Lib.hid (HW.out.alloc [.int .i64 n, .slice A xs.length cap] 26)
  have HF := Lib.hid (fun W h1 h2 => bestI_any n A xs cap D ws dap W (Lib.hid h1) (Lib.hid h2) hl)
  have e : bestOrder n xs ws = (nats (ordN ws ws.length), true) := by unfold bestOrder; rw [q]; rfl
  rw [e] at HF
  have HB := Lib.hid (fun W h1 h2 h3 => baseI_any n A xs cap E us eap W (Lib.hid h1) (Lib.hid h2) hu (Lib.hid h3))
  rw [q2] at HB
  have hpm := ordF_pm ws
  have hol := order_len ws
  have HLV := Lib.hid (fun W V c (h1 : Ints W W.heap.size D ws) (h2 : Ints W W.heap.size V (nats (ordN ws ws.length))) (hc : ws.length ≤ c) => levelsI_any D ws dap V c W (Lib.hid h1) (Lib.hid h2) v1 hc)
  have HOB := Lib.hid (fun i (hi : i < ws.length) => show 0 ≤ (nats (ordN ws ws.length)).getD i 0 ∧ (nats (ordN ws ws.length)).getD i 0 ≤ 4 by rw [order_at ws hi]; have := hpm.lt i hi; omega)
  have HSE := Lib.hid (fun e (he : e ≤ ws.length) => show seenTo ((nats (ordN ws ws.length)).take e) e = pre (ordF ws) e from seen_pre e fun i hi => by rw [getD_take hi, order_at ws (by omega)])
  have HPL := Lib.hid (fun e (he : e ≤ ws.length) => show pre (ordF ws) e < xs.length by rw [hxl]; exact pre_lt e fun i hi => hpm.lt i (by omega))
  have HEN := Lib.hid (fun e he => (ends_le ws ws.length e he).2)
  have hll := ends_len ws ws.length
  have h32 : xs.length ≤ 32 := by rw [hxl]; exact Nat.le_trans (Nat.pow_le_pow_right (by decide) v1) (by decide)
  have HS := Lib.hid (fun (W : World) (x : Nat) (h1 : Ints W W.heap.size A xs) (h2 : Ints W W.heap.size E us) (h3 : Brujn W) (hx : x < xs.length) => show Calls Tryz.prog 59 #[.agg #[.int .i64 n, .slice A xs.length cap, .slice E us.length eap, .int .i64 0], .int .i64 x] W (RetV W (.int .i64 (xs.getD x 0 - weigh us x us.length))) from slackC n A xs cap E us eap 0 x x W (Lib.hid h1) (Lib.hid h2) (Lib.hid h3) u1 u2 (by decide) (by omega) (Nat.zero_or x) hx (by rw [huw, ← hxl]; exact hx) (hxv x hx).1 (hxv x hx).2)
  rw [ends_lev, List.length_map]
  have HTS := Lib.hid (fun j e (he : (endsTo ws ws.length)[j]? = some e) => tight_step (xs := xs) (us := us) (P := pre (ordF ws)) he)
  have HT0 := Lib.hid (show tightAll xs us ((endsTo ws ws.length).map fun e => (pre (ordF ws) e : Int)) 0 = true from rfl)
  have HTN := Lib.hid (fun j e (he : (endsTo ws ws.length)[j]? = some e) (hb : weigh us (pre (ordF ws) e) us.length ≠ xs.getD (pre (ordF ws) e) 0) => show tightAll xs us ((endsTo ws ws.length).map fun e => (pre (ordF ws) e : Int)) (endsTo ws ws.length).length = false from tight_no (j := j) (by
    have e1 : ((endsTo ws ws.length).map fun e => (pre (ordF ws) e : Int)).getD j 0 = (pre (ordF ws) e : Int) := by
      rw [List.getD_eq_getElem?_getD, List.getElem?_map, he]; rfl
    rw [e1, Int.toNat_natCast]
    exact hb) _ (List.getElem?_eq_some_iff.1 he).1)
  generalize tightAll xs us ((endsTo ws ws.length).map fun e => (pre (ordF ws) e : Int)) = T at *
  generalize nats (ordN ws ws.length) = os at *
  generalize endsTo ws ws.length = F at *
  generalize pre (ordF ws) = P at *
  obtain ⟨m, hm⟩ : ∃ m, ws.length = m := ⟨_, rfl⟩
  obtain ⟨p, hp⟩ : ∃ p, xs.length = p := ⟨_, rfl⟩
  obtain ⟨l, hl2⟩ : ∃ l, F.length = l := ⟨_, rfl⟩
  rw [huw, hm] at HB HS HTS HTN ⊢
  rw [hm] at HF v1 hol HLV HOB HSE HPL HEN hll
  rw [hp] at HS0 HF HB HPL HS h32 ⊢
  rw [hl2] at hll HTN ⊢
  have HL := Lib.hid hol
  have HFL := Lib.hid hl2
  clear e hm hol hl hpm q q2 g3 g4 hxl hxv hbl u4 u5 u1 u2 huw hp hl2 hu
  go_enter Tryz.func21, Tryz.ntmps21
  go_wp2_with (first
    | (go_at_call 51; refine (HF.out _ ((h.out.below HS0.out.base).mono HS0.out.size) ((g.out.below HS0.out.base).mono HS0.out.size)).mono ?_; rintro e w2 ⟨V, c, rfl, ho, hb⟩; rw [HL.out] at ho ⊢; have HRM := Lib.hid ho.room; have hS := HS0.out.newI hb ho; rw [HL.out] at hS; obtain ⟨b0, -⟩ := hS.box (i := 1) rfl; have b00 := b0 0 _ rfl; have b01 := b0 1 _ rfl; have HS2 := Lib.hid hS; clear ho hb hS b0)
    | (go_at_call 57; refine (HB.out _ ((h.out.below HS2.out.base).mono HS2.out.size) ((k.out.below HS2.out.base).mono HS2.out.size) (brujn_on hbr.out HS2.out.base)).mono ?_; rintro e w3 ⟨rfl, hb⟩; have hS := HS2.out.below hb; obtain ⟨b0, -⟩ := hS.box (i := 1) rfl; have c00 := b0 0 _ rfl; have c01 := b0 1 _ rfl; have HS3 := Lib.hid hS; have HS4 := Lib.hid (hS.alloc [.int .i64 n, .slice A p cap, .slice E m eap, .int .i64 0] 67); clear hb hS b0 b00 b01)
    | (go_at_call 58; refine (HLV.out _ _ _ ((g.out.below HS4.out.base).mono HS4.out.size) (HS4.out.ints (i := 1) rfl) HRM.out).mono ?_; rintro e w5 ⟨G, cc, es, rfl, hes, hS5⟩; have HES := Lib.hid hes; have HS5 := Lib.hid (HS4.out.join hS5); clear hes hS5))
  generalize w3.heap.size = B at *
  have hel : es.length = l := by rw [HES.out, List.length_map, HFL.out]
  have HLE := Lib.hid hel
  rw [hel] at HS5 ⊢
  clear hel HS0 HS2 HS3 HS4 c00 c01
  go_loopw [33] (fun i wr => ∃ j : Nat, i = .int .i64 j ∧ j ≤ l ∧ Hid (T j = true) ∧ St w wr [ol (.slice G l cc) es, bx B 67 [.int .i64 n, .slice A p cap, .slice E m eap, .int .i64 0], il (.slice V m c) m os, bx w.heap.size 26 [.int .i64 n, .slice A p cap]]) (fun i _ => l - (intOf i).toNat)
  case atStart => exact ⟨0, rfl, Nat.zero_le _, HT0, HS5.out⟩
  case round =>
    obtain ⟨j, rfl, hj, HT, hS⟩ := hrel
    have HR := Lib.hid hS
    clear hS HS5
    by_cases hlt : j < l
    · have hjF : j < F.length := by rw [HFL.out]; exact hlt
      obtain ⟨e, he⟩ : ∃ e, F[j]? = some e := ⟨F[j], by simp [hjF]⟩
      have hem := HEN.out e (List.mem_of_getElem? he)
      have hek : es[j]? = some (lvE V os e) := by rw [HES.out, List.getElem?_map, he]; rfl
      obtain ⟨gg, rfl⟩ : ∃ gg, G = some ⟨gg, 0, none⟩ := HR.out.ol_at (c := cc) (i := 0) (by rw [HLE.out]; rfl) (k := j) (by rw [HLE.out]; exact hlt)
      have htk : (os.take e).length = e := by rw [List.length_take, HL.out]; omega
      have d0 : wr.cell? ⟨gg, j, none⟩ = some (.slice V e e) := by
        have h1 := HR.out.cellL (c := cc) (i := 0) (by rw [HLE.out]; rfl) hek
        rw [h1]
        show some (Value.slice V (os.take e).length e) = _
        rw [htk]
      obtain ⟨b0, -⟩ := HR.out.box (i := 1) rfl
      have d1 := b0 0 _ rfl
      have d2 := b0 1 _ rfl
      have d3 := b0 2 _ rfl
      have d4 := b0 3 _ rfl
      have HSO := Lib.hid (fun W (h1 : Ints W W.heap.size V (os.take e)) => setOfI_any V (os.take e) e W (Lib.hid h1) (fun j hj => by rw [htk] at hj; rw [getD_take hj]; exact HOB.out j (by omega)) (by rw [htk]; omega))
      rw [htk, HSE.out e hem] at HSO
      have HIN := Lib.hid (show Ints wr wr.heap.size V (os.take e) from (HR.out.ints (i := 2) rfl).take e)
      have hpl := HPL.out e hem
      have HQ := Lib.hid (fun W h1 h2 h3 => HS.out W (P e) h1 h2 h3 hpl)
      have hts := HTS.out j e he
      have htn := HTN.out j e he
      generalize P e = S at *
      generalize xs.getD S 0 = x at *
      generalize weigh us S m = y at *
      have hj0 : (0 : Int) ≤ (j : Int) := by omega
      have hji : (j : Int) < (l : Int) := by omega
      clear he hem hek htk hjF b0
      by_cases hyx : y = x
      · have hbe : (x - y != 0) = false := bne_eq_false_iff_eq.2 (by omega)
        have HT2 := Lib.hid (show T (j + 1) = true by rw [hts, HT.out, decide_eq_true hyx]; rfl)
        clear hts htn hyx
        go_wp2
        go_region_held3 (fun w' => w'.cell? ⟨B, 0, none⟩ = some (.int .i64 n) ∧ w'.cell? ⟨B, 1, none⟩ = some (.slice A p cap) ∧ w'.cell? ⟨B, 2, none⟩ = some (.slice E m eap) ∧ w'.cell? ⟨B, 3, none⟩ = some (.int .i64 0)) (first | (refine ⟨?_, ?_, ?_, ?_⟩ <;> assumption) | assumption | go_keep) (first
          | (go_at_call 60; refine (HSO.out _ ?_).mono ?_; (first | exact HIN.out | exact HIN.out.drew); rintro e w' ⟨rfl, rfl⟩)
          | (go_at_call 59; have HRD := Lib.hid HR.out.drew; refine (HQ.out _ ?_ ?_ ?_).mono ?_; (first | exact (h.out.below HR.out.base).mono HR.out.size | exact (h.out.below HRD.out.base).mono HRD.out.size); (first | exact (k.out.below HR.out.base).mono HR.out.size | exact (k.out.below HRD.out.base).mono HRD.out.size); (first | exact brujn_on hbr.out HR.out.base | exact brujn_on hbr.out HRD.out.base); rintro e w6 ⟨rfl, hb⟩; have hY := HRD.out.below hb; obtain ⟨b0, -⟩ := hY.box (i := 1) rfl; have f1 := b0 0 _ rfl; have f2 := b0 1 _ rfl; have f3 := b0 2 _ rfl; have f4 := b0 3 _ rfl; have HY := Lib.hid hY; clear hb hY b0 d0 d1 d2 d3 d4))
        go_wp2
        go_roundw
        case rel => exact ⟨j + 1, by go_num, by omega, HT2, HY.out⟩
        case measure => simp [intOf]; omega
      · have hbe : (x - y != 0) = true := bne_iff_ne.2 (by omega)
        have HF2 := Lib.hid (htn hyx)
        clear hts htn hyx
        go_wp2
        go_region_held3 (fun w' => w'.cell? ⟨B, 0, none⟩ = some (.int .i64 n) ∧ w'.cell? ⟨B, 1, none⟩ = some (.slice A p cap) ∧ w'.cell? ⟨B, 2, none⟩ = some (.slice E m eap) ∧ w'.cell? ⟨B, 3, none⟩ = some (.int .i64 0)) (first | (refine ⟨?_, ?_, ?_, ?_⟩ <;> assumption) | assumption | go_keep) (first
          | (go_at_call 60; refine (HSO.out _ ?_).mono ?_; (first | exact HIN.out | exact HIN.out.drew); rintro e w' ⟨rfl, rfl⟩)
          | (go_at_call 59; have HRD := Lib.hid HR.out.drew; refine (HQ.out _ ?_ ?_ ?_).mono ?_; (first | exact (h.out.below HR.out.base).mono HR.out.size | exact (h.out.below HRD.out.base).mono HRD.out.size); (first | exact (k.out.below HR.out.base).mono HR.out.size | exact (k.out.below HRD.out.base).mono HRD.out.size); (first | exact brujn_on hbr.out HR.out.base | exact brujn_on hbr.out HRD.out.base); rintro e w6 ⟨rfl, hb⟩; have hY := HRD.out.below hb; obtain ⟨b0, -⟩ := hY.box (i := 1) rfl; have f1 := b0 0 _ rfl; have f2 := b0 1 _ rfl; have f3 := b0 2 _ rfl; have f4 := b0 3 _ rfl; have HY := Lib.hid hY; clear hb hY b0 d0 d1 d2 d3 d4))
        go_wp2
        go_ret
        exact ⟨by rw [HF2.out]; rfl, HY.out.base⟩
    · obtain rfl : j = l := by omega
      have hji : ¬ (j : Int) < (j : Int) := by omega
      go_wp2
      go_ret
      exact ⟨by rw [HT.out]; rfl, HR.out.base⟩

theorem bestbI_any : Calls Tryz.prog 21 #[.agg #[.int .i64 n, .slice A xs.length cap], .slice D ws.length dap, .slice E us.length eap] w (RetV w (.bool (isBest n xs ws us))) := by
  unfold isBest
  cases q : fit9 n xs ws
  · exact bestbI_fit n A xs cap D ws dap E us eap w h g k hl hu hbr q
  · cases q2 : isBase n xs us
    · exact bestbI_base n A xs cap D ws dap E us eap w h g k hl hu hbr q q2
    · exact bestbI_yes n A xs cap D ws dap E us eap w h g k hl hu hbr q q2

end


end Go.Proofs.YtlbefommcahkeaaGreatDoor.C
