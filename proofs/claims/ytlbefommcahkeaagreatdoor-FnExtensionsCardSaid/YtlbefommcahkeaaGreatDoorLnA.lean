/-
  A number, a new list and a bool.
  The contracts of spec.BestOrder, MaximumFor, MinimumFor and of what they ask.
  The contracts of spec.MinimumFor and LevelSets.
-/
import Derived.Test.YtlbefommcahkeaaGreatDoorBase
import Derived.Test.YtlbefommcahkeaaGreatDoorAllM
import Derived.Test.YtlbefommcahkeaaGreatDoorExA
import Derived.Test.YtlbefommcahkeaaGreatDoorSubS
import Derived.Test.YtlbefommcahkeaaGreatDoorBsA
namespace Go.Proofs.YtlbefommcahkeaaGreatDoor.K
open Go.RowKit
def RetIIB (w : World) (x : Int) (xs : List Int) (b : Bool) (e : Ending) (w' : World) : Prop := ∃ A c, e = .returned (.tuple #[.int .i64 x, .slice A xs.length c, .bool b]) ∧ Own w' w.heap.size (.slice A xs.length c) xs ∧ Below w.heap.size w w'

end Go.Proofs.YtlbefommcahkeaaGreatDoor.K

namespace Go.Proofs.YtlbefommcahkeaaGreatDoor.C
open Go.RowKit K M
set_option linter.unusedVariables false
set_option linter.unusedSimpArgs false
set_option linter.unusedSectionVars false


section

variable (n : Int) (A : Option Addr) (xs : List Int) (cap : Nat) (D : Option Addr) (ws : List Int) (dap : Nat) (w : World) (h : Hid (Ints w w.heap.size A xs)) (g : Hid (Ints w w.heap.size D ws)) (hl : ws.length ≤ 1048576)
include h g hl
set_option maxRecDepth 100000 in
set_option maxHeartbeats 1600000 in
theorem fit9S_any : Calls Tryz.prog 55 #[.agg #[.int .i64 n, .slice A xs.length cap], .slice D ws.length dap] w (RetV w (.bool (fit9 n xs ws))) := by
  have HW := Lib.hid (St.start w)
  have HG := Lib.hid (fun W h1 => groundS_any n A xs cap W (Lib.hid h1))
  have HB := Lib.hid (fun W h1 => subS_any n A xs cap W (Lib.hid h1))
  have HV := Lib.hid (fun W h1 => vecS_any D ws dap W (Lib.hid h1) hl)
  have HS0 := Lib.hid (HW.out.alloc [.int .i64 n, .slice A xs.length cap] 26)
  unfold fit9
  cases e1 : isGround n xs
  · rw [e1] at HG
    go_enter Tryz.func55, Tryz.ntmps55
    go_wp2_with (go_at_call 61; refine (HG.out _ ((h.out.below HS0.out.base).mono HS0.out.size)).mono ?_; rintro e w2 ⟨rfl, hb⟩; have HS := Lib.hid (HS0.out.below hb); clear hb)
    go_ret
    exact ⟨rfl, HS.out.base⟩
  · rw [e1] at HG
    cases e2 : isSub n xs
    · rw [e2] at HB
      go_enter Tryz.func55, Tryz.ntmps55
      go_wp2_with (first
        | (go_at_call 61; refine (HG.out _ ((h.out.below HS0.out.base).mono HS0.out.size)).mono ?_; rintro e w2 ⟨rfl, hb⟩; have hS := HS0.out.below hb; obtain ⟨b0, -⟩ := hS.box (i := 0) rfl; have b00 := b0 0 _ rfl; have b01 := b0 1 _ rfl; have HS := Lib.hid hS; clear hb hS b0)
        | (go_at_call 81; refine (HB.out _ ((h.out.below HS.out.base).mono HS.out.size)).mono ?_; rintro e w3 ⟨rfl, hb⟩; have HS2 := Lib.hid (HS.out.below hb); clear hb))
      go_ret
      exact ⟨rfl, HS2.out.base⟩
    · rw [e2] at HB
      cases e3 : isVec ws
      · rw [e3] at HV
        go_enter Tryz.func55, Tryz.ntmps55
        go_wp2_with (first
          | (go_at_call 61; refine (HG.out _ ((h.out.below HS0.out.base).mono HS0.out.size)).mono ?_; rintro e w2 ⟨rfl, hb⟩; have hS := HS0.out.below hb; obtain ⟨b0, -⟩ := hS.box (i := 0) rfl; have b00 := b0 0 _ rfl; have b01 := b0 1 _ rfl; have HS := Lib.hid hS; clear hb hS b0)
          | (go_at_call 81; refine (HB.out _ ((h.out.below HS.out.base).mono HS.out.size)).mono ?_; rintro e w3 ⟨rfl, hb⟩; have HS2 := Lib.hid (HS.out.below hb); clear hb)
          | (go_at_call 71; refine (HV.out _ ((g.out.below HS2.out.base).mono HS2.out.size)).mono ?_; rintro e w4 ⟨rfl, rfl⟩))
        go_ret
        exact ⟨rfl, HS2.out.base⟩
      · rw [e3] at HV
        obtain ⟨q, hq⟩ : ∃ q, decide ((ws.length : Int) = n) = q := ⟨_, rfl⟩
        rw [hq]
        have hbe : ((ws.length : Int) == n) = q := by
          rw [← hq]
          by_cases e : (ws.length : Int) = n
          · rw [decide_eq_true e]; exact beq_iff_eq.2 e
          · rw [decide_eq_false e]; exact beq_eq_false_iff_ne.2 e
        clear hq
        go_enter Tryz.func55, Tryz.ntmps55
        go_wp2_with (first
          | (go_at_call 61; refine (HG.out _ ((h.out.below HS0.out.base).mono HS0.out.size)).mono ?_; rintro e w2 ⟨rfl, hb⟩; have hS := HS0.out.below hb; obtain ⟨b0, -⟩ := hS.box (i := 0) rfl; have b00 := b0 0 _ rfl; have b01 := b0 1 _ rfl; have HS := Lib.hid hS; clear hb hS b0)
          | (go_at_call 81; refine (HB.out _ ((h.out.below HS.out.base).mono HS.out.size)).mono ?_; rintro e w3 ⟨rfl, hb⟩; have hS2 := HS.out.below hb; obtain ⟨b0, -⟩ := hS2.box (i := 0) rfl; have c00 := b0 0 _ rfl; have c01 := b0 1 _ rfl; have HS2 := Lib.hid hS2; clear hb hS2 b0)
          | (go_at_call 71; refine (HV.out _ ((g.out.below HS2.out.base).mono HS2.out.size)).mono ?_; rintro e w4 ⟨rfl, rfl⟩))
        go_ret
        exact ⟨rfl, HS2.out.base⟩

theorem bestS_any : Calls Tryz.prog 52 #[.agg #[.int .i64 n, .slice A xs.length cap], .slice D ws.length dap] w (RetIB w (bestOrder n xs ws).1 (bestOrder n xs ws).2) := by
  have HW := Lib.hid (St.start w)
  have HS0 := Lib.hid (HW.out.alloc [.int .i64 n, .slice A xs.length cap] 26)
  have HF := Lib.hid (fun W h1 h2 => fit9S_any n A xs cap D ws dap W (Lib.hid h1) (Lib.hid h2) hl)
  unfold bestOrder
  cases e1 : fit9 n xs ws
  · rw [e1] at HF
    go_enter Tryz.func52, Tryz.ntmps52
    go_wp2_with (go_at_call 55; refine (HF.out _ ((h.out.below HS0.out.base).mono HS0.out.size) ((g.out.below HS0.out.base).mono HS0.out.size)).mono ?_; rintro e w2 ⟨rfl, hb⟩; have HS := Lib.hid (HS0.out.below hb); clear hb)
    go_ret2
    exact ⟨_, _, rfl, HS.out.empty.ownI (i := 0) rfl, HS.out.empty.base⟩
  · rw [e1] at HF
    have HO := Lib.hid (fun W h1 => ordS_any D ws dap W (Lib.hid h1) hl)
    have e : orderFor ws = (nats (ordN ws ws.length), true) := by unfold orderFor; rw [(fit9_yes e1).2.2.1]; rfl
    rw [e] at HO
    rw [if_pos rfl]
    generalize nats (ordN ws ws.length) = os at HO ⊢
    clear e e1
    go_enter Tryz.func52, Tryz.ntmps52
    go_wp2_with (first
      | (go_at_call 55; refine (HF.out _ ((h.out.below HS0.out.base).mono HS0.out.size) ((g.out.below HS0.out.base).mono HS0.out.size)).mono ?_; rintro e w2 ⟨rfl, hb⟩; have HS := Lib.hid (HS0.out.below hb); clear hb)
      | (go_at_call 30; refine (HO.out _ ((g.out.below HS.out.base).mono HS.out.size)).mono ?_; rintro e w3 ⟨V, c, rfl, ho, hb⟩; have HS2 := Lib.hid (HS.out.newI hb ho); clear ho hb))
    go_ret2
    exact ⟨V, c, rfl, HS2.out.ownI (i := 0) rfl, HS2.out.base⟩

theorem maxS_no (e1 : fit9 n xs ws = false) : Calls Tryz.prog 16 #[.agg #[.int .i64 n, .slice A xs.length cap], .slice D ws.length dap] w (RetIIB w 0 [] false) := by
  have HW := Lib.hid (St.start w)
  have HS0 := Lib.hid (HW.out.alloc [.int .i64 n, .slice A xs.length cap] 26)
  have HF := Lib.hid (fun W h1 h2 => bestS_any n A xs cap D ws dap W (Lib.hid h1) (Lib.hid h2) hl)
  have e : bestOrder n xs ws = ([], false) := by unfold bestOrder; rw [e1]; rfl
  rw [e] at HF
  clear e e1
  go_enter Tryz.func16, Tryz.ntmps16
  go_wp2_with (go_at_call 52; refine (HF.out _ ((h.out.below HS0.out.base).mono HS0.out.size) ((g.out.below HS0.out.base).mono HS0.out.size)).mono ?_; rintro e w2 ⟨V, c, rfl, ho, hb⟩; have HS := Lib.hid (HS0.out.newI hb ho); clear ho hb)
  exact bodyPost_ret (v := .tuple #[.int .i64 0, .slice (some ⟨w2.heap.size, 0, none⟩) 0 0, .bool false]) (by simp [results, Tryz.results16, go_sem]) rfl ⟨_, 0, rfl, HS.out.empty.ownI (i := 0) rfl, HS.out.empty.base⟩

set_option maxRecDepth 100000 in
set_option maxHeartbeats 4000000 in
theorem maxS_yes (e1 : fit9 n xs ws = true) : Calls Tryz.prog 16 #[.agg #[.int .i64 n, .slice A xs.length cap], .slice D ws.length dap] w (RetIIB w (bestN xs ws) (bestX xs ws) true) := by
  obtain ⟨g1, -, g3, g4⟩ := fit9_yes e1
  obtain ⟨v1, v2⟩ := isVec_yes g3
  have HW := Lib.hid (St.start w)
  have HS0 := Lib.hid (HW.out.alloc [.int .i64 n, .slice A xs.length cap] 26)
  have HF := Lib.hid (fun W h1 h2 => bestS_any n A xs cap D ws dap W (Lib.hid h1) (Lib.hid h2) hl)
  have e : bestOrder n xs ws = (nats (ordN ws ws.length), true) := by unfold bestOrder; rw [e1]; rfl
  rw [e] at HF
  have hol := order_len ws
  have hfn := ground_fn g1
  rw [← g4] at hfn
  have HC := Lib.hid (fun W V c h1 h2 => (l8cornerS_any ws.length A xs cap V (nats (ordN ws ws.length)) c W (Lib.hid h1) (Lib.hid h2) (by rw [hol]; omega) hfn (by rw [hol]; exact order_perm ws)))
  rw [hol, bestX_corner, g4] at HC
  have HBP := Lib.hid (best_part e1)
  have HBX := Lib.hid (bestX_bd e1)
  have hxl := bestX_len xs ws
  obtain ⟨f, hf⟩ : ∃ f : Nat → Int, f = fun k => ws.getD k 0 * (bestX xs ws).getD k 0 := ⟨_, rfl⟩
  have HFN := Lib.hid (fun k => show f k = ws.getD k 0 * (bestX xs ws).getD k 0 by rw [hf])
  have hbn : bestN xs ws = sm f ws.length := by rw [hf]; rfl
  rw [hbn]
  rw [← hf] at HBP
  generalize bestX xs ws = us at *
  generalize nats (ordN ws ws.length) = os at *
  have HWV := Lib.hid v2
  obtain ⟨m, hm⟩ : ∃ m, ws.length = m := ⟨_, rfl⟩
  rw [hm] at HF HC HBP hxl hol v1 ⊢
  have HX := Lib.hid hm
  have HL := Lib.hid hxl
  have HOL := Lib.hid hol
  clear e e1 g1 g3 g4 v2 hfn hf hbn hm hxl hol hl
  go_enter Tryz.func16, Tryz.ntmps16
  go_wp2_with (first
    | (go_at_call 52; refine (HF.out _ ((h.out.below HS0.out.base).mono HS0.out.size) ((g.out.below HS0.out.base).mono HS0.out.size)).mono ?_; rintro e w2 ⟨V, c, rfl, ho, hb⟩; rw [HOL.out] at ho ⊢; have hS := HS0.out.newI hb ho; rw [HOL.out] at hS; obtain ⟨b0, -⟩ := hS.box (i := 1) rfl; have b00 := b0 0 _ rfl; have b01 := b0 1 _ rfl; have HS := Lib.hid hS; clear ho hb hS b0)
    | (go_at_call 53; refine (HC.out _ _ _ ((h.out.below HS.out.base).mono HS.out.size) (HS.out.ints (i := 0) rfl)).mono ?_; rintro e w3 ⟨V', c', rfl, ho, hb⟩; rw [HL.out] at ho ⊢; have hS := HS.out.newI hb ho; rw [HL.out] at hS; have HS2 := Lib.hid hS; clear ho hb hS))
  go_loopw [10, 11] (fun s i wr => ∃ k : Nat, i = .int .i64 k ∧ k ≤ m ∧ s = .int .i64 (sm f k) ∧ St w wr [il (.slice V' m c') m us, il (.slice V m c) m os, bx w.heap.size 26 [.int .i64 n, .slice A xs.length cap]]) (fun _ i _ => m - (intOf i).toNat)
  case atStart => exact ⟨0, rfl, Nat.zero_le _, rfl, HS2.out⟩
  case round =>
    obtain ⟨k, rfl, hk, rfl, hS⟩ := hrel
    have HR := Lib.hid hS
    by_cases hlt : k < m
    · obtain ⟨b, off, rfl, hbl, hc⟩ := (g.out.below hS.base).at_ (k := k) (by rw [HX.out]; exact hlt)
      obtain ⟨b', off', rfl, hbl', hd⟩ := (hS.ints (i := 0) rfl).at_ (k := k) (by rw [HL.out]; exact hlt)
      have hk0 : (0 : Int) ≤ (k : Int) := by omega
      have hkm : (k : Int) < (m : Int) := by omega
      have hfk := HFN.out k
      have p1 := HBP.out k (by omega)
      have p2 := HBP.out (k + 1) (by omega)
      have hs : sm f (k + 1) = sm f k + f k := rfl
      rw [hs] at p2
      have HSM := Lib.hid hs
      have hfb : -20000000 ≤ f k ∧ f k ≤ 20000000 := by omega
      have hsb : -20000000 ≤ sm f k ∧ sm f k ≤ 20000000 := by omega
      generalize ws.getD k 0 = x at hc hfk
      generalize us.getD k 0 = y at hd hfk
      have hw1 : IntKind.i64.wrap (x * y) = f k := by rw [← hfk]; exact IntWalk.i64_in _ (by omega)
      generalize f k = z at *
      generalize sm f k = t at *
      have hw2 : IntKind.i64.wrap (t + z) = t + z := IntWalk.i64_in _ (by omega)
      clear hS hfk hs p1 p2 hfb hsb
      go_wp2
      go_quiet (fail)
      go_wp2
      go_roundw
      case rel => exact ⟨k + 1, by go_num, by omega, by rw [HSM.out], HR.out.drewN _⟩
      case measure => simp [intOf]; omega
    · obtain rfl : k = m := by omega
      have hkm : ¬ (k : Int) < (k : Int) := by omega
      clear hS
      go_wp2
      exact bodyPost_ret (v := .tuple #[.int .i64 (sm f k), .slice V' k c', .bool true]) (by simp [results, Tryz.results16, go_sem]) rfl ⟨V', c', by rw [HL.out], by rw [HL.out]; exact HR.out.ownI (i := 0) rfl, HR.out.base⟩

theorem maxS_any : Calls Tryz.prog 16 #[.agg #[.int .i64 n, .slice A xs.length cap], .slice D ws.length dap] w (RetIIB w (maxFor n xs ws).1 (maxFor n xs ws).2.1 (maxFor n xs ws).2.2) := by
  unfold maxFor
  cases e1 : fit9 n xs ws
  · exact maxS_no n A xs cap D ws dap w h g hl e1
  · exact maxS_yes n A xs cap D ws dap w h g hl e1

end


end Go.Proofs.YtlbefommcahkeaaGreatDoor.C

namespace Go.Proofs.YtlbefommcahkeaaGreatDoor.C
open Go.RowKit K M
set_option linter.unusedVariables false
set_option linter.unusedSimpArgs false
set_option linter.unusedSectionVars false


section

variable (n : Int) (A : Option Addr) (xs : List Int) (cap : Nat) (D : Option Addr) (ws : List Int) (dap : Nat) (w : World) (h : Hid (Ints w w.heap.size A xs)) (g : Hid (Ints w w.heap.size D ws)) (hl : ws.length ≤ 1048576)
include h g hl
theorem minS_no (e1 : fit9 n xs ws = false) : Calls Tryz.prog 18 #[.agg #[.int .i64 n, .slice A xs.length cap], .slice D ws.length dap] w (RetIIB w 0 [] false) := by
  have HW := Lib.hid (St.start w)
  have HS0 := Lib.hid ((HW.out.alloc [.int .i64 n, .slice A xs.length cap] 26).empty)
  have HF := Lib.hid (fun W h1 h2 => fit9S_any n A xs cap D ws dap W (Lib.hid h1) (Lib.hid h2) hl)
  rw [e1] at HF
  clear e1
  go_enter Tryz.func18, Tryz.ntmps18
  go_wp2_with (go_at_call 55; refine (HF.out _ ((h.out.below HS0.out.base).mono HS0.out.size) ((g.out.below HS0.out.base).mono HS0.out.size)).mono ?_; rintro e w2 ⟨rfl, hb⟩; have HS := Lib.hid (HS0.out.below hb); clear hb)
  exact bodyPost_ret (v := .tuple #[.int .i64 0, .slice (some ⟨w2.heap.size, 0, none⟩) 0 0, .bool false]) (by simp [results, Tryz.results18, go_sem]) rfl ⟨_, 0, rfl, HS.out.empty.ownI (i := 0) rfl, HS.out.empty.base⟩

set_option maxRecDepth 100000 in
set_option maxHeartbeats 4000000 in
theorem minS_yes (e1 : fit9 n xs ws = true) : Calls Tryz.prog 18 #[.agg #[.int .i64 n, .slice A xs.length cap], .slice D ws.length dap] w (RetIIB w (-bestN xs (negV ws)) (bestX xs (negV ws)) true) := by
  obtain ⟨-, -, g3, -⟩ := fit9_yes e1
  obtain ⟨v1, v2⟩ := isVec_yes g3
  have HW := Lib.hid (St.start w)
  have HS0 := Lib.hid ((HW.out.alloc [.int .i64 n, .slice A xs.length cap] 26).empty)
  have HF := Lib.hid (fun W h1 h2 => fit9S_any n A xs cap D ws dap W (Lib.hid h1) (Lib.hid h2) hl)
  rw [e1] at HF
  have hnl := negV_len ws
  have HM := Lib.hid (fun W E c h1 h2 => maxS_yes n A xs cap E (negV ws) c W (Lib.hid h1) (Lib.hid h2) (by rw [hnl]; omega) (fit9_neg e1))
  rw [hnl] at HM
  have hbd := best_part (fit9_neg e1) ws.length (by rw [hnl]; exact Nat.le_refl _)
  have hbn : bestN xs (negV ws) = sm (fun k => (negV ws).getD k 0 * (bestX xs (negV ws)).getD k 0) ws.length := by unfold bestN; rw [hnl]
  rw [← hbn] at hbd
  have hxl := bestX_len xs (negV ws)
  rw [hnl] at hxl
  generalize bestN xs (negV ws) = y at *
  generalize bestX xs (negV ws) = us at *
  obtain ⟨f, hf⟩ : ∃ f : Nat → Int, f = fun k => -ws.getD k 0 := ⟨_, rfl⟩
  have HFN := Lib.hid (fun k => show f k = -ws.getD k 0 by rw [hf])
  have htf : negV ws = tab ws.length f := by rw [hf]; rfl
  rw [htf] at HM
  have HWV := Lib.hid v2
  obtain ⟨m, hm⟩ : ∃ m, ws.length = m := ⟨_, rfl⟩
  rw [hm] at HF HM hbd hxl v1 ⊢
  have hyb : -10000000 ≤ y ∧ y ≤ 10000000 := by omega
  have hwn : IntKind.i64.wrap (-y) = -y := IntWalk.i64_in _ (by omega)
  have HX := Lib.hid hm
  have HL := Lib.hid hxl
  clear e1 g3 v2 hf htf hm hxl hl hbd hbn hnl
  obtain ⟨i0, hi, hz0, hz1, hz2⟩ := info_parts info_int
  go_enter Tryz.func18, Tryz.ntmps18
  go_wp2_with (go_at_call 55; refine (HF.out _ ((h.out.below HS0.out.base).mono HS0.out.size) ((g.out.below HS0.out.base).mono HS0.out.size)).mono ?_; rintro e w2 ⟨rfl, hb⟩; have HS := Lib.hid (HS0.out.below hb); clear hb)
  go_loopw [7, 8] (fun v i wr => ∃ (j : Nat) (V : Option Addr) (c : Nat), i = .int .i64 j ∧ j ≤ m ∧ v = .slice V j c ∧ St w wr [il (.slice V j c) j (tab j f), bx w.heap.size 26 [.int .i64 n, .slice A xs.length cap]]) (fun _ i _ => m - (intOf i).toNat)
  case atStart => exact ⟨0, _, _, rfl, Nat.zero_le _, rfl, by simpa [tab] using HS.out⟩
  case round =>
    obtain ⟨j, V, c, rfl, hj, rfl, hS⟩ := hrel
    by_cases hlt : j < m
    · have htab := Lib.hid (tab_succ j f)
      have hji : (j : Int) < (m : Int) := by omega
      have hj0 : (0 : Int) ≤ (j : Int) := by omega
      obtain ⟨b, off, rfl, hbl, hc⟩ := (g.out.below hS.base).at_ (k := j) (by rw [HX.out]; omega)
      have hval := HFN.out j
      obtain ⟨x1, x2⟩ := HWV.out j (by rw [HX.out]; omega)
      have HR := Lib.hid hS
      generalize ws.getD j 0 = x at hc hval x1 x2
      have hw1 : IntKind.i64.wrap (-x) = f j := by rw [hval]; exact IntWalk.i64_in _ (by omega)
      clear hS hval
      generalize f j = z at *
      go_wp2_with (at_builtin; refine wpList_app1 rfl (.tmp 24) (.tmp 30) 24 rfl z Tryz.underlying24 hi hz0 hz1 hz2 ((HR.out.alloc _ _).drop 0) (i := 0) rfl rfl rfl (by simp [hw1]) (by omega) ?_; intro V' c' w3 hS2; have HR2 := Lib.hid hS2; clear hS2)
      go_roundw
      case rel => exact ⟨j + 1, V', c', by go_num, by omega, rfl, by rw [htab.out]; exact HR2.out⟩
      case measure => simp [intOf]; omega
    · obtain rfl : j = m := by omega
      have hjn : ¬ (j : Int) < (j : Int) := by omega
      obtain ⟨b0, -⟩ := hS.box (i := 1) rfl
      have b00 := b0 0 _ rfl
      have b01 := b0 1 _ rfl
      have HR := Lib.hid hS
      clear hS b0
      go_wp2_with (go_at_call 16; refine (HM.out _ _ _ ((h.out.below HR.out.base).mono HR.out.size) (HR.out.ints (i := 0) rfl)).mono ?_; rintro e w3 ⟨V', c', rfl, ho, hb⟩; rw [HL.out] at ho ⊢; have hS := HR.out.newI hb ho; rw [HL.out] at hS; have HS3 := Lib.hid hS; clear ho hb hS)
      exact bodyPost_ret (v := .tuple #[.int .i64 (-y), .slice V' j c', .bool true]) (by simp [results, Tryz.results18, go_sem]) rfl ⟨V', c', by rw [HL.out], by rw [HL.out]; exact HS3.out.ownI (i := 0) rfl, HS3.out.base⟩

theorem minS_any : Calls Tryz.prog 18 #[.agg #[.int .i64 n, .slice A xs.length cap], .slice D ws.length dap] w (RetIIB w (minFor n xs ws).1 (minFor n xs ws).2.1 (minFor n xs ws).2.2) := by
  unfold minFor
  cases e1 : fit9 n xs ws
  · exact minS_no n A xs cap D ws dap w h g hl e1
  · exact minS_yes n A xs cap D ws dap w h g hl e1

end


end Go.Proofs.YtlbefommcahkeaaGreatDoor.C
