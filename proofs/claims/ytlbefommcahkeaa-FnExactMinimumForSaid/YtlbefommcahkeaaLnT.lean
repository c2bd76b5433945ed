/-
  The contracts of spec.MinimumFor and LevelSets.
-/
import Derived.Test.YtlbefommcahkeaaLnS
namespace Go.Proofs.Ytlbefommcahkeaa.C
open Go.RowKit K M
set_option linter.unusedVariables false
set_option linter.unusedSimpArgs false
set_option linter.unusedSectionVars false


section

variable (n : Int) (A : Option Addr) (xs : List Int) (cap : Nat) (D : Option Addr) (ws : List Int) (dap : Nat) (w : World) (h : Hid (Ints w w.heap.size A xs)) (g : Hid (Ints w w.heap.size D ws)) (hl : ws.length ≤ 1048576)
include h g hl
theorem minS_no (e1 : fit9 n xs ws = false) : Calls Try.prog 19 #[.agg #[.int .i64 n, .slice A xs.length cap], .slice D ws.length dap] w (RetIIB w 0 [] false) := by
  have HW := Lib.hid (St.start w)
  have HS0 := Lib.hid ((HW.out.alloc [.int .i64 n, .slice A xs.length cap] 28).empty)
  have HF := Lib.hid (fun W h1 h2 => fit9S_any n A xs cap D ws dap W (Lib.hid h1) (Lib.hid h2) hl)
  rw [e1] at HF
  clear e1
  go_enter Try.func19, Try.ntmps19
  go_wp2_with (go_at_call 24; refine (HF.out _ ((h.out.below HS0.out.base).mono HS0.out.size) ((g.out.below HS0.out.base).mono HS0.out.size)).mono ?_; rintro e w2 ⟨rfl, hb⟩; have HS := Lib.hid (HS0.out.below hb); clear hb)
  exact bodyPost_ret (v := .tuple #[.int .i64 0, .slice (some ⟨w2.heap.size, 0, none⟩) 0 0, .bool false]) (by simp [results, Try.results19, go_sem]) rfl ⟨_, 0, rfl, HS.out.empty.ownI (i := 0) rfl, HS.out.empty.base⟩

set_option maxRecDepth 100000 in
set_option maxHeartbeats 4000000 in
theorem minS_yes (e1 : fit9 n xs ws = true) : Calls Try.prog 19 #[.agg #[.int .i64 n, .slice A xs.length cap], .slice D ws.length dap] w (RetIIB w (-bestN xs (negV ws)) (bestX xs (negV ws)) true) := by
  obtain ⟨-, -, g3, -⟩ := fit9_yes e1
  obtain ⟨v1, v2⟩ := isVec_yes g3
  have HW := Lib.hid (St.start w)
  have HS0 := Lib.hid ((HW.out.alloc [.int .i64 n, .slice A xs.length cap] 28).empty)
  have HF := Lib.hid (fun W h1 h2 => fit9S_any n A xs cap D ws dap W (Lib.hid h1) (Lib.hid h2) hl)
  rw [e1] at HF
  have hnl := negV_len ws
  have HM := Lib.hid (fun W E c h1 h2 => maxS_yes n A xs cap E (negV ws) c W (Lib.hid h1) (Lib.hid h2) (by rw [hnl]; omega) (fit9_neg e1))
  rw [hnl] at HM
  have hbd := best_part (fit9_neg e1) ws.length (by rw [hnl]; exact Nat.le_refl _)
  have hbn : bestN xs (negV ws) = sm (fun k => (negV ws).getD k 0 * (bestX xs (negV ws)).getD k 0) ws.length := by unfold bestN; rw [hnl]
  rw [← hbn] at hbd
  have hxl := bestX_len xs (negV ws)
  rw [hnl] at hxl
  generalize bestN xs (negV ws) = y at *
  generalize bestX xs (negV ws) = us at *
  obtain ⟨f, hf⟩ : ∃ f : Nat → Int, f = fun k => -ws.getD k 0 := ⟨_, rfl⟩
  have HFN := Lib.hid (fun k => show f k = -ws.getD k 0 by rw [hf])
  have htf : negV ws = tab ws.length f := by rw [hf]; rfl
  rw [htf] at HM
  have HWV := Lib.hid v2
  obtain ⟨m, hm⟩ : ∃ m, ws.length = m := ⟨_, rfl⟩
  rw [hm] at HF HM hbd hxl v1 ⊢
  have hyb : -10000000 ≤ y ∧ y ≤ 10000000 := by omega
  have hwn : IntKind.i64.wrap (-y) = -y := IntWalk.i64_in _ (by omega)
  have HX := Lib.hid hm
  have HL := Lib.hid hxl
  clear e1 g3 v2 hf htf hm hxl hl hbd hbn hnl
  obtain ⟨i0, hi, hz0, hz1, hz2⟩ := info_parts info_int
  go_enter Try.func19, Try.ntmps19
  go_wp2_with (go_at_call 24; refine (HF.out _ ((h.out.below HS0.out.base).mono HS0.out.size) ((g.out.below HS0.out.base).mono HS0.out.size)).mono ?_; rintro e w2 ⟨rfl, hb⟩; have HS := Lib.hid (HS0.out.below hb); clear hb)
  go_loopw [7, 8] (fun v i wr => ∃ (j : Nat) (V : Option Addr) (c : Nat), i = .int .i64 j ∧ j ≤ m ∧ v = .slice V j c ∧ St w wr [il (.slice V j c) j (tab j f), bx w.heap.size 28 [.int .i64 n, .slice A xs.length cap]]) (fun _ i _ => m - (intOf i).toNat)
  case atStart => exact ⟨0, _, _, rfl, Nat.zero_le _, rfl, by simpa [tab] using HS.out⟩
  case round =>
    obtain ⟨j, V, c, rfl, hj, rfl, hS⟩ := hrel
    by_cases hlt : j < m
    · have htab := Lib.hid (tab_succ j f)
      have hji : (j : Int) < (m : Int) := by omega
      have hj0 : (0 : Int) ≤ (j : Int) := by omega
      obtain ⟨b, off, rfl, hbl, hc⟩ := (g.out.below hS.base).at_ (k := j) (by rw [HX.out]; omega)
      have hval := HFN.out j
      obtain ⟨x1, x2⟩ := HWV.out j (by rw [HX.out]; omega)
      have HR := Lib.hid hS
      generalize ws.getD j 0 = x at hc hval x1 x2
      have hw1 : IntKind.i64.wrap (-x) = f j := by rw [hval]; exact IntWalk.i64_in _ (by omega)
      clear hS hval
      generalize f j = z at *
      go_wp2_with (at_builtin; refine wpList_app1 rfl (.tmp 24) (.tmp 30) 22 rfl z Try.underlying22 hi hz0 hz1 hz2 ((HR.out.alloc _ _).drop 0) (i := 0) rfl rfl rfl (by simp [hw1]) (by omega) ?_; intro V' c' w3 hS2; have HR2 := Lib.hid hS2; clear hS2)
      go_roundw
      case rel => exact ⟨j + 1, V', c', by go_num, by omega, rfl, by rw [htab.out]; exact HR2.out⟩
      case measure => simp [intOf]; omega
    · obtain rfl : j = m := by omega
      have hjn : ¬ (j : Int) < (j : Int) := by omega
      obtain ⟨b0, -⟩ := hS.box (i := 1) rfl
      have b00 := b0 0 _ rfl
      have b01 := b0 1 _ rfl
      have HR := Lib.hid hS
      clear hS b0
      go_wp2_with (go_at_call 17; refine (HM.out _ _ _ ((h.out.below HR.out.base).mono HR.out.size) (HR.out.ints (i := 0) rfl)).mono ?_; rintro e w3 ⟨V', c', rfl, ho, hb⟩; rw [HL.out] at ho ⊢; have hS := HR.out.newI hb ho; rw [HL.out] at hS; have HS3 := Lib.hid hS; clear ho hb hS)
      exact bodyPost_ret (v := .tuple #[.int .i64 (-y), .slice V' j c', .bool true]) (by simp [results, Try.results19, go_sem]) rfl ⟨V', c', by rw [HL.out], by rw [HL.out]; exact HS3.out.ownI (i := 0) rfl, HS3.out.base⟩

theorem minS_any : Calls Try.prog 19 #[.agg #[.int .i64 n, .slice A xs.length cap], .slice D ws.length dap] w (RetIIB w (minFor n xs ws).1 (minFor n xs ws).2.1 (minFor n xs ws).2.2) := by
  unfold minFor
  cases e1 : fit9 n xs ws
  · exact minS_no n A xs cap D ws dap w h g hl e1
  · exact minS_yes n A xs cap D ws dap w h g hl e1

end


end Go.Proofs.Ytlbefommcahkeaa.C
