/-
  The contracts of spec.LeastVector, GreatestVector, PairingOf, IndicatorOf and of what they call.
  The contract of spec.OrderFor.
-/
import Derived.Test.YtlbefommcahkeaaGreatDoorAllM
import Derived.Test.YtlbefommcahkeaaGreatDoorLolA
import Derived.Test.YtlbefommcahkeaaGreatDoorSub
import Derived.Deep.RegionLaw
namespace Go.Proofs.YtlbefommcahkeaaGreatDoor.C
open Go.RowKit K M
set_option linter.unusedVariables false
set_option linter.unusedSimpArgs false

theorem vecS_good (A : Option Addr) (ws : List Int) (cap : Nat) (w : World) (h : Hid (Ints w w.heap.size A ws)) (hl : ws.length ≤ 1048576) (hv : ∀ k, k < ws.length → -1000 ≤ ws.getD k 0 ∧ ws.getD k 0 ≤ 1000) :
    Calls Tryz.prog 71 #[.slice A ws.length cap] w fun e w' => e = .returned (.bool (decide (ws.length ≤ 5))) ∧ w = w' := by
  obtain ⟨m, hm⟩ : ∃ m, ws.length = m := ⟨_, rfl⟩
  have HX := Lib.hid hm
  have HV := Lib.hid hv
  rw [hm] at hl ⊢
  clear hm hv
  go_enter Tryz.func71, Tryz.ntmps71
  go_wp2
  go_loop [3] (fun i => ∃ k : Nat, k ≤ m ∧ i = .int .i64 k) (fun i => m - (intOf i).toNat)
  case atStart => exact ⟨0, Nat.zero_le _, rfl⟩
  case round =>
    obtain ⟨k, hk, rfl⟩ := hrel
    by_cases hlt : k < m
    · obtain ⟨b, off, rfl, hbl, hc⟩ := h.out.at_ (k := k) (by rw [HX.out]; omega)
      have hk0 : (0 : Int) ≤ (k : Int) := by omega
      have hkn : (k : Int) < (m : Int) := by omega
      obtain ⟨v1, v2⟩ := HV.out k (by rw [HX.out]; exact hlt)
      generalize ws.getD k 0 = x at hc v1 v2
      go_wp2_with (go_at_call 42; refine (in_yes x (-1000) 1000 _ v1 v2).mono ?_; rintro e w' ⟨rfl, rfl⟩)
      go_round
      case rel => exact ⟨k + 1, by omega, by go_num⟩
      case measure => simp [intOf]; omega
    · obtain rfl : k = m := by omega
      have hkn : ¬ (k : Int) < (k : Int) := by omega
      by_cases h5 : k ≤ 5
      · have hg : (k : Int) ≤ 5 := by omega
        have hd : decide (k ≤ 5) = true := decide_eq_true h5
        go_wp2
        go_ret
        exact ⟨rfl, rfl⟩
      · have hg : ¬ (k : Int) ≤ 5 := by omega
        have hd : decide (k ≤ 5) = false := decide_eq_false h5
        go_wp2
        go_ret
        exact ⟨rfl, rfl⟩

theorem vecS_bad (A : Option Addr) (ws : List Int) (cap : Nat) (w : World) (h : Hid (Ints w w.heap.size A ws)) (hl : ws.length ≤ 1048576) (j : Nat) (hj : j < ws.length) (hb : ws.getD j 0 < -1000 ∨ 1000 < ws.getD j 0) (hv : ∀ k, k < j → -1000 ≤ ws.getD k 0 ∧ ws.getD k 0 ≤ 1000) :
    Calls Tryz.prog 71 #[.slice A ws.length cap] w fun e w' => e = .returned (.bool false) ∧ w = w' := by
  obtain ⟨m, hm⟩ : ∃ m, ws.length = m := ⟨_, rfl⟩
  have HX := Lib.hid hm
  have HV := Lib.hid hv
  have HB := Lib.hid hb
  rw [hm] at hl hj ⊢
  clear hm hv hb
  go_enter Tryz.func71, Tryz.ntmps71
  go_wp2
  go_loop [3] (fun i => ∃ k : Nat, k ≤ j ∧ i = .int .i64 k) (fun i => m - (intOf i).toNat)
  case atStart => exact ⟨0, Nat.zero_le _, rfl⟩
  case round =>
    obtain ⟨k, hk, rfl⟩ := hrel
    obtain ⟨b, off, rfl, hbl, hc⟩ := h.out.at_ (k := k) (by rw [HX.out]; omega)
    have hk0 : (0 : Int) ≤ (k : Int) := by omega
    have hkn : (k : Int) < (m : Int) := by omega
    by_cases hlt : k < j
    · obtain ⟨v1, v2⟩ := HV.out k hlt
      generalize ws.getD k 0 = x at hc v1 v2
      go_wp2_with (go_at_call 42; refine (in_yes x (-1000) 1000 _ v1 v2).mono ?_; rintro e w' ⟨rfl, rfl⟩)
      go_round
      case rel => exact ⟨k + 1, by omega, by go_num⟩
      case measure => simp [intOf]; omega
    · obtain rfl : k = j := by omega
      have hb := HB.out
      clear HB HV
      generalize ws.getD k 0 = x at hc hb
      have HB := Lib.hid hb
      clear hb
      go_wp2_with (go_at_call 42; refine (in_no x (-1000) 1000 _ HB.out).mono ?_; rintro e w' ⟨rfl, rfl⟩)
      go_ret
      exact ⟨rfl, rfl⟩

theorem vecS_any (A : Option Addr) (ws : List Int) (cap : Nat) (w : World) (h : Hid (Ints w w.heap.size A ws)) (hl : ws.length ≤ 1048576) :
    Calls Tryz.prog 71 #[.slice A ws.length cap] w fun e w' => e = .returned (.bool (isVec ws)) ∧ w = w' := by
  by_cases hv : ∀ k, k < ws.length → -1000 ≤ ws.getD k 0 ∧ ws.getD k 0 ≤ 1000
  · rw [isVec_good hv]
    exact vecS_good A ws cap w h hl hv
  · obtain ⟨j, hj, hb, hk⟩ := vec_bad hv
    rw [isVec_bad hj hb]
    exact vecS_bad A ws cap w h hl j hj hb hk


section

variable (A : Option Addr) (xs : List Int) (cap : Nat) (D : Option Addr) (ys : List Int) (dap : Nat) (w : World) (h : Hid (Ints w w.heap.size A xs)) (g : Hid (Ints w w.heap.size D ys)) (hx : xs.length ≤ 1048576) (hy : ys.length ≤ 1048576)
include h g hx hy
theorem fitVS_any : Calls Tryz.prog 49 #[.slice A xs.length cap, .slice D ys.length dap] w fun e w' => e = .returned (.bool (fitV xs ys)) ∧ w = w' := by
  have HA := Lib.hid (vecS_any A xs cap w h hx)
  have HD := Lib.hid (vecS_any D ys dap w g hy)
  unfold fitV
  cases e1 : isVec xs
  · rw [e1] at HA
    go_enter Tryz.func49, Tryz.ntmps49
    go_wp2_with (go_at_call 71; refine HA.out.mono ?_; rintro e w' ⟨rfl, rfl⟩)
    go_ret
    exact ⟨rfl, rfl⟩
  · rw [e1] at HA
    cases e2 : isVec ys
    · rw [e2] at HD
      go_enter Tryz.func49, Tryz.ntmps49
      go_wp2_with (first | (go_at_call_of 71 (Value.slice A xs.length cap); refine HA.out.mono ?_; rintro e w' ⟨rfl, rfl⟩) | (go_at_call_of 71 (Value.slice D ys.length dap); refine HD.out.mono ?_; rintro e w' ⟨rfl, rfl⟩))
      go_ret
      exact ⟨rfl, rfl⟩
    · rw [e2] at HD
      by_cases hl : xs.length = ys.length
      · have hli : ((xs.length : Int) == (ys.length : Int)) = true := beq_iff_eq.2 (by omega)
        have hd : decide (xs.length = ys.length) = true := decide_eq_true hl
        clear hl
        go_enter Tryz.func49, Tryz.ntmps49
        go_wp2_with (first | (go_at_call_of 71 (Value.slice A xs.length cap); refine HA.out.mono ?_; rintro e w' ⟨rfl, rfl⟩) | (go_at_call_of 71 (Value.slice D ys.length dap); refine HD.out.mono ?_; rintro e w' ⟨rfl, rfl⟩))
        go_ret
        exact ⟨by rw [hd]; rfl, rfl⟩
      · have hli : ((xs.length : Int) == (ys.length : Int)) = false := beq_eq_false_iff_ne.2 (by omega)
        have hd : decide (xs.length = ys.length) = false := decide_eq_false hl
        clear hl
        go_enter Tryz.func49, Tryz.ntmps49
        go_wp2_with (first | (go_at_call_of 71 (Value.slice A xs.length cap); refine HA.out.mono ?_; rintro e w' ⟨rfl, rfl⟩) | (go_at_call_of 71 (Value.slice D ys.length dap); refine HD.out.mono ?_; rintro e w' ⟨rfl, rfl⟩))
        go_ret
        exact ⟨by rw [hd]; rfl, rfl⟩

set_option maxRecDepth 100000 in
set_option maxHeartbeats 1600000 in
theorem leastS_no (hf : fitV xs ys = false) : Calls Tryz.prog 25 #[.slice A xs.length cap, .slice D ys.length dap] w (RetIB w [] false) := by
  have HW := Lib.hid (St.start w)
  have HF := Lib.hid (fun W h1 h2 => fitVS_any A xs cap D ys dap W (Lib.hid h1) (Lib.hid h2) hx hy)
  rw [hf] at HF
  clear hf
  go_enter Tryz.func25, Tryz.ntmps25
  go_wp2
  have HS := Lib.hid HW.out.empty
  go_loop [6, 7] (fun v i => i = .int .i64 0 ∧ v = .slice (some ⟨w.heap.size, 0, none⟩) 0 0) (fun _ _ => 0)
  case atStart => exact ⟨rfl, rfl⟩
  case round =>
    obtain ⟨rfl, rfl⟩ := hrel
    by_cases h0 : 0 < xs.length
    · have hli : (0 : Int) < (xs.length : Int) := by omega
      go_wp2_with (go_at_call 49; refine (HF.out _ ((h.out.below HS.out.base).mono HS.out.size) ((g.out.below HS.out.base).mono HS.out.size)).mono ?_; rintro e w' ⟨rfl, rfl⟩)
      go_ret2
      exact ⟨_, _, rfl, HS.out.ownI (i := 0) rfl, HS.out.base⟩
    · have hli : ¬ (0 : Int) < (xs.length : Int) := by omega
      go_wp2_with (go_at_call 49; refine (HF.out _ ((h.out.below HS.out.base).mono HS.out.size) ((g.out.below HS.out.base).mono HS.out.size)).mono ?_; rintro e w' ⟨rfl, rfl⟩)
      go_ret2
      exact ⟨_, _, rfl, HS.out.ownI (i := 0) rfl, HS.out.base⟩

set_option maxRecDepth 100000 in
set_option maxHeartbeats 4000000 in
theorem leastS_yes (hf : fitV xs ys = true) : Calls Tryz.prog 25 #[.slice A xs.length cap, .slice D ys.length dap] w (RetIB w (minV xs ys) true) := by
  have HW := Lib.hid (St.start w)
  have HF := Lib.hid (fun W h1 h2 => fitVS_any A xs cap D ys dap W (Lib.hid h1) (Lib.hid h2) hx hy)
  rw [hf] at HF
  obtain ⟨-, -, hll⟩ := fitV_yes hf
  obtain ⟨f, hfn⟩ : ∃ f : Nat → Int, f = fun k => min (xs.getD k 0) (ys.getD k 0) := ⟨_, rfl⟩
  have HO := Lib.hid (fun k => show f k = min (xs.getD k 0) (ys.getD k 0) by rw [hfn])
  unfold minV
  rw [← hfn]
  obtain ⟨m, hm⟩ : ∃ m, xs.length = m := ⟨_, rfl⟩
  rw [← hll] at HF ⊢
  rw [hm] at HF hx ⊢
  have HX := Lib.hid hm
  have HY := Lib.hid (hll.symm.trans hm)
  clear hf hll hfn hm hy
  obtain ⟨i0, hi, hz0, hz1, hz2⟩ := info_parts info_int
  go_enter Tryz.func25, Tryz.ntmps25
  go_wp2
  go_loopw [6, 7] (fun v i wr => ∃ (j : Nat) (V : Option Addr) (c : Nat), i = .int .i64 j ∧ j ≤ m ∧ v = .slice V j c ∧ St w wr [il (.slice V j c) j (tab j f)]) (fun _ i _ => m - (intOf i).toNat)
  case atStart => exact ⟨0, _, _, rfl, Nat.zero_le _, rfl, HW.out.empty⟩
  case round =>
    obtain ⟨j, V, c, rfl, hj, rfl, hS⟩ := hrel
    have HR := Lib.hid hS
    by_cases hlt : j < m
    · have htab := Lib.hid (tab_succ j f)
      have hji : (j : Int) < (m : Int) := by omega
      have hj0 : (0 : Int) ≤ (j : Int) := by omega
      obtain ⟨b, off, rfl, hbl, hc⟩ := h.out.at_ (k := j) (by rw [HX.out]; omega)
      obtain ⟨r, ro, rfl, hrl, hd⟩ := g.out.at_ (k := j) (by rw [HY.out]; omega)
      have hval := HO.out j
      generalize xs.getD j 0 = x at hc hval
      generalize ys.getD j 0 = y at hd hval
      obtain ⟨z, hz⟩ : ∃ z, (if y < x then y else x) = z := ⟨_, rfl⟩
      have hmin : min x y = z := by rw [← hz]; split <;> omega
      rw [hmin] at hval
      rw [hval] at htab
      have HCQ := Lib.hid hc
      have HCS := Lib.hid hd
      clear hS hval hmin hc hd
      go_wp2_with (go_at_call 49; refine (HF.out _ ((h.out.below HR.out.base).mono HR.out.size) ((g.out.below HR.out.base).mono HR.out.size)).mono ?_; rintro e w' ⟨rfl, rfl⟩; have hcq := (HR.out.base.cell (p := ⟨b, off + j, none⟩) hbl).trans HCQ.out; have hcs := (HR.out.base.cell (p := ⟨r, ro + j, none⟩) hrl).trans HCS.out)
      go_region_held3 (fun w' => w'.cell? ⟨b, off + j, none⟩ = some (.int .i64 x) ∧ w'.cell? ⟨r, ro + j, none⟩ = some (.int .i64 y)) (first | (refine ⟨?_, ?_⟩ <;> assumption) | assumption | go_keep) ((refine step_app1 (by rfl) (.tmp 20) (.tmp 30) 24 (by rfl) z Tryz.underlying24 hi hz0 hz1 hz2 (by first | exact (HR.out.alloc _ _).drop 0 | exact ((HR.out.alloc _ _).drop 0).drew) (i := 0) (by rfl) (by rfl) (by rfl) (by simp [← hz]) (by omega) ?_; intro V' c' w3 hS3; have hcq' := (hS3.base.cell (p := ⟨b, off + j, none⟩) hbl).trans HCQ.out; have hcs' := (hS3.base.cell (p := ⟨r, ro + j, none⟩) hrl).trans HCS.out; have HR3 := Lib.hid hS3; clear hS3))
      go_wp2
      go_roundw
      case rel => exact ⟨j + 1, V', c', by go_num, by omega, rfl, by rw [htab.out]; exact HR3.out⟩
      case measure => simp [intOf]; omega
    · obtain rfl : j = m := by omega
      have hjn : ¬ (j : Int) < (j : Int) := by omega
      clear hS
      go_wp2_with (go_at_call 49; refine (HF.out _ ((h.out.below HR.out.base).mono HR.out.size) ((g.out.below HR.out.base).mono HR.out.size)).mono ?_; rintro e w' ⟨rfl, rfl⟩)
      go_ret2
      have hln : (tab j f).length = j := tab_length _ _
      exact ⟨V, c, by rw [hln]; rfl, by rw [hln]; exact HR.out.ownI (i := 0) rfl, HR.out.base⟩

set_option maxRecDepth 100000 in
set_option maxHeartbeats 1600000 in
theorem greatS_no (hf : fitV xs ys = false) : Calls Tryz.prog 27 #[.slice A xs.length cap, .slice D ys.length dap] w (RetIB w [] false) := by
  have HW := Lib.hid (St.start w)
  have HF := Lib.hid (fun W h1 h2 => fitVS_any A xs cap D ys dap W (Lib.hid h1) (Lib.hid h2) hx hy)
  rw [hf] at HF
  clear hf
  go_enter Tryz.func27, Tryz.ntmps27
  go_wp2
  have HS := Lib.hid HW.out.empty
  go_loop [6, 7] (fun v i => i = .int .i64 0 ∧ v = .slice (some ⟨w.heap.size, 0, none⟩) 0 0) (fun _ _ => 0)
  case atStart => exact ⟨rfl, rfl⟩
  case round =>
    obtain ⟨rfl, rfl⟩ := hrel
    by_cases h0 : 0 < xs.length
    · have hli : (0 : Int) < (xs.length : Int) := by omega
      go_wp2_with (go_at_call 49; refine (HF.out _ ((h.out.below HS.out.base).mono HS.out.size) ((g.out.below HS.out.base).mono HS.out.size)).mono ?_; rintro e w' ⟨rfl, rfl⟩)
      go_ret2
      exact ⟨_, _, rfl, HS.out.ownI (i := 0) rfl, HS.out.base⟩
    · have hli : ¬ (0 : Int) < (xs.length : Int) := by omega
      go_wp2_with (go_at_call 49; refine (HF.out _ ((h.out.below HS.out.base).mono HS.out.size) ((g.out.below HS.out.base).mono HS.out.size)).mono ?_; rintro e w' ⟨rfl, rfl⟩)
      go_ret2
      exact ⟨_, _, rfl, HS.out.ownI (i := 0) rfl, HS.out.base⟩

set_option maxRecDepth 100000 in
set_option maxHeartbeats 4000000 in
theorem greatS_yes (hf : fitV xs ys = true) : Calls Tryz.prog 27 #[.slice A xs.length cap, .slice D ys.length dap] w (RetIB w (maxV xs ys) true) := by
  have HW := Lib.hid (St.start w)
  have HF := Lib.hid (fun W h1 h2 => fitVS_any A xs cap D ys dap W (Lib.hid h1) (Lib.hid h2) hx hy)
  rw [hf] at HF
  obtain ⟨-, -, hll⟩ := fitV_yes hf
  obtain ⟨f, hfn⟩ : ∃ f : Nat → Int, f = fun k => max (xs.getD k 0) (ys.getD k 0) := ⟨_, rfl⟩
  have HO := Lib.hid (fun k => show f k = max (xs.getD k 0) (ys.getD k 0) by rw [hfn])
  unfold maxV
  rw [← hfn]
  obtain ⟨m, hm⟩ : ∃ m, xs.length = m := ⟨_, rfl⟩
  rw [← hll] at HF ⊢
  rw [hm] at HF hx ⊢
  have HX := Lib.hid hm
  have HY := Lib.hid (hll.symm.trans hm)
  clear hf hll hfn hm hy
  obtain ⟨i0, hi, hz0, hz1, hz2⟩ := info_parts info_int
  go_enter Tryz.func27, Tryz.ntmps27
  go_wp2
  go_loopw [6, 7] (fun v i wr => ∃ (j : Nat) (V : Option Addr) (c : Nat), i = .int .i64 j ∧ j ≤ m ∧ v = .slice V j c ∧ St w wr [il (.slice V j c) j (tab j f)]) (fun _ i _ => m - (intOf i).toNat)
  case atStart => exact ⟨0, _, _, rfl, Nat.zero_le _, rfl, HW.out.empty⟩
  case round =>
    obtain ⟨j, V, c, rfl, hj, rfl, hS⟩ := hrel
    have HR := Lib.hid hS
    by_cases hlt : j < m
    · have htab := Lib.hid (tab_succ j f)
      have hji : (j : Int) < (m : Int) := by omega
      have hj0 : (0 : Int) ≤ (j : Int) := by omega
      obtain ⟨b, off, rfl, hbl, hc⟩ := h.out.at_ (k := j) (by rw [HX.out]; omega)
      obtain ⟨r, ro, rfl, hrl, hd⟩ := g.out.at_ (k := j) (by rw [HY.out]; omega)
      have hval := HO.out j
      generalize xs.getD j 0 = x at hc hval
      generalize ys.getD j 0 = y at hd hval
      obtain ⟨z, hz⟩ : ∃ z, (if x < y then y else x) = z := ⟨_, rfl⟩
      have hmin : max x y = z := by rw [← hz]; split <;> omega
      rw [hmin] at hval
      rw [hval] at htab
      have HCQ := Lib.hid hc
      have HCS := Lib.hid hd
      clear hS hval hmin hc hd
      go_wp2_with (go_at_call 49; refine (HF.out _ ((h.out.below HR.out.base).mono HR.out.size) ((g.out.below HR.out.base).mono HR.out.size)).mono ?_; rintro e w' ⟨rfl, rfl⟩; have hcq := (HR.out.base.cell (p := ⟨b, off + j, none⟩) hbl).trans HCQ.out; have hcs := (HR.out.base.cell (p := ⟨r, ro + j, none⟩) hrl).trans HCS.out)
      go_region_held3 (fun w' => w'.cell? ⟨b, off + j, none⟩ = some (.int .i64 x) ∧ w'.cell? ⟨r, ro + j, none⟩ = some (.int .i64 y)) (first | (refine ⟨?_, ?_⟩ <;> assumption) | assumption | go_keep) ((refine step_app1 (by rfl) (.tmp 20) (.tmp 30) 24 (by rfl) z Tryz.underlying24 hi hz0 hz1 hz2 (by first | exact (HR.out.alloc _ _).drop 0 | exact ((HR.out.alloc _ _).drop 0).drew) (i := 0) (by rfl) (by rfl) (by rfl) (by simp [← hz]) (by omega) ?_; intro V' c' w3 hS3; have hcq' := (hS3.base.cell (p := ⟨b, off + j, none⟩) hbl).trans HCQ.out; have hcs' := (hS3.base.cell (p := ⟨r, ro + j, none⟩) hrl).trans HCS.out; have HR3 := Lib.hid hS3; clear hS3))
      go_wp2
      go_roundw
      case rel => exact ⟨j + 1, V', c', by go_num, by omega, rfl, by rw [htab.out]; exact HR3.out⟩
      case measure => simp [intOf]; omega
    · obtain rfl : j = m := by omega
      have hjn : ¬ (j : Int) < (j : Int) := by omega
      clear hS
      go_wp2_with (go_at_call 49; refine (HF.out _ ((h.out.below HR.out.base).mono HR.out.size) ((g.out.below HR.out.base).mono HR.out.size)).mono ?_; rintro e w' ⟨rfl, rfl⟩)
      go_ret2
      have hln : (tab j f).length = j := tab_length _ _
      exact ⟨V, c, by rw [hln]; rfl, by rw [hln]; exact HR.out.ownI (i := 0) rfl, HR.out.base⟩

set_option maxRecDepth 100000 in
set_option maxHeartbeats 1600000 in
theorem pairS_no (hf : fitV xs ys = false) : Calls Tryz.prog 32 #[.slice A xs.length cap, .slice D ys.length dap] w (RetV w (.tuple #[.int .i64 0, .bool false])) := by
  have HF := Lib.hid (fun W h1 h2 => fitVS_any A xs cap D ys dap W (Lib.hid h1) (Lib.hid h2) hx hy)
  rw [hf] at HF
  clear hf
  go_enter Tryz.func32, Tryz.ntmps32
  go_wp2
  go_loop [6, 7] (fun v i => i = .int .i64 0 ∧ v = .int .i64 0) (fun _ _ => 0)
  case atStart => exact ⟨rfl, rfl⟩
  case round =>
    obtain ⟨rfl, rfl⟩ := hrel
    by_cases h0 : 0 < xs.length
    · have hli : (0 : Int) < (xs.length : Int) := by omega
      go_wp2_with (go_at_call 49; refine (HF.out _ h.out g.out).mono ?_; rintro e w' ⟨rfl, rfl⟩)
      go_ret2
      exact ⟨rfl, Below.refl _ _⟩
    · have hli : ¬ (0 : Int) < (xs.length : Int) := by omega
      go_wp2_with (go_at_call 49; refine (HF.out _ h.out g.out).mono ?_; rintro e w' ⟨rfl, rfl⟩)
      go_ret2
      exact ⟨rfl, Below.refl _ _⟩

set_option maxRecDepth 100000 in
set_option maxHeartbeats 4000000 in
theorem pairS_yes (hf : fitV xs ys = true) : Calls Tryz.prog 32 #[.slice A xs.length cap, .slice D ys.length dap] w (RetV w (.tuple #[.int .i64 (sm (fun k => xs.getD k 0 * ys.getD k 0) xs.length), .bool true])) := by
  have HF := Lib.hid (fun W h1 h2 => fitVS_any A xs cap D ys dap W (Lib.hid h1) (Lib.hid h2) hx hy)
  rw [hf] at HF
  obtain ⟨v1, v2, hll⟩ := fitV_yes hf
  obtain ⟨hm5, v1⟩ := isVec_yes v1
  obtain ⟨-, v2⟩ := isVec_yes v2
  obtain ⟨f, hfn⟩ : ∃ f : Nat → Int, f = fun k => xs.getD k 0 * ys.getD k 0 := ⟨_, rfl⟩
  have HO := Lib.hid (fun k => show f k = xs.getD k 0 * ys.getD k 0 by rw [hfn])
  rw [← hfn]
  have HB := Lib.hid (sm_bd (f := f) (b := 1000000) xs.length fun k hk => by
    rw [HO.out]
    exact mul_bd (v1 k hk).1 (v1 k hk).2 (v2 k (by omega)).1 (v2 k (by omega)).2)
  obtain ⟨m, hm⟩ : ∃ m, xs.length = m := ⟨_, rfl⟩
  rw [← hll] at HF ⊢
  rw [hm] at HF HB hm5 ⊢
  have HV := Lib.hid v1
  have HU := Lib.hid v2
  have HX := Lib.hid hm
  have HY := Lib.hid (hll.symm.trans hm)
  clear hf hll hfn hm hy v1 v2 hx
  go_enter Tryz.func32, Tryz.ntmps32
  go_wp2
  go_loopw [6, 7] (fun v i wr => ∃ j : Nat, i = .int .i64 j ∧ j ≤ m ∧ v = .int .i64 (sm f j) ∧ ∃ q, w.drewN q = wr) (fun _ i _ => m - (intOf i).toNat)
  case atStart => exact ⟨0, rfl, Nat.zero_le _, rfl, 0, rfl⟩
  case round =>
    obtain ⟨j, rfl, hj, rfl, q, rfl⟩ := hrel
    by_cases hlt : j < m
    · have hstep : sm f (j + 1) = sm f j + f j := rfl
      have hji : (j : Int) < (m : Int) := by omega
      have hj0 : (0 : Int) ≤ (j : Int) := by omega
      obtain ⟨b, off, rfl, hbl, hc⟩ := h.out.at_ (k := j) (by rw [HX.out]; omega)
      obtain ⟨r, ro, rfl, hrl, hd⟩ := g.out.at_ (k := j) (by rw [HY.out]; omega)
      have hval := HO.out j
      obtain ⟨v1, v2⟩ := HV.out j (by rw [HX.out]; exact hlt)
      obtain ⟨u1, u2⟩ := HU.out j (by rw [HY.out]; exact hlt)
      have hbd := HB.out j (by omega)
      generalize xs.getD j 0 = x at hc hval v1 v2
      generalize ys.getD j 0 = y at hd hval u1 u2
      obtain ⟨p1, p2⟩ := mul_bd v1 v2 u1 u2
      generalize sm f j = t at hstep hbd ⊢
      obtain ⟨z, hz⟩ : ∃ z, x * y = z := ⟨_, rfl⟩
      rw [hz] at hval p1 p2
      have hw1 : IntKind.i64.wrap (x * y) = z := by rw [hz]; exact IntWalk.i64_in _ (by omega)
      have hw2 : IntKind.i64.wrap (t + z) = t + z := IntWalk.i64_in _ (by omega)
      rw [hval] at hstep
      have HST := Lib.hid hstep
      clear hstep hval hz
      go_wp2_with (go_at_call 49; refine (HF.out (w.drewN q) (h.out.drewN q) (g.out.drewN q)).mono ?_; rintro e w' ⟨rfl, rfl⟩)
      go_quiet (fail)
      go_wp2
      go_roundw
      case rel => exact ⟨j + 1, by go_num, by omega, by rw [HST.out], _, rfl⟩
      case measure => simp [intOf]; omega
    · obtain rfl : j = m := by omega
      have hjn : ¬ (j : Int) < (j : Int) := by omega
      go_wp2_with (go_at_call 49; refine (HF.out (w.drewN q) (h.out.drewN q) (g.out.drewN q)).mono ?_; rintro e w' ⟨rfl, rfl⟩)
      go_ret2
      exact ⟨rfl, below_drewN (Below.refl _ _) _⟩

theorem leastS_any : Calls Tryz.prog 25 #[.slice A xs.length cap, .slice D ys.length dap] w (RetIB w (leastV xs ys).1 (leastV xs ys).2) := by
  unfold leastV
  cases hf : fitV xs ys
  · exact leastS_no A xs cap D ys dap w h g hx hy hf
  · exact leastS_yes A xs cap D ys dap w h g hx hy hf
theorem greatS_any : Calls Tryz.prog 27 #[.slice A xs.length cap, .slice D ys.length dap] w (RetIB w (greatV xs ys).1 (greatV xs ys).2) := by
  unfold greatV
  cases hf : fitV xs ys
  · exact greatS_no A xs cap D ys dap w h g hx hy hf
  · exact greatS_yes A xs cap D ys dap w h g hx hy hf
theorem pairS_any : Calls Tryz.prog 32 #[.slice A xs.length cap, .slice D ys.length dap] w (RetV w (.tuple #[.int .i64 (pairV xs ys).1, .bool (pairV xs ys).2])) := by
  unfold pairV
  cases hf : fitV xs ys
  · exact pairS_no A xs cap D ys dap w h g hx hy hf
  · exact pairS_yes A xs cap D ys dap w h g hx hy hf

end



section

end


end Go.Proofs.YtlbefommcahkeaaGreatDoor.C

namespace Go.Proofs.YtlbefommcahkeaaGreatDoor.C
open Go.RowKit K M
set_option linter.unusedVariables false
set_option linter.unusedSimpArgs false


section

variable (A : Option Addr) (ws : List Int) (cap : Nat) (w : World) (h : Hid (Ints w w.heap.size A ws)) (hl : ws.length ≤ 1048576)
include h hl
theorem ordS_no (hf : isVec ws = false) : Calls Tryz.prog 30 #[.slice A ws.length cap] w (RetIB w [] false) := by
  have HW := Lib.hid (St.start w)
  have HF := Lib.hid (fun W h1 => vecS_any A ws cap W (Lib.hid h1) hl)
  rw [hf] at HF
  clear hf
  have HS := Lib.hid HW.out.empty
  go_enter Tryz.func30, Tryz.ntmps30
  go_wp2_with (go_at_call 71; refine (HF.out _ ((h.out.below HS.out.base).mono HS.out.size)).mono ?_; rintro e w' ⟨rfl, rfl⟩)
  go_ret2
  exact ⟨_, _, rfl, HS.out.ownI (i := 0) rfl, HS.out.base⟩

set_option maxRecDepth 100000 in
set_option maxHeartbeats 4000000 in
theorem ordS_yes (hf : isVec ws = true) : Calls Tryz.prog 30 #[.slice A ws.length cap] w (RetIB w (nats (ordN ws ws.length)) true) := by
  have HW := Lib.hid (St.start w)
  have HF := Lib.hid (fun W h1 => vecS_any A ws cap W (Lib.hid h1) hl)
  rw [hf] at HF
  have hm5 := (isVec_yes hf).1
  obtain ⟨m, hm⟩ : ∃ m, ws.length = m := ⟨_, rfl⟩
  rw [hm] at HF hm5 ⊢
  have HX := Lib.hid hm
  clear hf hm hl
  have HS := Lib.hid HW.out.empty
  obtain ⟨i0, hi, hz0, hz1, hz2⟩ := info_parts info_int
  go_enter Tryz.func30, Tryz.ntmps30
  go_wp2_with (go_at_call 71; refine (HF.out _ ((h.out.below HS.out.base).mono HS.out.size)).mono ?_; rintro e w' ⟨rfl, rfl⟩)
  go_loopw [4, 5] (fun v i wr => ∃ (j g c : Nat), i = .int .i64 j ∧ j ≤ m ∧ v = .slice (some ⟨g, 0, none⟩) j c ∧ St w wr [il (.slice (some ⟨g, 0, none⟩) j c) j (nats (ordN ws j))]) (fun _ i _ => m - (intOf i).toNat)
  case atStart => exact ⟨0, _, _, rfl, Nat.zero_le _, rfl, HS.out⟩
  case round =>
    obtain ⟨j, g, c, rfl, hj, rfl, hS⟩ := hrel
    have HR := Lib.hid hS
    by_cases hlt : j < m
    · have hji : (j : Int) < (m : Int) := by omega
      have hj0 : (0 : Int) ≤ (j : Int) := by omega
      obtain ⟨b, off, rfl, hbl, hc⟩ := h.out.at_ (k := j) (by rw [HX.out]; omega)
      have hstep : ordN ws (j + 1) = (ordN ws j).take (place ws (ws.getD j 0) (ordN ws j) j) ++ j :: (ordN ws j).drop (place ws (ws.getD j 0) (ordN ws j) j) := by rw [ordN, ordN_len]
      have hpl := (place_is ws (ws.getD j 0) (ordN ws j) j).1
      have HP := Lib.hid (fun k => show place ws (ws.getD j 0) (ordN ws j) (k + 1) = if ws.getD ((ordN ws j).getD k 0) 0 < ws.getD j 0 then place ws (ws.getD j 0) (ordN ws j) k else k + 1 from rfl)
      have hol := ordN_len ws j
      have hot := Lib.hid (fun k (hk : k < j) => ordN_lt ws hk)
      generalize ws.getD j 0 = x at hc hstep hpl HP
      generalize ordN ws j = os at HR hS hstep hpl HP hol hot
      clear hS
      have HC := Lib.hid hc
      clear hc
      go_wp2
      obtain ⟨wo, rfl⟩ : ∃ wo : World, wo = wr := ⟨_, rfl⟩
      go_loopw [6] (fun kv wr => ∃ k : Nat, kv = .int .i64 k ∧ k ≤ j ∧ place ws x os j = place ws x os k ∧ St w wr [il (.slice (some ⟨g, 0, none⟩) j c) j (nats os)]) (fun kv _ => (intOf kv).toNat)
      case atStart => exact ⟨j, rfl, Nat.le_refl _, rfl, HR.out⟩
      case round =>
        obtain ⟨k, rfl, hk, hp, hS⟩ := hrel
        have hcx := (hS.base.cell (p := ⟨b, off + j, none⟩) hbl).trans HC.out
        have HQ := Lib.hid hS
        have HPP := Lib.hid hp
        have hkc : k ≤ c := Nat.le_trans hk (hS.capI (i := 0) rfl)
        obtain ⟨o2, hif, ho2⟩ : ∃ o2 : Nat, (if c = k then some (⟨g, 0, none⟩ : Addr) else some ⟨g, k, none⟩) = some ⟨g, o2, none⟩ ∧ (c = k ∨ o2 = k) := by
          by_cases e : c = k
          · exact ⟨0, by rw [if_pos e], .inl e⟩
          · exact ⟨k, by rw [if_neg e], .inr rfl⟩
        have HO2 := Lib.hid ho2
        have HT := Lib.hid (show ((nats os).take k).length = k by rw [List.length_take, nats_len, hol]; omega)
        have HD := Lib.hid (show ((nats os).drop k).length = j - k by rw [List.length_drop, nats_len, hol])
        clear ho2
        by_cases hz : k = 0
        · have hend : place ws x os j = k := by rw [HPP.out, hz]; rfl
          rw [hend] at hstep
          have HSTEP := Lib.hid hstep
          clear hstep
          have hng : decide (0 < k) = false := decide_eq_false (by omega)
          clear hS hp hz
          go_wp2
          go_quiet (fail)
          go_wp2
          go_region_law (first
            | (refine step_appN (by rfl) (.tmp 39) (.tmp 42) 24 (by rfl) ((nats os).take k) Tryz.underlying24 hi hz0 hz1 hz2 (HQ.out.drewN _).empty (i := 0) (by rfl) HT.out (by rfl) (by rfl) ((HQ.out.drewN _).empty.cellsTake (i := 1) rfl hk) (by simp) (by omega) (by omega) (N := k) (by omega) ?_; intro g1 c1 w1 hS1; (try simp only [World.size_alloc] at hS1); have HA := Lib.hid hS1; clear hS1)
            | (refine step_appN (by rfl) (.tmp 39) (.tmp 42) 24 (by rfl) ((nats os).take k) Tryz.underlying24 hi hz0 hz1 hz2 ((HQ.out.drewN _).empty.alloc _ _) (i := 1) (by rfl) HT.out (by rfl) (by rfl) (((HQ.out.drewN _).empty.alloc _ _).cellsTake (i := 2) rfl hk) (by simp) (by omega) (by omega) (N := k) (by omega) ?_; intro g1 c1 w1 hS1; (try simp only [World.size_alloc] at hS1); have HA := Lib.hid hS1; clear hS1)
            | (refine step_appN (by rfl) (.tmp 39) (.tmp 42) 24 (by rfl) ((nats os).take k) Tryz.underlying24 hi hz0 hz1 hz2 (by have hz := ((HQ.out.drewN (nq + 1)).alloc [.int .i64 j] 3).empty; simp only [World.size_alloc] at hz; exact hz) (i := 0) (by rfl) HT.out (by rfl) (by rfl) (((HQ.out.drewN _).alloc _ _).empty.cellsTake (i := 2) rfl hk) (by simp) (by omega) (by omega) (N := k) (by omega) ?_; intro g1 c1 w1 hS1; (try simp only [World.size_alloc] at hS1); have HA := Lib.hid hS1; clear hS1)
            | (refine step_app1 (by rfl) (.tmp 43) (.tmp 45) 24 (by rfl) (j : Int) Tryz.underlying24 hi hz0 hz1 hz2 ((HA.out.alloc _ _).drop 0) (i := 0) (by rfl) (by rfl) (by rfl) (by simp) (by omega) ?_; intro A2 c2 w2 hS2; have HB := Lib.hid hS2; clear hS2)
            | (refine step_app1 (by rfl) (.tmp 43) (.tmp 45) 24 (by rfl) (j : Int) Tryz.underlying24 hi hz0 hz1 hz2 HA.out (i := 1) (by rfl) (by rfl) (by rfl) ((HA.out.box (i := 0) rfl).1 0 _ rfl) (by omega) ?_; intro A2 c2 w2 hS2; have HB := Lib.hid (hS2.drop 0); clear hS2)
            | (refine step_app1 (by rfl) (.tmp 43) (.tmp 45) 24 (by rfl) (j : Int) Tryz.underlying24 hi hz0 hz1 hz2 HA.out (i := 0) (by rfl) (by rfl) (by rfl) ((HA.out.box (i := 1) rfl).1 0 _ rfl) (by omega) ?_; intro A2 c2 w2 hS2; have HB := Lib.hid (hS2.drop 1); clear hS2)
            | (refine step_appN (by rfl) (.tmp 46) (.tmp 49) 24 (by rfl) ((nats os).drop k) Tryz.underlying24 hi hz0 hz1 hz2 HB.out (i := 0) (by rfl) HD.out (by rfl) (by rfl) (HB.out.cellsRest (i := 1) rfl hk HO2.out) (by simp) (by omega) (by omega) (N := j + 1) (by omega) ?_; intro g3 c3 w3 hS3; have HE := Lib.hid (hS3.drop 1); clear hS3))
          all_goals
            go_wp2
            go_roundw
            case rel => exact ⟨j + 1, g3, c3, by go_num, by omega, rfl, by rw [HSTEP.out, nats_split]; exact HE.out⟩
            case measure => simp [intOf]; omega
        · obtain ⟨p, hkp⟩ : ∃ q, k = q + 1 := ⟨k - 1, by omega⟩
          have hng : 0 < k := by omega
          have hk1 : (k : Int) - 1 = (p : Int) := by omega
          have ho := hot.out p (by omega)
          obtain ⟨co, -⟩ := hS.cellI (i := 0) rfl (j := p) (by omega)
          rw [nats_at (by omega)] at co
          have hpk := HP.out p
          rw [← hkp] at hpk
          obtain ⟨b', off', e', -, hd⟩ := (h.out.below hS.base).at_ (k := os.getD p 0) (by rw [HX.out]; omega)
          obtain ⟨rfl, rfl⟩ : b = b' ∧ off = off' := by cases e'; exact ⟨rfl, rfl⟩
          generalize os.getD p 0 = q at ho co hpk hd
          generalize ws.getD q 0 = y at hd hpk
          have hq0 : (0 : Int) ≤ (q : Int) := by omega
          have hqm : (q : Int) < (m : Int) := by omega
          have hkj : (p : Int) < (j : Int) := by omega
          have HKP := Lib.hid hkp
          clear hS hp e' hz hkp
          by_cases hyx : y < x
          · rw [if_pos hyx] at hpk
            have HPK := Lib.hid hpk
            have hdd : decide (y < x) = true := decide_eq_true hyx
            clear hpk
            go_wp2
            go_quiet (fail)
            go_wp2
            go_roundw
            case rel => exact ⟨p, by go_num, by have := HKP.out; omega, HPP.out.trans HPK.out, HQ.out.drewN _⟩
            case measure => simp [intOf]; have := HKP.out; omega
          · rw [if_neg hyx] at hpk
            have hend : place ws x os j = k := by rw [HPP.out, hpk]
            rw [hend] at hstep
            have HSTEP := Lib.hid hstep
            clear hstep
            have hdd : decide (y < x) = false := decide_eq_false hyx
            clear hpk
            go_wp2
            go_quiet (fail)
            go_wp2
            go_region_law (first
              | (refine step_appN (by rfl) (.tmp 39) (.tmp 42) 24 (by rfl) ((nats os).take k) Tryz.underlying24 hi hz0 hz1 hz2 (HQ.out.drewN _).empty (i := 0) (by rfl) HT.out (by rfl) (by rfl) ((HQ.out.drewN _).empty.cellsTake (i := 1) rfl hk) (by simp) (by omega) (by omega) (N := k) (by omega) ?_; intro g1 c1 w1 hS1; (try simp only [World.size_alloc] at hS1); have HA := Lib.hid hS1; clear hS1)
              | (refine step_appN (by rfl) (.tmp 39) (.tmp 42) 24 (by rfl) ((nats os).take k) Tryz.underlying24 hi hz0 hz1 hz2 ((HQ.out.drewN _).empty.alloc _ _) (i := 1) (by rfl) HT.out (by rfl) (by rfl) (((HQ.out.drewN _).empty.alloc _ _).cellsTake (i := 2) rfl hk) (by simp) (by omega) (by omega) (N := k) (by omega) ?_; intro g1 c1 w1 hS1; (try simp only [World.size_alloc] at hS1); have HA := Lib.hid hS1; clear hS1)
              | (refine step_appN (by rfl) (.tmp 39) (.tmp 42) 24 (by rfl) ((nats os).take k) Tryz.underlying24 hi hz0 hz1 hz2 (by have hz := ((HQ.out.drewN (nq + 1)).alloc [.int .i64 j] 3).empty; simp only [World.size_alloc] at hz; exact hz) (i := 0) (by rfl) HT.out (by rfl) (by rfl) (((HQ.out.drewN _).alloc _ _).empty.cellsTake (i := 2) rfl hk) (by simp) (by omega) (by omega) (N := k) (by omega) ?_; intro g1 c1 w1 hS1; (try simp only [World.size_alloc] at hS1); have HA := Lib.hid hS1; clear hS1)
              | (refine step_app1 (by rfl) (.tmp 43) (.tmp 45) 24 (by rfl) (j : Int) Tryz.underlying24 hi hz0 hz1 hz2 ((HA.out.alloc _ _).drop 0) (i := 0) (by rfl) (by rfl) (by rfl) (by simp) (by omega) ?_; intro A2 c2 w2 hS2; have HB := Lib.hid hS2; clear hS2)
              | (refine step_app1 (by rfl) (.tmp 43) (.tmp 45) 24 (by rfl) (j : Int) Tryz.underlying24 hi hz0 hz1 hz2 HA.out (i := 1) (by rfl) (by rfl) (by rfl) ((HA.out.box (i := 0) rfl).1 0 _ rfl) (by omega) ?_; intro A2 c2 w2 hS2; have HB := Lib.hid (hS2.drop 0); clear hS2)
              | (refine step_app1 (by rfl) (.tmp 43) (.tmp 45) 24 (by rfl) (j : Int) Tryz.underlying24 hi hz0 hz1 hz2 HA.out (i := 0) (by rfl) (by rfl) (by rfl) ((HA.out.box (i := 1) rfl).1 0 _ rfl) (by omega) ?_; intro A2 c2 w2 hS2; have HB := Lib.hid (hS2.drop 1); clear hS2)
              | (refine step_appN (by rfl) (.tmp 46) (.tmp 49) 24 (by rfl) ((nats os).drop k) Tryz.underlying24 hi hz0 hz1 hz2 HB.out (i := 0) (by rfl) HD.out (by rfl) (by rfl) (HB.out.cellsRest (i := 1) rfl hk HO2.out) (by simp) (by omega) (by omega) (N := j + 1) (by omega) ?_; intro g3 c3 w3 hS3; have HE := Lib.hid (hS3.drop 1); clear hS3))
            all_goals
              go_wp2
              go_roundw
              case rel => exact ⟨j + 1, g3, c3, by go_num, by omega, rfl, by rw [HSTEP.out, nats_split]; exact HE.out⟩
              case measure => simp [intOf]; omega
    · obtain rfl : j = m := by omega
      have hjn : ¬ (j : Int) < (j : Int) := by omega
      clear hS
      go_wp2
      go_ret2
      have hln : (nats (ordN ws j)).length = j := by rw [nats_len, ordN_len]
      exact ⟨_, c, by rw [hln]; rfl, by rw [hln]; exact HR.out.ownI (i := 0) rfl, HR.out.base⟩
theorem ordS_any : Calls Tryz.prog 30 #[.slice A ws.length cap] w (RetIB w (orderFor ws).1 (orderFor ws).2) := by
  unfold orderFor
  cases hf : isVec ws
  · exact ordS_no A ws cap w h hl hf
  · exact ordS_yes A ws cap w h hl hf

end


end Go.Proofs.YtlbefommcahkeaaGreatDoor.C
