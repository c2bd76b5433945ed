/-
  The contracts of spec.LeastVector, GreatestVector, PairingOf, IndicatorOf and of what they call.
  The contract of spec.OrderFor.
-/
import Derived.Test.YtlbefommcahkeaaDoorAllM
import Derived.Test.YtlbefommcahkeaaDoorLolA
import Derived.Test.YtlbefommcahkeaaDoorSub
import Derived.Deep.RegionLaw
namespace Go.Proofs.YtlbefommcahkeaaDoor.C
open Go.RowKit K M
set_option linter.unusedVariables false
set_option linter.unusedSimpArgs false

theorem vecS_good (A : Option Addr) (ws : List Int) (cap : Nat) (w : World) (h : Hid (Ints w w.heap.size A ws)) (hl : ws.length ≤ 1048576) (hv : ∀ k, k < ws.length → -1000 ≤ ws.getD k 0 ∧ ws.getD k 0 ≤ 1000) :
    Calls Tryd.prog 23 #[.slice A ws.length cap] w fun e w' => e = .returned (.bool (decide (ws.length ≤ 5))) ∧ w = w' := by
  obtain ⟨m, hm⟩ : ∃ m, ws.length = m := ⟨_, rfl⟩
  have HX := Lib.hid hm
  have HV := Lib.hid hv
  rw [hm] at hl ⊢
  clear hm hv
  go_enter Tryd.func23, Tryd.ntmps23
  go_wp2
  go_loop [3] (fun i => ∃ k : Nat, k ≤ m ∧ i = .int .i64 k) (fun i => m - (intOf i).toNat)
  case atStart => exact ⟨0, Nat.zero_le _, rfl⟩
  case round =>
    obtain ⟨k, hk, rfl⟩ := hrel
    by_cases hlt : k < m
    · obtain ⟨b, off, rfl, hbl, hc⟩ := h.out.at_ (k := k) (by rw [HX.out]; omega)
      have hk0 : (0 : Int) ≤ (k : Int) := by omega
      have hkn : (k : Int) < (m : Int) := by omega
      obtain ⟨v1, v2⟩ := HV.out k (by rw [HX.out]; exact hlt)
      generalize ws.getD k 0 = x at hc v1 v2
      go_wp2_with (go_at_call 36; refine (in_yes x (-1000) 1000 _ v1 v2).mono ?_; rintro e w' ⟨rfl, rfl⟩)
      go_round
      case rel => exact ⟨k + 1, by omega, by go_num⟩
      case measure => simp [intOf]; omega
    · obtain rfl : k = m := by omega
      have hkn : ¬ (k : Int) < (k : Int) := by omega
      by_cases h5 : k ≤ 5
      · have hg : (k : Int) ≤ 5 := by omega
        have hd : decide (k ≤ 5) = true := decide_eq_true h5
        go_wp2
        go_ret
        exact ⟨rfl, rfl⟩
      · have hg : ¬ (k : Int) ≤ 5 := by omega
        have hd : decide (k ≤ 5) = false := decide_eq_false h5
        go_wp2
        go_ret
        exact ⟨rfl, rfl⟩

theorem vecS_bad (A : Option Addr) (ws : List Int) (cap : Nat) (w : World) (h : Hid (Ints w w.heap.size A ws)) (hl : ws.length ≤ 1048576) (j : Nat) (hj : j < ws.length) (hb : ws.getD j 0 < -1000 ∨ 1000 < ws.getD j 0) (hv : ∀ k, k < j → -1000 ≤ ws.getD k 0 ∧ ws.getD k 0 ≤ 1000) :
    Calls Tryd.prog 23 #[.slice A ws.length cap] w fun e w' => e = .returned (.bool false) ∧ w = w' := by
  obtain ⟨m, hm⟩ : ∃ m, ws.length = m := ⟨_, rfl⟩
  have HX := Lib.hid hm
  have HV := Lib.hid hv
  have HB := Lib.hid hb
  rw [hm] at hl hj ⊢
  clear hm hv hb
  go_enter Tryd.func23, Tryd.ntmps23
  go_wp2
  go_loop [3] (fun i => ∃ k : Nat, k ≤ j ∧ i = .int .i64 k) (fun i => m - (intOf i).toNat)
  case atStart => exact ⟨0, Nat.zero_le _, rfl⟩
  case round =>
    obtain ⟨k, hk, rfl⟩ := hrel
    obtain ⟨b, off, rfl, hbl, hc⟩ := h.out.at_ (k := k) (by rw [HX.out]; omega)
    have hk0 : (0 : Int) ≤ (k : Int) := by omega
    have hkn : (k : Int) < (m : Int) := by omega
    by_cases hlt : k < j
    · obtain ⟨v1, v2⟩ := HV.out k hlt
      generalize ws.getD k 0 = x at hc v1 v2
      go_wp2_with (go_at_call 36; refine (in_yes x (-1000) 1000 _ v1 v2).mono ?_; rintro e w' ⟨rfl, rfl⟩)
      go_round
      case rel => exact ⟨k + 1, by omega, by go_num⟩
      case measure => simp [intOf]; omega
    · obtain rfl : k = j := by omega
      have hb := HB.out
      clear HB HV
      generalize ws.getD k 0 = x at hc hb
      have HB := Lib.hid hb
      clear hb
      go_wp2_with (go_at_call 36; refine (in_no x (-1000) 1000 _ HB.out).mono ?_; rintro e w' ⟨rfl, rfl⟩)
      go_ret
      exact ⟨rfl, rfl⟩

theorem vecS_any (A : Option Addr) (ws : List Int) (cap : Nat) (w : World) (h : Hid (Ints w w.heap.size A ws)) (hl : ws.length ≤ 1048576) :
    Calls Tryd.prog 23 #[.slice A ws.length cap] w fun e w' => e = .returned (.bool (isVec ws)) ∧ w = w' := by
  by_cases hv : ∀ k, k < ws.length → -1000 ≤ ws.getD k 0 ∧ ws.getD k 0 ≤ 1000
  · rw [isVec_good hv]
    exact vecS_good A ws cap w h hl hv
  · obtain ⟨j, hj, hb, hk⟩ := vec_bad hv
    rw [isVec_bad hj hb]
    exact vecS_bad A ws cap w h hl j hj hb hk


section

end



section

end


end Go.Proofs.YtlbefommcahkeaaDoor.C

namespace Go.Proofs.YtlbefommcahkeaaDoor.C
open Go.RowKit K M
set_option linter.unusedVariables false
set_option linter.unusedSimpArgs false


section

variable (A : Option Addr) (ws : List Int) (cap : Nat) (w : World) (h : Hid (Ints w w.heap.size A ws)) (hl : ws.length ≤ 1048576)
include h hl
theorem ordS_no (hf : isVec ws = false) : Calls Tryd.prog 26 #[.slice A ws.length cap] w (RetIB w [] false) := by
  have HW := Lib.hid (St.start w)
  have HF := Lib.hid (fun W h1 => vecS_any A ws cap W (Lib.hid h1) hl)
  rw [hf] at HF
  clear hf
  have HS := Lib.hid HW.out.empty
  go_enter Tryd.func26, Tryd.ntmps26
  go_wp2_with (go_at_call 23; refine (HF.out _ ((h.out.below HS.out.base).mono HS.out.size)).mono ?_; rintro e w' ⟨rfl, rfl⟩)
  go_ret2
  exact ⟨_, _, rfl, HS.out.ownI (i := 0) rfl, HS.out.base⟩

set_option maxRecDepth 100000 in
set_option maxHeartbeats 4000000 in
theorem ordS_yes (hf : isVec ws = true) : Calls Tryd.prog 26 #[.slice A ws.length cap] w (RetIB w (nats (ordN ws ws.length)) true) := by
  have HW := Lib.hid (St.start w)
  have HF := Lib.hid (fun W h1 => vecS_any A ws cap W (Lib.hid h1) hl)
  rw [hf] at HF
  have hm5 := (isVec_yes hf).1
  obtain ⟨m, hm⟩ : ∃ m, ws.length = m := ⟨_, rfl⟩
  rw [hm] at HF hm5 ⊢
  have HX := Lib.hid hm
  clear hf hm hl
  have HS := Lib.hid HW.out.empty
  obtain ⟨i0, hi, hz0, hz1, hz2⟩ := info_parts info_int
  go_enter Tryd.func26, Tryd.ntmps26
  go_wp2_with (go_at_call 23; refine (HF.out _ ((h.out.below HS.out.base).mono HS.out.size)).mono ?_; rintro e w' ⟨rfl, rfl⟩)
  go_loopw [4, 5] (fun v i wr => ∃ (j g c : Nat), i = .int .i64 j ∧ j ≤ m ∧ v = .slice (some ⟨g, 0, none⟩) j c ∧ St w wr [il (.slice (some ⟨g, 0, none⟩) j c) j (nats (ordN ws j))]) (fun _ i _ => m - (intOf i).toNat)
  case atStart => exact ⟨0, _, _, rfl, Nat.zero_le _, rfl, HS.out⟩
  case round =>
    obtain ⟨j, g, c, rfl, hj, rfl, hS⟩ := hrel
    have HR := Lib.hid hS
    by_cases hlt : j < m
    · have hji : (j : Int) < (m : Int) := by omega
      have hj0 : (0 : Int) ≤ (j : Int) := by omega
      obtain ⟨b, off, rfl, hbl, hc⟩ := h.out.at_ (k := j) (by rw [HX.out]; omega)
      have hstep : ordN ws (j + 1) = (ordN ws j).take (place ws (ws.getD j 0) (ordN ws j) j) ++ j :: (ordN ws j).drop (place ws (ws.getD j 0) (ordN ws j) j) := by rw [ordN, ordN_len]
      have hpl := (place_is ws (ws.getD j 0) (ordN ws j) j).1
      have HP := Lib.hid (fun k => show place ws (ws.getD j 0) (ordN ws j) (k + 1) = if ws.getD ((ordN ws j).getD k 0) 0 < ws.getD j 0 then place ws (ws.getD j 0) (ordN ws j) k else k + 1 from rfl)
      have hol := ordN_len ws j
      have hot := Lib.hid (fun k (hk : k < j) => ordN_lt ws hk)
      generalize ws.getD j 0 = x at hc hstep hpl HP
      generalize ordN ws j = os at HR hS hstep hpl HP hol hot
      clear hS
      have HC := Lib.hid hc
      clear hc
      go_wp2
      obtain ⟨wo, rfl⟩ : ∃ wo : World, wo = wr := ⟨_, rfl⟩
      go_loopw [6] (fun kv wr => ∃ k : Nat, kv = .int .i64 k ∧ k ≤ j ∧ place ws x os j = place ws x os k ∧ St w wr [il (.slice (some ⟨g, 0, none⟩) j c) j (nats os)]) (fun kv _ => (intOf kv).toNat)
      case atStart => exact ⟨j, rfl, Nat.le_refl _, rfl, HR.out⟩
      case round =>
        obtain ⟨k, rfl, hk, hp, hS⟩ := hrel
        have hcx := (hS.base.cell (p := ⟨b, off + j, none⟩) hbl).trans HC.out
        have HQ := Lib.hid hS
        have HPP := Lib.hid hp
        have hkc : k ≤ c := Nat.le_trans hk (hS.capI (i := 0) rfl)
        obtain ⟨o2, hif, ho2⟩ : ∃ o2 : Nat, (if c = k then some (⟨g, 0, none⟩ : Addr) else some ⟨g, k, none⟩) = some ⟨g, o2, none⟩ ∧ (c = k ∨ o2 = k) := by
          by_cases e : c = k
          · exact ⟨0, by rw [if_pos e], .inl e⟩
          · exact ⟨k, by rw [if_neg e], .inr rfl⟩
        have HO2 := Lib.hid ho2
        have HT := Lib.hid (show ((nats os).take k).length = k by rw [List.length_take, nats_len, hol]; omega)
        have HD := Lib.hid (show ((nats os).drop k).length = j - k by rw [List.length_drop, nats_len, hol])
        clear ho2
        by_cases hz : k = 0
        · have hend : place ws x os j = k := by rw [HPP.out, hz]; rfl
          rw [hend] at hstep
          have HSTEP := Lib.hid hstep
          clear hstep
          have hng : decide (0 < k) = false := decide_eq_false (by omega)
          clear hS hp hz
          go_wp2
          go_quiet (fail)
          go_wp2
          go_region_law (first
            | (refine step_appN (by rfl) (.tmp 39) (.tmp 42) 22 (by rfl) ((nats os).take k) Tryd.underlying22 hi hz0 hz1 hz2 (HQ.out.drewN _).empty (i := 0) (by rfl) HT.out (by rfl) (by rfl) ((HQ.out.drewN _).empty.cellsTake (i := 1) rfl hk) (by simp) (by omega) (by omega) (N := k) (by omega) ?_; intro g1 c1 w1 hS1; (try simp only [World.size_alloc] at hS1); have HA := Lib.hid hS1; clear hS1)
            | (refine step_appN (by rfl) (.tmp 39) (.tmp 42) 22 (by rfl) ((nats os).take k) Tryd.underlying22 hi hz0 hz1 hz2 ((HQ.out.drewN _).empty.alloc _ _) (i := 1) (by rfl) HT.out (by rfl) (by rfl) (((HQ.out.drewN _).empty.alloc _ _).cellsTake (i := 2) rfl hk) (by simp) (by omega) (by omega) (N := k) (by omega) ?_; intro g1 c1 w1 hS1; (try simp only [World.size_alloc] at hS1); have HA := Lib.hid hS1; clear hS1)
            | (refine step_appN (by rfl) (.tmp 39) (.tmp 42) 22 (by rfl) ((nats os).take k) Tryd.underlying22 hi hz0 hz1 hz2 (by have hz := ((HQ.out.drewN (nq + 1)).alloc [.int .i64 j] 3).empty; simp only [World.size_alloc] at hz; exact hz) (i := 0) (by rfl) HT.out (by rfl) (by rfl) (((HQ.out.drewN _).alloc _ _).empty.cellsTake (i := 2) rfl hk) (by simp) (by omega) (by omega) (N := k) (by omega) ?_; intro g1 c1 w1 hS1; (try simp only [World.size_alloc] at hS1); have HA := Lib.hid hS1; clear hS1)
            | (refine step_app1 (by rfl) (.tmp 43) (.tmp 45) 22 (by rfl) (j : Int) Tryd.underlying22 hi hz0 hz1 hz2 ((HA.out.alloc _ _).drop 0) (i := 0) (by rfl) (by rfl) (by rfl) (by simp) (by omega) ?_; intro A2 c2 w2 hS2; have HB := Lib.hid hS2; clear hS2)
            | (refine step_app1 (by rfl) (.tmp 43) (.tmp 45) 22 (by rfl) (j : Int) Tryd.underlying22 hi hz0 hz1 hz2 HA.out (i := 1) (by rfl) (by rfl) (by rfl) ((HA.out.box (i := 0) rfl).1 0 _ rfl) (by omega) ?_; intro A2 c2 w2 hS2; have HB := Lib.hid (hS2.drop 0); clear hS2)
            | (refine step_app1 (by rfl) (.tmp 43) (.tmp 45) 22 (by rfl) (j : Int) Tryd.underlying22 hi hz0 hz1 hz2 HA.out (i := 0) (by rfl) (by rfl) (by rfl) ((HA.out.box (i := 1) rfl).1 0 _ rfl) (by omega) ?_; intro A2 c2 w2 hS2; have HB := Lib.hid (hS2.drop 1); clear hS2)
            | (refine step_appN (by rfl) (.tmp 46) (.tmp 49) 22 (by rfl) ((nats os).drop k) Tryd.underlying22 hi hz0 hz1 hz2 HB.out (i := 0) (by rfl) HD.out (by rfl) (by rfl) (HB.out.cellsRest (i := 1) rfl hk HO2.out) (by simp) (by omega) (by omega) (N := j + 1) (by omega) ?_; intro g3 c3 w3 hS3; have HE := Lib.hid (hS3.drop 1); clear hS3))
          all_goals
            go_wp2
            go_roundw
            case rel => exact ⟨j + 1, g3, c3, by go_num, by omega, rfl, by rw [HSTEP.out, nats_split]; exact HE.out⟩
            case measure => simp [intOf]; omega
        · obtain ⟨p, hkp⟩ : ∃ q, k = q + 1 := ⟨k - 1, by omega⟩
          have hng : 0 < k := by omega
          have hk1 : (k : Int) - 1 = (p : Int) := by omega
          have ho := hot.out p (by omega)
          obtain ⟨co, -⟩ := hS.cellI (i := 0) rfl (j := p) (by omega)
          rw [nats_at (by omega)] at co
          have hpk := HP.out p
          rw [← hkp] at hpk
          obtain ⟨b', off', e', -, hd⟩ := (h.out.below hS.base).at_ (k := os.getD p 0) (by rw [HX.out]; omega)
          obtain ⟨rfl, rfl⟩ : b = b' ∧ off = off' := by cases e'; exact ⟨rfl, rfl⟩
          generalize os.getD p 0 = q at ho co hpk hd
          generalize ws.getD q 0 = y at hd hpk
          have hq0 : (0 : Int) ≤ (q : Int) := by omega
          have hqm : (q : Int) < (m : Int) := by omega
          have hkj : (p : Int) < (j : Int) := by omega
          have HKP := Lib.hid hkp
          clear hS hp e' hz hkp
          by_cases hyx : y < x
          · rw [if_pos hyx] at hpk
            have HPK := Lib.hid hpk
            have hdd : decide (y < x) = true := decide_eq_true hyx
            clear hpk
            go_wp2
            go_quiet (fail)
            go_wp2
            go_roundw
            case rel => exact ⟨p, by go_num, by have := HKP.out; omega, HPP.out.trans HPK.out, HQ.out.drewN _⟩
            case measure => simp [intOf]; have := HKP.out; omega
          · rw [if_neg hyx] at hpk
            have hend : place ws x os j = k := by rw [HPP.out, hpk]
            rw [hend] at hstep
            have HSTEP := Lib.hid hstep
            clear hstep
            have hdd : decide (y < x) = false := decide_eq_false hyx
            clear hpk
            go_wp2
            go_quiet (fail)
            go_wp2
            go_region_law (first
              | (refine step_appN (by rfl) (.tmp 39) (.tmp 42) 22 (by rfl) ((nats os).take k) Tryd.underlying22 hi hz0 hz1 hz2 (HQ.out.drewN _).empty (i := 0) (by rfl) HT.out (by rfl) (by rfl) ((HQ.out.drewN _).empty.cellsTake (i := 1) rfl hk) (by simp) (by omega) (by omega) (N := k) (by omega) ?_; intro g1 c1 w1 hS1; (try simp only [World.size_alloc] at hS1); have HA := Lib.hid hS1; clear hS1)
              | (refine step_appN (by rfl) (.tmp 39) (.tmp 42) 22 (by rfl) ((nats os).take k) Tryd.underlying22 hi hz0 hz1 hz2 ((HQ.out.drewN _).empty.alloc _ _) (i := 1) (by rfl) HT.out (by rfl) (by rfl) (((HQ.out.drewN _).empty.alloc _ _).cellsTake (i := 2) rfl hk) (by simp) (by omega) (by omega) (N := k) (by omega) ?_; intro g1 c1 w1 hS1; (try simp only [World.size_alloc] at hS1); have HA := Lib.hid hS1; clear hS1)
              | (refine step_appN (by rfl) (.tmp 39) (.tmp 42) 22 (by rfl) ((nats os).take k) Tryd.underlying22 hi hz0 hz1 hz2 (by have hz := ((HQ.out.drewN (nq + 1)).alloc [.int .i64 j] 3).empty; simp only [World.size_alloc] at hz; exact hz) (i := 0) (by rfl) HT.out (by rfl) (by rfl) (((HQ.out.drewN _).alloc _ _).empty.cellsTake (i := 2) rfl hk) (by simp) (by omega) (by omega) (N := k) (by omega) ?_; intro g1 c1 w1 hS1; (try simp only [World.size_alloc] at hS1); have HA := Lib.hid hS1; clear hS1)
              | (refine step_app1 (by rfl) (.tmp 43) (.tmp 45) 22 (by rfl) (j : Int) Tryd.underlying22 hi hz0 hz1 hz2 ((HA.out.alloc _ _).drop 0) (i := 0) (by rfl) (by rfl) (by rfl) (by simp) (by omega) ?_; intro A2 c2 w2 hS2; have HB := Lib.hid hS2; clear hS2)
              | (refine step_app1 (by rfl) (.tmp 43) (.tmp 45) 22 (by rfl) (j : Int) Tryd.underlying22 hi hz0 hz1 hz2 HA.out (i := 1) (by rfl) (by rfl) (by rfl) ((HA.out.box (i := 0) rfl).1 0 _ rfl) (by omega) ?_; intro A2 c2 w2 hS2; have HB := Lib.hid (hS2.drop 0); clear hS2)
              | (refine step_app1 (by rfl) (.tmp 43) (.tmp 45) 22 (by rfl) (j : Int) Tryd.underlying22 hi hz0 hz1 hz2 HA.out (i := 0) (by rfl) (by rfl) (by rfl) ((HA.out.box (i := 1) rfl).1 0 _ rfl) (by omega) ?_; intro A2 c2 w2 hS2; have HB := Lib.hid (hS2.drop 1); clear hS2)
              | (refine step_appN (by rfl) (.tmp 46) (.tmp 49) 22 (by rfl) ((nats os).drop k) Tryd.underlying22 hi hz0 hz1 hz2 HB.out (i := 0) (by rfl) HD.out (by rfl) (by rfl) (HB.out.cellsRest (i := 1) rfl hk HO2.out) (by simp) (by omega) (by omega) (N := j + 1) (by omega) ?_; intro g3 c3 w3 hS3; have HE := Lib.hid (hS3.drop 1); clear hS3))
            all_goals
              go_wp2
              go_roundw
              case rel => exact ⟨j + 1, g3, c3, by go_num, by omega, rfl, by rw [HSTEP.out, nats_split]; exact HE.out⟩
              case measure => simp [intOf]; omega
    · obtain rfl : j = m := by omega
      have hjn : ¬ (j : Int) < (j : Int) := by omega
      clear hS
      go_wp2
      go_ret2
      have hln : (nats (ordN ws j)).length = j := by rw [nats_len, ordN_len]
      exact ⟨_, c, by rw [hln]; rfl, by rw [hln]; exact HR.out.ownI (i := 0) rfl, HR.out.base⟩
theorem ordS_any : Calls Tryd.prog 26 #[.slice A ws.length cap] w (RetIB w (orderFor ws).1 (orderFor ws).2) := by
  unfold orderFor
  cases hf : isVec ws
  · exact ordS_no A ws cap w h hl hf
  · exact ordS_yes A ws cap w h hl hf

end


end Go.Proofs.YtlbefommcahkeaaDoor.C
