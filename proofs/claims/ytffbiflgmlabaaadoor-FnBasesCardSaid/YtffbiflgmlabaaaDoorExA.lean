/-
  The contracts of spec.LeastVector, GreatestVector, PairingOf, IndicatorOf and of what they call.
  The contract of spec.OrderFor.
-/
import Derived.Test.YtffbiflgmlabaaaDoorAllM
import Derived.Test.YtffbiflgmlabaaaDoorLolA
import Derived.Test.YtffbiflgmlabaaaDoorSub
import Derived.Deep.RegionLaw
namespace Go.Proofs.YtffbiflgmlabaaaDoor.C
open Go.RowKit K M
set_option linter.unusedVariables false
set_option linter.unusedSimpArgs false

theorem vecS_good (A : Option Addr) (ws : List Int) (cap : Nat) (w : World) (h : Hid (Ints w w.heap.size A ws)) (hl : ws.length ≤ 1048576) (hv : ∀ k, k < ws.length → -1000 ≤ ws.getD k 0 ∧ ws.getD k 0 ≤ 1000) :
    Calls Tryd.prog 88 #[.slice A ws.length cap] w fun e w' => e = .returned (.bool (decide (ws.length ≤ 5))) ∧ w = w' := by
  obtain ⟨m, hm⟩ : ∃ m, ws.length = m := ⟨_, rfl⟩
  have HX := Lib.hid hm
  have HV := Lib.hid hv
  rw [hm] at hl ⊢
  clear hm hv
  go_enter Tryd.func88, Tryd.ntmps88
  go_wp2
  go_loop [3] (fun i => ∃ k : Nat, k ≤ m ∧ i = .int .i64 k) (fun i => m - (intOf i).toNat)
  case atStart => exact ⟨0, Nat.zero_le _, rfl⟩
  case round =>
    obtain ⟨k, hk, rfl⟩ := hrel
    by_cases hlt : k < m
    · obtain ⟨b, off, rfl, hbl, hc⟩ := h.out.at_ (k := k) (by rw [HX.out]; omega)
      have hk0 : (0 : Int) ≤ (k : Int) := by omega
      have hkn : (k : Int) < (m : Int) := by omega
      obtain ⟨v1, v2⟩ := HV.out k (by rw [HX.out]; exact hlt)
      generalize ws.getD k 0 = x at hc v1 v2
      go_wp2_with (go_at_call 67; refine (in_yes x (-1000) 1000 _ v1 v2).mono ?_; rintro e w' ⟨rfl, rfl⟩)
      go_round
      case rel => exact ⟨k + 1, by omega, by go_num⟩
      case measure => simp [intOf]; omega
    · obtain rfl : k = m := by omega
      have hkn : ¬ (k : Int) < (k : Int) := by omega
      by_cases h5 : k ≤ 5
      · have hg : (k : Int) ≤ 5 := by omega
        have hd : decide (k ≤ 5) = true := decide_eq_true h5
        go_wp2
        go_ret
        exact ⟨rfl, rfl⟩
      · have hg : ¬ (k : Int) ≤ 5 := by omega
        have hd : decide (k ≤ 5) = false := decide_eq_false h5
        go_wp2
        go_ret
        exact ⟨rfl, rfl⟩

theorem vecS_bad (A : Option Addr) (ws : List Int) (cap : Nat) (w : World) (h : Hid (Ints w w.heap.size A ws)) (hl : ws.length ≤ 1048576) (j : Nat) (hj : j < ws.length) (hb : ws.getD j 0 < -1000 ∨ 1000 < ws.getD j 0) (hv : ∀ k, k < j → -1000 ≤ ws.getD k 0 ∧ ws.getD k 0 ≤ 1000) :
    Calls Tryd.prog 88 #[.slice A ws.length cap] w fun e w' => e = .returned (.bool false) ∧ w = w' := by
  obtain ⟨m, hm⟩ : ∃ m, ws.length = m := ⟨_, rfl⟩
  have HX := Lib.hid hm
  have HV := Lib.hid hv
  have HB := Lib.hid hb
  rw [hm] at hl hj ⊢
  clear hm hv hb
  go_enter Tryd.func88, Tryd.ntmps88
  go_wp2
  go_loop [3] (fun i => ∃ k : Nat, k ≤ j ∧ i = .int .i64 k) (fun i => m - (intOf i).toNat)
  case atStart => exact ⟨0, Nat.zero_le _, rfl⟩
  case round =>
    obtain ⟨k, hk, rfl⟩ := hrel
    obtain ⟨b, off, rfl, hbl, hc⟩ := h.out.at_ (k := k) (by rw [HX.out]; omega)
    have hk0 : (0 : Int) ≤ (k : Int) := by omega
    have hkn : (k : Int) < (m : Int) := by omega
    by_cases hlt : k < j
    · obtain ⟨v1, v2⟩ := HV.out k hlt
      generalize ws.getD k 0 = x at hc v1 v2
      go_wp2_with (go_at_call 67; refine (in_yes x (-1000) 1000 _ v1 v2).mono ?_; rintro e w' ⟨rfl, rfl⟩)
      go_round
      case rel => exact ⟨k + 1, by omega, by go_num⟩
      case measure => simp [intOf]; omega
    · obtain rfl : k = j := by omega
      have hb := HB.out
      clear HB HV
      generalize ws.getD k 0 = x at hc hb
      have HB := Lib.hid hb
      clear hb
      go_wp2_with (go_at_call 67; refine (in_no x (-1000) 1000 _ HB.out).mono ?_; rintro e w' ⟨rfl, rfl⟩)
      go_ret
      exact ⟨rfl, rfl⟩

theorem vecS_any (A : Option Addr) (ws : List Int) (cap : Nat) (w : World) (h : Hid (Ints w w.heap.size A ws)) (hl : ws.length ≤ 1048576) :
    Calls Tryd.prog 88 #[.slice A ws.length cap] w fun e w' => e = .returned (.bool (isVec ws)) ∧ w = w' := by
  by_cases hv : ∀ k, k < ws.length → -1000 ≤ ws.getD k 0 ∧ ws.getD k 0 ≤ 1000
  · rw [isVec_good hv]
    exact vecS_good A ws cap w h hl hv
  · obtain ⟨j, hj, hb, hk⟩ := vec_bad hv
    rw [isVec_bad hj hb]
    exact vecS_bad A ws cap w h hl j hj hb hk


section

end



section

end


end Go.Proofs.YtffbiflgmlabaaaDoor.C

namespace Go.Proofs.YtffbiflgmlabaaaDoor.C
open Go.RowKit K M
set_option linter.unusedVariables false
set_option linter.unusedSimpArgs false


section

end


end Go.Proofs.YtffbiflgmlabaaaDoor.C
