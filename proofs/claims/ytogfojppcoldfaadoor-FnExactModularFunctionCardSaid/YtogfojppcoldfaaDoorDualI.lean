/-
  The contracts of impl.areWeights and of DualFunction's closure.
-/
import Derived.Test.YtogfojppcoldfaaDoorModI
import Derived.Test.YtogfojppcoldfaaDoorReM
import Derived.Test.YtogfojppcoldfaaDoorMkM
import Derived.Test.YtogfojppcoldfaaDoorHeld
namespace Go.Proofs.YtogfojppcoldfaaDoor.C
open Go.RowKit K M
set_option linter.unusedVariables false
set_option linter.unusedSimpArgs false

theorem areI_yes (A : Option Addr) (ws : List Int) (cap : Nat) (w : World) (h : Hid (Ints w w.heap.size A ws)) (h5 : ws.length ≤ 5) (hv : weightsOk ws) :
    Calls Tryd.prog 15 #[.slice A ws.length cap] w fun e w' => e = .returned (.bool true) ∧ w = w' := by
  have HV := Lib.hid hv
  obtain ⟨m, hm⟩ : ∃ m, ws.length = m := ⟨_, rfl⟩
  have HX := Lib.hid hm
  rw [hm] at h5 ⊢
  clear hv hm
  go_enter Tryd.func15, Tryd.ntmps15
  go_wp2
  go_loop [7] (fun i => ∃ k : Nat, k ≤ m ∧ i = .int .i64 k) (fun i => m - (intOf i).toNat)
  case atStart => exact ⟨0, Nat.zero_le _, rfl⟩
  case round =>
    obtain ⟨k, hk, rfl⟩ := hrel
    by_cases hlt : k < m
    · obtain ⟨b, off, rfl, hbl, hc⟩ := h.out.at_ (k := k) (by rw [HX.out]; omega)
      have hk0 : (0 : Int) ≤ (k : Int) := by omega
      have hkn : (k : Int) < (m : Int) := by omega
      obtain ⟨v1, v2⟩ := HV.out k (by rw [HX.out]; exact hlt)
      generalize ws.getD k 0 = x at hc v1 v2
      go_wp2_with (go_at_call 16; refine (isWeight_yes x _ v1 v2).mono ?_; rintro e w' ⟨rfl, rfl⟩)
      go_round
      case rel => exact ⟨k + 1, by omega, by go_num⟩
      case measure => simp [intOf]; omega
    · obtain rfl : k = m := by omega
      have hkn : ¬ (k : Int) < (k : Int) := by omega
      go_wp2
      go_ret
      exact ⟨rfl, rfl⟩

theorem areI_no (A : Option Addr) (ws : List Int) (cap : Nat) (w : World) (h : Hid (Ints w w.heap.size A ws)) (h5 : ws.length ≤ 5) (j : Nat) (hj : j < ws.length) (hb : ws.getD j 0 < -1000 ∨ 1000 < ws.getD j 0) (hv : ∀ k, k < j → -1000 ≤ ws.getD k 0 ∧ ws.getD k 0 ≤ 1000) :
    Calls Tryd.prog 15 #[.slice A ws.length cap] w fun e w' => e = .returned (.bool false) ∧ w = w' := by
  have HV := Lib.hid hv
  have HB := Lib.hid hb
  obtain ⟨m, hm⟩ : ∃ m, ws.length = m := ⟨_, rfl⟩
  have HX := Lib.hid hm
  rw [hm] at hj h5 ⊢
  clear hv hm hb
  go_enter Tryd.func15, Tryd.ntmps15
  go_wp2
  go_loop [7] (fun i => ∃ k : Nat, k ≤ j ∧ i = .int .i64 k) (fun i => m - (intOf i).toNat)
  case atStart => exact ⟨0, Nat.zero_le _, rfl⟩
  case round =>
    obtain ⟨k, hk, rfl⟩ := hrel
    obtain ⟨b, off, rfl, hbl, hc⟩ := h.out.at_ (k := k) (by rw [HX.out]; omega)
    have hk0 : (0 : Int) ≤ (k : Int) := by omega
    have hkn : (k : Int) < (m : Int) := by omega
    by_cases hlt : k < j
    · obtain ⟨v1, v2⟩ := HV.out k hlt
      generalize ws.getD k 0 = x at hc v1 v2
      go_wp2_with (go_at_call 16; refine (isWeight_yes x _ v1 v2).mono ?_; rintro e w' ⟨rfl, rfl⟩)
      go_round
      case rel => exact ⟨k + 1, by omega, by go_num⟩
      case measure => simp [intOf]; omega
    · obtain rfl : k = j := by omega
      have hb := HB.out
      clear HB HV
      generalize ws.getD k 0 = x at hc hb
      have HB := Lib.hid hb
      clear hb
      go_wp2_with (go_at_call 16; refine (isWeight_no x _ HB.out).mono ?_; rintro e w' ⟨rfl, rfl⟩)
      go_ret
      exact ⟨rfl, rfl⟩

theorem compl_valD : ∀ n : Nat, n < 6 → ∀ s : Nat, s < 2 ^ n → bits .xor .i64 (s : Int) (((2 ^ n : Nat) : Int) - 1) = ((compl n s : Nat) : Int) := by decide +kernel

end Go.Proofs.YtogfojppcoldfaaDoor.C
