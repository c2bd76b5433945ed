/-
  The contracts of impl.areWeights and of DualFunction's closure.
-/
import Derived.Test.YtelihjanjlklpaaDoorModI
import Derived.Test.YtelihjanjlklpaaDoorReM
import Derived.Test.YtelihjanjlklpaaDoorMkM
import Derived.Test.YtelihjanjlklpaaDoorHeld
namespace Go.Proofs.YtelihjanjlklpaaDoor.C
open Go.RowKit K M
set_option linter.unusedVariables false
set_option linter.unusedSimpArgs false

theorem areI_yes (A : Option Addr) (ws : List Int) (cap : Nat) (w : World) (h : Hid (Ints w w.heap.size A ws)) (h5 : ws.length ≤ 5) (hv : weightsOk ws) :
    Calls Tryd.prog 73 #[.slice A ws.length cap] w fun e w' => e = .returned (.bool true) ∧ w = w' := by
  have HV := Lib.hid hv
  obtain ⟨m, hm⟩ : ∃ m, ws.length = m := ⟨_, rfl⟩
  have HX := Lib.hid hm
  rw [hm] at h5 ⊢
  clear hv hm
  go_enter Tryd.func73, Tryd.ntmps73
  go_wp2
  go_loop [7] (fun i => ∃ k : Nat, k ≤ m ∧ i = .int .i64 k) (fun i => m - (intOf i).toNat)
  case atStart => exact ⟨0, Nat.zero_le _, rfl⟩
  case round =>
    obtain ⟨k, hk, rfl⟩ := hrel
    by_cases hlt : k < m
    · obtain ⟨b, off, rfl, hbl, hc⟩ := h.out.at_ (k := k) (by rw [HX.out]; omega)
      have hk0 : (0 : Int) ≤ (k : Int) := by omega
      have hkn : (k : Int) < (m : Int) := by omega
      obtain ⟨v1, v2⟩ := HV.out k (by rw [HX.out]; exact hlt)
      generalize ws.getD k 0 = x at hc v1 v2
      go_wp2_with (go_at_call 74; refine (isWeight_yes x _ v1 v2).mono ?_; rintro e w' ⟨rfl, rfl⟩)
      go_round
      case rel => exact ⟨k + 1, by omega, by go_num⟩
      case measure => simp [intOf]; omega
    · obtain rfl : k = m := by omega
      have hkn : ¬ (k : Int) < (k : Int) := by omega
      go_wp2
      go_ret
      exact ⟨rfl, rfl⟩

theorem areI_no (A : Option Addr) (ws : List Int) (cap : Nat) (w : World) (h : Hid (Ints w w.heap.size A ws)) (h5 : ws.length ≤ 5) (j : Nat) (hj : j < ws.length) (hb : ws.getD j 0 < -1000 ∨ 1000 < ws.getD j 0) (hv : ∀ k, k < j → -1000 ≤ ws.getD k 0 ∧ ws.getD k 0 ≤ 1000) :
    Calls Tryd.prog 73 #[.slice A ws.length cap] w fun e w' => e = .returned (.bool false) ∧ w = w' := by
  have HV := Lib.hid hv
  have HB := Lib.hid hb
  obtain ⟨m, hm⟩ : ∃ m, ws.length = m := ⟨_, rfl⟩
  have HX := Lib.hid hm
  rw [hm] at hj h5 ⊢
  clear hv hm hb
  go_enter Tryd.func73, Tryd.ntmps73
  go_wp2
  go_loop [7] (fun i => ∃ k : Nat, k ≤ j ∧ i = .int .i64 k) (fun i => m - (intOf i).toNat)
  case atStart => exact ⟨0, Nat.zero_le _, rfl⟩
  case round =>
    obtain ⟨k, hk, rfl⟩ := hrel
    obtain ⟨b, off, rfl, hbl, hc⟩ := h.out.at_ (k := k) (by rw [HX.out]; omega)
    have hk0 : (0 : Int) ≤ (k : Int) := by omega
    have hkn : (k : Int) < (m : Int) := by omega
    by_cases hlt : k < j
    · obtain ⟨v1, v2⟩ := HV.out k hlt
      generalize ws.getD k 0 = x at hc v1 v2
      go_wp2_with (go_at_call 74; refine (isWeight_yes x _ v1 v2).mono ?_; rintro e w' ⟨rfl, rfl⟩)
      go_round
      case rel => exact ⟨k + 1, by omega, by go_num⟩
      case measure => simp [intOf]; omega
    · obtain rfl : k = j := by omega
      have hb := HB.out
      clear HB HV
      generalize ws.getD k 0 = x at hc hb
      have HB := Lib.hid hb
      clear hb
      go_wp2_with (go_at_call 74; refine (isWeight_no x _ HB.out).mono ?_; rintro e w' ⟨rfl, rfl⟩)
      go_ret
      exact ⟨rfl, rfl⟩

theorem compl_valD : ∀ n : Nat, n < 6 → ∀ s : Nat, s < 2 ^ n → bits .xor .i64 (s : Int) (((2 ^ n : Nat) : Int) - 1) = ((compl n s : Nat) : Int) := by decide +kernel

theorem complD (N S : Nat) (w : World) (h5 : N ≤ 5) (hS : S < 2 ^ N) : Calls Tryd.prog 57 #[.int .i64 S, .int .i64 N] w fun e w' => e = .returned (.int .i64 (compl N S : Nat)) ∧ w = w' := by
  have hx := compl_valD N (by omega) S hS
  have hsh := shl_one (n := (N : Int)) (m := 2 ^ N) (by omega) (by omega) (by rw [Int.toNat_natCast])
  rw [Int.toNat_natCast] at hsh
  generalize compl N S = q at hx ⊢
  have hp32 : 2 ^ N ≤ 32 := Nat.le_trans (Nat.pow_le_pow_right (by decide) h5) (by decide)
  have hp1 : 1 ≤ 2 ^ N := Nat.two_pow_pos N
  generalize 2 ^ N = p at hx hsh hp32 hp1
  have hN : (0 : Int) ≤ (N : Int) := by omega
  clear hS
  go_enter Tryd.func57, Tryd.ntmps57
  go_wp2
  go_ret
  exact ⟨rfl, rfl⟩

end Go.Proofs.YtelihjanjlklpaaDoor.C
