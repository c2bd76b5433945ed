/-
  The contracts of impl.areWithin, areWeights, isVector, areVectors.
-/
import Derived.Test.YtffbiflgmlabaaaAllM
import Derived.Test.YtffbiflgmlabaaaHeld
namespace Go.Proofs.Ytffbiflgmlabaaa.C
open Go.RowKit K M
set_option linter.unusedVariables false
set_option linter.unusedSimpArgs false

theorem withinI_yes (L : Int) (A : Option Addr) (ws : List Int) (cap : Nat) (w : World) (h : Hid (Ints w w.heap.size A ws)) (h0 : 0 ≤ L) (h1 : L ≤ 1000000) (hl : ws.length ≤ 1048576) (hv : ∀ k, k < ws.length → -L ≤ ws.getD k 0 ∧ ws.getD k 0 ≤ L) :
    Calls Try.prog 9 #[.int .i64 L, .slice A ws.length cap] w fun e w' => e = .returned (.bool true) ∧ w = w' := by
  have HV := Lib.hid hv
  obtain ⟨m, hm⟩ : ∃ m, ws.length = m := ⟨_, rfl⟩
  have HX := Lib.hid hm
  have hng : IntKind.i64.wrap (-L) = -L := IntWalk.i64_in _ (by omega)
  rw [hm] at hl ⊢
  clear hv hm
  go_enter Try.func9, Try.ntmps9
  go_wp2
  go_loop [9] (fun i => ∃ k : Nat, k ≤ m ∧ i = .int .i64 k) (fun i => m - (intOf i).toNat)
  case atStart => exact ⟨0, Nat.zero_le _, rfl⟩
  case round =>
    obtain ⟨k, hk, rfl⟩ := hrel
    by_cases hlt : k < m
    · obtain ⟨b, off, rfl, hbl, hc⟩ := h.out.at_ (k := k) (by rw [HX.out]; omega)
      have hk0 : (0 : Int) ≤ (k : Int) := by omega
      have hkn : (k : Int) < (m : Int) := by omega
      obtain ⟨v1, v2⟩ := HV.out k (by rw [HX.out]; exact hlt)
      generalize ws.getD k 0 = x at hc v1 v2
      have v1' : ¬ x < -L := by omega
      have v2' : ¬ L < x := by omega
      go_wp2
      go_round
      case rel => exact ⟨k + 1, by omega, by go_num⟩
      case measure => simp [intOf]; omega
    · obtain rfl : k = m := by omega
      have hkn : ¬ (k : Int) < (k : Int) := by omega
      go_wp2
      go_ret
      exact ⟨rfl, rfl⟩

theorem withinI_no (L : Int) (A : Option Addr) (ws : List Int) (cap : Nat) (w : World) (h : Hid (Ints w w.heap.size A ws)) (h0 : 0 ≤ L) (h1 : L ≤ 1000000) (hl : ws.length ≤ 1048576) (j : Nat) (hj : j < ws.length) (hb : ws.getD j 0 < -L ∨ L < ws.getD j 0) (hv : ∀ k, k < j → -L ≤ ws.getD k 0 ∧ ws.getD k 0 ≤ L) :
    Calls Try.prog 9 #[.int .i64 L, .slice A ws.length cap] w fun e w' => e = .returned (.bool false) ∧ w = w' := by
  have HV := Lib.hid hv
  have HB := Lib.hid hb
  obtain ⟨m, hm⟩ : ∃ m, ws.length = m := ⟨_, rfl⟩
  have HX := Lib.hid hm
  have hng : IntKind.i64.wrap (-L) = -L := IntWalk.i64_in _ (by omega)
  rw [hm] at hj hl ⊢
  clear hv hm hb
  go_enter Try.func9, Try.ntmps9
  go_wp2
  go_loop [9] (fun i => ∃ k : Nat, k ≤ j ∧ i = .int .i64 k) (fun i => m - (intOf i).toNat)
  case atStart => exact ⟨0, Nat.zero_le _, rfl⟩
  case round =>
    obtain ⟨k, hk, rfl⟩ := hrel
    obtain ⟨b, off, rfl, hbl, hc⟩ := h.out.at_ (k := k) (by rw [HX.out]; omega)
    have hk0 : (0 : Int) ≤ (k : Int) := by omega
    have hkn : (k : Int) < (m : Int) := by omega
    by_cases hlt : k < j
    · obtain ⟨v1, v2⟩ := HV.out k hlt
      generalize ws.getD k 0 = x at hc v1 v2
      have v1' : ¬ x < -L := by omega
      have v2' : ¬ L < x := by omega
      go_wp2
      go_round
      case rel => exact ⟨k + 1, by omega, by go_num⟩
      case measure => simp [intOf]; omega
    · obtain rfl : k = j := by omega
      have hb := HB.out
      clear HB HV
      generalize ws.getD k 0 = x at hc hb
      by_cases c1 : x < -L
      · clear hb
        go_wp2
        go_ret
        exact ⟨rfl, rfl⟩
      · have c2 : L < x := by omega
        clear hb
        go_wp2
        go_ret
        exact ⟨rfl, rfl⟩

end Go.Proofs.Ytffbiflgmlabaaa.C
