/-
  The contract of spec.EncodeFixed.
-/
import Derived.Test.YtmpoonecobepcaaDoorDecFix
import Derived.Test.YtmpoonecobepcaaDoorKit
import Derived.Outline
namespace Go.Proofs.YtmpoonecobepcaaDoor.C
open Go.RowKit M K
set_option linter.unusedVariables false

set_option maxHeartbeats 400000 in
theorem sef_yes (n : Int) (m : Nat) (w : World) (h1 : 1 ≤ m) (h2 : m ≤ 7) (h3 : 0 ≤ n) (h4 : n ≤ 9223372036854775807) :
    Calls Tryd.prog 14 #[.int .i64 n, .int .i64 m] w fun e w' => e = .returned (.string ⟨(efL n m).toArray⟩) ∧ Below w.heap.size w w' := by
  have d1 : decide (1 ≤ (m : Int)) = true := by simp; omega
  have d2 : decide ((m : Int) ≤ 7) = true := by simp; omega
  go_enter Tryd.func14, Tryd.ntmps14
  go_wp2_with (go_at_call 25; refine (in_any _ _ _ _).mono ?_; rintro e w' ⟨rfl, rfl⟩)
  go_loopw [0, 5, 6] (fun v o i wr => ∃ k : Nat, k ≤ m ∧ i = .int .i64 k ∧ v = .int .i64 (n / 256 ^ k) ∧ o = .string ⟨(beL n k).toArray⟩ ∧ Below w.heap.size w wr)
                 (fun _ _ i _ => m - (intOf i).toNat)
  case atStart => exact ⟨0, Nat.zero_le _, rfl, by simp, rfl, Below.refl _ _⟩
  case round =>
    obtain ⟨k, hk, rfl, rfl, rfl, hb⟩ := hrel
    obtain ⟨q0, q1, q2⟩ := quo_bd n k h3
    have q3 : n / 256 ^ k ≤ 9223372036854775807 := by omega
    have Q2 := Lib.hid q2
    clear q1 q2
    by_cases hlt : k < m
    · have kc := conv_byte (P := Tryd.prog) wr 22 9 5 (n / 256 ^ k % 256) Tryd.underlying22 Tryd.underlying5 Tryd.underlying9 (by omega) (by omega)
      have hl : (beL n k).length ≤ 7 := by rw [beL_length]; omega
      go_wp2
      go_roundw
      case rel => exact ⟨k + 1, by omega, by go_num, by rw [Q2.out], by simp [beL, ByteArray.ext_iff], hb.alloc hb.size _⟩
      case measure => simp [intOf]; omega
    · obtain rfl : k = m := by omega
      by_cases h0 : n / 256 ^ k = 0
      · have h0' : decide (0 < n / 256 ^ k) = false := by simp; omega
        have H0 := Lib.hid h0
        clear h0
        go_wp2
        go_ret
        exact ⟨by unfold efL; rw [if_pos H0.out]; rfl, hb⟩
      · have h0' : decide (0 < n / 256 ^ k) = true := by simp; omega
        have H0 := Lib.hid h0
        clear h0
        go_wp2
        go_ret
        exact ⟨by unfold efL; rw [if_neg H0.out]; rfl, hb⟩

set_option maxHeartbeats 400000 in
theorem sef_no (n m : Int) (w : World) (h : ¬ (1 ≤ m ∧ m ≤ 7 ∧ 0 ≤ n)) :
    Calls Tryd.prog 14 #[.int .i64 n, .int .i64 m] w fun e w' => e = .returned (.string ⟨#[]⟩) ∧ w = w' := by
  by_cases h1 : 1 ≤ m
  · by_cases h2 : m ≤ 7
    · have h3 : n < 0 := by omega
      go_enter Tryd.func14, Tryd.ntmps14
      go_wp2_with (go_at_call 25; refine (in_any _ _ _ _).mono ?_; rintro e w' ⟨rfl, rfl⟩)
      go_ret
      exact ⟨rfl, rfl⟩
    · go_enter Tryd.func14, Tryd.ntmps14
      go_wp2_with (go_at_call 25; refine (in_any _ _ _ _).mono ?_; rintro e w' ⟨rfl, rfl⟩)
      go_ret
      exact ⟨rfl, rfl⟩
  · go_enter Tryd.func14, Tryd.ntmps14
    go_wp2_with (go_at_call 25; refine (in_any _ _ _ _).mono ?_; rintro e w' ⟨rfl, rfl⟩)
    go_ret
    exact ⟨rfl, rfl⟩

end Go.Proofs.YtmpoonecobepcaaDoor.C
