/-
  The contracts of spec.DecodeHex and of what it calls; of impl.digitOf.
-/
import Derived.Test.YtmpoonecobepcaaMathX
import Derived.Test.YtmpoonecobepcaaHexE
namespace Go.Proofs.Ytmpoonecobepcaa.C
open Go.RowKit M K
set_option linter.unusedVariables false

theorem ret_i64 {a b : Int} (h : b = a) : Ending.returned (.int .i64 a) = .returned (.int .i64 b) := by rw [h]

/-- A rune's worth as a digit. -/
theorem digitOf_any (x : Int) (w : World) (h0 : -2147483648 ≤ x) (h1 : x ≤ 2147483647) : Calls Try.prog 24 #[.int .i32 x] w fun e w' => e = .returned (.int .i64 (hv x)) ∧ w = w' := by
  by_cases a1 : 48 ≤ x
  · by_cases a2 : x ≤ 57
    · go_enter Try.func24, Try.ntmps24
      go_wp2
      go_ret
      exact ⟨ret_i64 (by unfold hv; rw [if_pos ⟨a1, a2⟩]), rfl⟩
    · by_cases a3 : 97 ≤ x
      · by_cases a4 : x ≤ 102
        · go_enter Try.func24, Try.ntmps24
          go_wp2
          go_ret
          exact ⟨ret_i64 (a := x - 97 + 10) (by unfold hv; rw [if_neg (by omega), if_pos ⟨a3, a4⟩]; omega), rfl⟩
        · go_enter Try.func24, Try.ntmps24
          go_wp2
          go_ret
          exact ⟨ret_i64 (by unfold hv; rw [if_neg (by omega), if_neg (by omega)]), rfl⟩
      · go_enter Try.func24, Try.ntmps24
        go_wp2
        go_ret
        exact ⟨ret_i64 (by unfold hv; rw [if_neg (by omega), if_neg (by omega)]), rfl⟩
  · have a3 : ¬ 97 ≤ x := by omega
    go_enter Try.func24, Try.ntmps24
    go_wp2
    go_ret
    exact ⟨ret_i64 (by unfold hv; rw [if_neg (by omega), if_neg (by omega)]), rfl⟩

set_option maxHeartbeats 400000 in
theorem fromHex_any (x : Int) (w : World) (h0 : 0 ≤ x) (h1 : x ≤ 255) : Calls Try.prog 23 #[.int .u8 x] w fun e w' => e = .returned (.int .i64 (hv x)) ∧ w = w' := by
  have hb := hv_bd x
  by_cases hx : 0 ≤ hv x
  · obtain ⟨K, hK⟩ := Int.eq_ofNat_of_zero_le hx
    have hd := dg_hv x h0 h1 hx
    rw [hK] at hd hb
    have HD := Lib.hid hd
    have HK := Lib.hid hK
    clear hd hK hx
    have hK16 : K ≤ 15 := by omega
    clear hb
    go_enter Try.func23, Try.ntmps23
    go_wp2
    go_loop [3] (fun c => ∃ k : Nat, k ≤ K ∧ c = .int .i64 k) (fun c => 16 - (intOf c).toNat)
    case atStart => exact ⟨0, Nat.zero_le _, rfl⟩
    case round =>
      obtain ⟨k, hk, rfl⟩ := hrel
      by_cases e : k = K
      · subst e
        have ht : ((((dg k).toNat : Int)) == x) = true := by have := HD.out; simpa using this
        go_wp2_with (go_at_call 22; refine (digit_any _ _ (by omega) (by omega)).mono ?_; rintro e w' ⟨rfl, rfl⟩)
        go_ret
        exact ⟨ret_i64 HK.out, rfl⟩
      · have ht : ((((dg k).toNat : Int)) == x) = false := by
          have h2 := hv_dg k (by omega)
          have h3 : ((dg k).toNat : Int) ≠ x := fun e2 => by rw [e2, HK.out] at h2; omega
          simpa using h3
        have hkK : k < K := by omega
        go_wp2_with (go_at_call 22; refine (digit_any _ _ (by omega) (by omega)).mono ?_; rintro e w' ⟨rfl, rfl⟩)
        go_round
        case rel => exact ⟨k + 1, by omega, by go_num⟩
        case measure => simp [intOf]; omega
  · have hm : hv x = -1 := by omega
    have HM := Lib.hid hm
    clear hm hx hb
    go_enter Try.func23, Try.ntmps23
    go_wp2
    go_loop [3] (fun c => ∃ k : Nat, k ≤ 16 ∧ c = .int .i64 k) (fun c => 16 - (intOf c).toNat)
    case atStart => exact ⟨0, Nat.zero_le _, rfl⟩
    case round =>
      obtain ⟨k, hk, rfl⟩ := hrel
      by_cases e : k < 16
      · have ht : ((((dg k).toNat : Int)) == x) = false := by
          have h2 := hv_dg k e
          have h3 : ((dg k).toNat : Int) ≠ x := fun e2 => by rw [e2, HM.out] at h2; omega
          simpa using h3
        go_wp2_with (go_at_call 22; refine (digit_any _ _ (by omega) (by omega)).mono ?_; rintro e w' ⟨rfl, rfl⟩)
        go_round
        case rel => exact ⟨k + 1, by omega, by go_num⟩
        case measure => simp [intOf]; omega
      · go_wp2
        go_ret
        exact ⟨ret_i64 HM.out, rfl⟩
end Go.Proofs.Ytmpoonecobepcaa.C
