/-
  The contract of impl.DecodeVarint.
-/
import Derived.Test.YtmpoonecobepcaaDoorMathD
import Derived.Test.YtmpoonecobepcaaDoorEncVar
import Derived.Outline
import Derived.Deep.RegionWith
namespace Go.Proofs.YtmpoonecobepcaaDoor.C
open Go.RowKit M K
set_option linter.unusedVariables false

theorem and127_u8 (n : Int) (h0 : 0 ≤ n) (h1 : n ≤ 255) : bits .and .u8 n 127 = n % 128 := bits_mask .u8 8 (by decide) wraps_u8 7 (by decide) n h0 (by omega)

theorem or_high (k : Nat) (h7 : k < 7) (x y : Int) (hx0 : 0 ≤ x) (hx : x < 128 ^ k) (hy0 : 0 ≤ y) (hy : y ≤ 127) : bits .or .i64 x (y * 2 ^ (7 * k)) = x + y * 128 ^ k := by
  have e : (2 : Int) ^ (7 * k) = 128 ^ k := by rw [show (128 : Int) = 2 ^ 7 by decide, ← Int.pow_mul]
  have hc : bits .or .i64 x (y * 2 ^ (7 * k)) = bits .or .i64 (y * 2 ^ (7 * k)) x := by simp only [bits, BitVec.or_comm]
  have hp : (0 : Int) < 128 ^ k := Int.pow_pos (by decide)
  have hm : y * 128 ^ k ≤ 127 * 128 ^ k := Int.mul_le_mul_of_nonneg_right hy (Int.le_of_lt hp)
  have hn : 0 ≤ y * 128 ^ k := Int.mul_nonneg hy0 (Int.le_of_lt hp)
  have h6 : (128 : Int) ^ k ≤ 128 ^ 6 := pow128_le (by omega)
  have e6 : (128 : Int) ^ 6 = 4398046511104 := by decide
  rw [hc, bits_join .i64 62 (by decide) (fun n a b => by rw [IntKind.wrap_i64]; omega) (7 * k) _ _ (by rw [e]; exact hn) (by simp) (by rw [e]; omega) hx0 (by rw [e]; exact hx) (by omega), e]
  omega

theorem slot_step (s : ByteArray) (i : Nat) (h7 : i < 7) (hi : i < s.size) :
    bits .or .i64 (leL (s.data.toList.take i)) (wrap64 (wrap64 (bits .and .u8 (s[i].toNat : Int) 127) * 2 ^ (7 * i))) = leL (s.data.toList.take (i + 1)) := by
  obtain ⟨b0, b1, b2⟩ := leL_take s i (by omega) (by omega)
  obtain ⟨c0, c1, c2⟩ := leL_take s (i + 1) (by omega) (by omega)
  have d : (s[i].toNat : Int) ≤ 255 := by have := s[i].toNat_lt; omega
  rw [leL_step s i hi] at c0 c1 ⊢
  rw [and127_u8 _ (by omega) d]
  have e : (2 : Int) ^ (7 * i) = 128 ^ i := by rw [show (128 : Int) = 2 ^ 7 by decide, ← Int.pow_mul]
  have w1 : wrap64 ((s[i].toNat : Int) % 128) = (s[i].toNat : Int) % 128 := IntWalk.wrap64_in _ ⟨by omega, by omega⟩
  have hp : (0 : Int) < 128 ^ i := Int.pow_pos (by decide)
  have hn : 0 ≤ (s[i].toNat : Int) % 128 * 128 ^ i := Int.mul_nonneg (by omega) (Int.le_of_lt hp)
  rw [w1]
  have w2 : wrap64 ((s[i].toNat : Int) % 128 * 2 ^ (7 * i)) = (s[i].toNat : Int) % 128 * 2 ^ (7 * i) := IntWalk.wrap64_in _ ⟨by rw [e]; omega, by rw [e]; omega⟩
  rw [w2, or_high i h7 _ _ b0 b2 (by omega) (by omega)]

theorem _root_.Go.RowKit.Below.undrew {B : Nat} {w w' : World} (h : Below B w.drew w') : Below B w w' := ⟨h.os, h.tape, h.output, h.size, h.block⟩

set_option maxRecDepth 100000 in
set_option maxHeartbeats 800000 in
theorem idv_yes (s : ByteArray) (k : Nat) (w : World) (h1 : 1 ≤ k) (h2 : k ≤ 7) (h3 : k ≤ s.size) (h4 : s.size ≤ 9223372036854775807) (hok : Hid (OkAt s.data.toList k)) :
    Calls Tryd.prog 10 #[.string s] w fun e w' => e = .returned (.tuple #[.int .i64 (leL (s.data.toList.take k)), .int .i64 k]) ∧ Below w.heap.size w w' := by
  go_enter Tryd.func10, Tryd.ntmps10
  go_wp2
  all_goals
    go_loop [4, 5, 9] (fun v _ c => ∃ i : Nat, i < k ∧ c = .int .i64 i ∧ v = .int .i64 (leL (s.data.toList.take i))) (fun _ _ c => 7 - (intOf c).toNat)
    case atStart => exact ⟨0, by omega, rfl, rfl⟩
    case round =>
      obtain ⟨i, hi, rfl, rfl⟩ := hrel
      have his : i < s.size := by omega
      have hn := slot_step s i (by omega) his
      obtain ⟨e1, e2⟩ := hok.out.bytes h1 h2 h3
      by_cases hl : i + 1 < k
      · have hge : 128 ≤ (s[i].toNat : Int) := by have := e1 i his hl; omega
        clear e1 e2
        go_wp2_with fail
        go_round
        case rel => exact ⟨i + 1, hl, by go_num, rfl⟩
        case measure => simp [intOf]; omega
      · obtain rfl : k = i + 1 := by omega
        have hge : (s[i].toNat : Int) < 128 := by have := e2 his; simp at this; omega
        obtain ⟨b0, b1, b2⟩ := leL_take s (i + 1) (by omega) (by omega)
        clear e1 e2 b2
        go_wp2_with fail
        have s1 : IntKind.i64.wrap ((i : Int) + 1) = (i : Int) + 1 := IntWalk.i64_in _ (by omega)
        have s2 : 0 ≤ (i : Int) + 1 := by omega
        have s3 : ((i : Int) + 1).toNat = i + 1 := by omega
        have s4 : (i : Int) + 1 ≤ s.size := by omega
        go_region_with (go_at_call 9; refine (iev_yes _ _ b0 b1).mono ?_; rintro e w' ⟨rfl, hb⟩)
        all_goals
          clear s1 s2 s3 s4 hn
          have ht := hok.out.ntest
          go_wp2_with fail
          all_goals first
            | (exfalso; have hq : (!(encV 6 (leL (s.data.toList.take (i + 1))) == (s.extract 0 (i + 1)).toList)) = true := by assumption
               rw [ht] at hq; cases hq)
            | (go_ret2; exact ⟨rfl, hb.undrew⟩)

set_option maxRecDepth 100000 in
set_option maxHeartbeats 800000 in
theorem idv_no (s : ByteArray) (w : World) (h4 : s.size ≤ 9223372036854775807) (hno : Hid (∀ k, 1 ≤ k → k ≤ 7 → k ≤ s.size → ¬ OkAt s.data.toList k)) :
    Calls Tryd.prog 10 #[.string s] w fun e w' => e = .returned (.tuple #[.int .i64 0, .int .i64 0]) ∧ Below w.heap.size w w' := by
  go_enter Tryd.func10, Tryd.ntmps10
  go_wp2
  all_goals
    go_loop [4, 5, 9] (fun v _ c => ∃ i : Nat, i ≤ 7 ∧ i ≤ s.size ∧ c = .int .i64 i ∧ v = .int .i64 (leL (s.data.toList.take i))) (fun _ _ c => 7 - (intOf c).toNat)
    case atStart => exact ⟨0, by omega, by omega, rfl, rfl⟩
    case round =>
      obtain ⟨i, hi, hi', rfl, rfl⟩ := hrel
      by_cases hin : i < 7 ∧ i < s.size
      · obtain ⟨hi7, his⟩ := hin
        have hn := slot_step s i hi7 his
        by_cases hge : 128 ≤ (s[i].toNat : Int)
        · go_wp2_with fail
          go_round
          case rel => exact ⟨i + 1, by omega, by omega, by go_num, rfl⟩
          case measure => simp [intOf]; omega
        · have hlt : (s[i].toNat : Int) < 128 := by omega
          obtain ⟨b0, b1, b2⟩ := leL_take s (i + 1) (by omega) (by omega)
          clear b2 hge
          go_wp2_with fail
          have s1 : IntKind.i64.wrap ((i : Int) + 1) = (i : Int) + 1 := IntWalk.i64_in _ (by omega)
          have s2 : 0 ≤ (i : Int) + 1 := by omega
          have s3 : ((i : Int) + 1).toNat = i + 1 := by omega
          have s4 : (i : Int) + 1 ≤ s.size := by omega
          have s5 : i + 1 ≤ s.size := by omega
          go_region_with (go_at_call 9; refine (iev_yes _ _ b0 b1).mono ?_; rintro e w' ⟨rfl, hb⟩)
          all_goals
            clear s1 s2 s3 s4 hn
            have ht := OkAt.nuntest (hno.out (i + 1) (by omega) (by omega) (by omega))
            go_wp2_with fail
            all_goals first
              | (exfalso; have hq : (!(encV 6 (leL (s.data.toList.take (i + 1))) == (s.extract 0 (i + 1)).toList)) = false := by assumption
                 rw [ht] at hq; cases hq)
              | (go_ret2; exact ⟨rfl, hb.undrew⟩)
      · have hin1 : i = 7 ∨ i = s.size := by omega
        clear hin
        go_wp2_with fail
        go_ret2
        exact ⟨rfl, Below.refl _ _⟩

end Go.Proofs.YtmpoonecobepcaaDoor.C
