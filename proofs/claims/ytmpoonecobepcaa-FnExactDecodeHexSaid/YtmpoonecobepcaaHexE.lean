/-
  The contract of spec.EncodeHex, and the law that compares it with impl.EncodeHex.
-/
import Derived.Test.YtmpoonecobepcaaHexS
namespace Go.Proofs.Ytmpoonecobepcaa.C
open Go.RowKit M K
set_option linter.unusedVariables false

theorem digit_any (x : Int) (w : World) (h0 : 0 ≤ x) (h : x < 16) : Calls Try.prog 22 #[.int .i64 x] w fun e w' => e = .returned (.int .u8 ((dg x.toNat).toNat : Int)) ∧ w = w' := by
  obtain ⟨k, rfl⟩ := Int.eq_ofNat_of_zero_le h0
  have hk : k < 16 := by omega
  go_enter Try.func22, Try.ntmps22
  go_wp2
  go_ret
  exact ⟨by show _ = Ending.returned (.int .u8 ((dg k).toNat : Int)); rw [← dg_at k hk]; rfl, rfl⟩

theorem hex_row' (s : ByteArray) (k : Nat) (hk : k < s.size) :
    cellsOf (hexL (s.data.toList.take k)) ++ [.int .u8 ((dg ((s[k].toNat : Int) / 16).toNat).toNat : Int), .int .u8 ((dg ((s[k].toNat : Int) % 16).toNat).toNat : Int)]
    = cellsOf (hexL (s.data.toList.take (k + 1))) := by
  rw [take_snoc s k hk, hexL_snoc, cellsOf_append, show ((s[k].toNat : Int) / 16).toNat = s[k].toNat / 16 by omega, show ((s[k].toNat : Int) % 16).toNat = s[k].toNat % 16 by omega]
  rfl

set_option maxRecDepth 100000 in
set_option maxHeartbeats 1600000 in
theorem seh_any (s : ByteArray) (w : World) (h4 : s.size ≤ 1048576) :
    Calls Try.prog 17 #[.string s] w fun e w' => e = .returned (.string ⟨(hexL s.data.toList).toArray⟩) ∧ Below w.heap.size w w' := by
  obtain ⟨i0, hi, hz0, hz1, hz2⟩ := info_parts info_u8
  go_enter Try.func17, Try.ntmps17
  go_wp2
  go_loopw [3, 4] (fun o c wr => ∃ k : Nat, k ≤ s.size ∧ c = .int .i64 k ∧ wr.ownsRow w.heap.size 5 1 o (2 * k) (cellsOf (hexL (s.data.toList.take k))) ∧ (¬ o = .slice none 0 0) ∧ Below w.heap.size w wr) (fun _ c _ => s.size - (intOf c).toNat)
  case atStart => exact ⟨0, Nat.zero_le _, rfl, World.ownsRow_made w _ 0 (Nat.le_refl _) (by unfold maxLen; omega) rfl, by simp, (Below.refl _ _).alloc (Nat.le_refl _) _⟩
  case round =>
    obtain ⟨k, hk, rfl, hown, hne, hb⟩ := hrel
    by_cases hlt : k < s.size
    · have c1 : (s[k].toNat : Int) ≤ 255 := by have := s[k].toNat_lt; omega
      have k0 : (0 : Int) ≤ (k : Int) := by omega
      have k1 : (k : Int) < s.size := by omega
      have q0 : 0 ≤ (s[k].toNat : Int) / 16 := by omega
      have q1 : (s[k].toNat : Int) / 16 < 16 := by omega
      have q2 : 0 ≤ (s[k].toNat : Int) % 16 := by omega
      have q3 : (s[k].toNat : Int) % 16 < 16 := by omega
      have z1 : w.heap.size ≤ wr.heap.size := hb.size
      have v0 : IntKind.i64.wrap (s[k].toNat : Int) = (s[k].toNat : Int) := IntWalk.i64_in _ ⟨by omega, by omega⟩
      have v1 : (s[k].toNat : Int).tdiv 16 = (s[k].toNat : Int) / 16 := Int.tdiv_eq_ediv_of_nonneg (by omega)
      have v2 : (s[k].toNat : Int).tmod 16 = (s[k].toNat : Int) % 16 := Int.tmod_eq_emod_of_nonneg (by omega)
      have v3 : IntKind.i64.wrap ((s[k].toNat : Int) / 16) = (s[k].toNat : Int) / 16 := IntWalk.i64_in _ ⟨by omega, by omega⟩
      have v4 : IntKind.i64.wrap ((s[k].toNat : Int) % 16) = (s[k].toNat : Int) % 16 := IntWalk.i64_in _ ⟨by omega, by omega⟩
      go_wp2
      go_region_held3 (fun w' => True) (trivial) ((first | (go_at_call 22; refine (digit_any _ _ (by omega) (by omega)).mono ?_; rintro e w' ⟨rfl, rfl⟩) | (refine step_append_lies _ (by rfl) (.tmp 12) (.tmp 25) 36 (by rfl) w.heap.size 5 i0 (.int .u8 0) 1 1 Try.underlying36 hi hz0 hz1 hz2 rfl (by decide) _ (2 * k) _ (by rfl) (hown.alloc _).drew ⟨wr.heap.size, 0, none⟩ 2 2 _ (by rfl) (by rfl) (news_two _ _ _ _) (two_u8 _ _) (by decide) (by unfold maxLen; omega) (by omega) (by simp; omega) (wr.heap.size + 1) (by simp) ?_; intro g cap w1 hown1 hgrow hat hlt1)))
      all_goals
        rw [hex_row' s k hlt] at hown1
        have hb1 := below_appd hb hown hgrow
        clear hown hgrow hat hlt1 hb z1 v0 v1 v2 v3 v4
        go_wp2
        go_roundw
        case rel => exact ⟨k + 1, by omega, by go_num, hown1, by simp, hb1⟩
        case measure => simp [intOf]; omega
    · obtain rfl : k = s.size := by omega
      have hcv := conv_own (P := Try.prog) wr 36 9 5 w.heap.size (2 * s.size) _ (hexL (s.data.toList.take s.size)) Try.underlying36 Try.underlying5 Try.underlying9 (by rw [hexL_length, List.length_take]; have : s.data.toList.length = s.size := rfl; omega) hown hne
      rw [show s.data.toList.take s.size = s.data.toList from List.take_of_length_le (Nat.le_refl _)] at hcv
      clear hown
      go_wp2
      go_ret
      exact ⟨rfl, hb⟩

set_option maxHeartbeats 400000 in
theorem law_enchex (s : ByteArray) (w : World) :
    Calls Try.prog 7 #[.string s] w fun e w' => e = .returned (.bool true) ∧ Below w.heap.size w w' := by
  by_cases hb : 1048576 < s.size
  · go_enter Try.func7, Try.ntmps7
    go_wp2_with fail
    go_ret
    exact ⟨rfl, Below.refl _ _⟩
  · go_enter Try.func7, Try.ntmps7
    go_wp2_with fail
    refine (seh_any _ _ (by omega)).mono ?_
    rintro e w1 ⟨rfl, hb1⟩
    go_wp2_with fail
    refine (ieh_any _ _ (by omega)).mono ?_
    rintro e w2 ⟨rfl, hb2⟩
    go_wp2
    go_ret
    exact ⟨rfl, below_two hb1 hb2⟩
end Go.Proofs.Ytmpoonecobepcaa.C
