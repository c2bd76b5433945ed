/-
  The contracts of spec.EncodeHex, impl.EncodeHex.
-/
import Derived.Test.YtmpoonecobepcaaDoorMathH
import Derived.Test.YtmpoonecobepcaaDoorEncFix
import Derived.Outline
import Derived.Deep.RegionHeld3
import Derived.Deep.AppendLies
namespace Go.Proofs.YtmpoonecobepcaaDoor.C
open Go.RowKit M K
set_option linter.unusedVariables false

theorem hex_row (s : ByteArray) (k : Nat) (hk : k < s.size) (h1 : ((s[k].toNat : Int) / 16).toNat < (⟨#[48, 49, 50, 51, 52, 53, 54, 55, 56, 57, 97, 98, 99, 100, 101, 102]⟩ : ByteArray).size) (h2 : ((s[k].toNat : Int) % 16).toNat < (⟨#[48, 49, 50, 51, 52, 53, 54, 55, 56, 57, 97, 98, 99, 100, 101, 102]⟩ : ByteArray).size) :
    cellsOf (hexL (s.data.toList.take k)) ++ [.int .u8 (((⟨#[48, 49, 50, 51, 52, 53, 54, 55, 56, 57, 97, 98, 99, 100, 101, 102]⟩ : ByteArray)[((s[k].toNat : Int) / 16).toNat]'h1).toNat : Int), .int .u8 (((⟨#[48, 49, 50, 51, 52, 53, 54, 55, 56, 57, 97, 98, 99, 100, 101, 102]⟩ : ByteArray)[((s[k].toNat : Int) % 16).toNat]'h2).toNat : Int)]
    = cellsOf (hexL (s.data.toList.take (k + 1))) := by
  have hc := s[k].toNat_lt
  rw [take_snoc s k hk, hexL_snoc, cellsOf_append, dg_lit (s[k].toNat / 16) _ (by omega) (by omega) h1, dg_lit (s[k].toNat % 16) _ (by omega) (by omega) h2]
  rfl

set_option maxRecDepth 100000 in
set_option maxHeartbeats 800000 in
theorem ieh_any (s : ByteArray) (w : World) (h4 : s.size ≤ 1048576) :
    Calls Tryd.prog 15 #[.string s] w fun e w' => e = .returned (.string ⟨(hexL s.data.toList).toArray⟩) ∧ Below w.heap.size w w' := by
  obtain ⟨i0, hi, hz0, hz1, hz2⟩ := info_parts info_u8
  go_enter Tryd.func15, Tryd.ntmps15
  go_wp2_with (at_make; refine wpList_make_own _ rfl _ _ 22 rfl w.heap.size 5 i0 (.int .u8 0) 1 Tryd.underlying22 hi hz0 hz1 _ _ _ (2 * s.size) rfl rfl (by simp) ?b2 ?b3 (Nat.le_refl _) ?_)
  case b2 => rw [hz2]; omega
  case b3 => unfold maxLen; omega
  intro w0 hown0 hgrow0
  go_wp2
  go_loopw [3, 4, 11] (fun o _ c wr => ∃ k : Nat, k ≤ s.size ∧ c = .int .i64 k ∧ wr.ownsRow w.heap.size 5 1 o (2 * k) (cellsOf (hexL (s.data.toList.take k))) ∧ (¬ o = .slice none 0 0) ∧ Below w.heap.size w wr) (fun _ _ c _ => s.size - (intOf c).toNat)
  case atStart => exact ⟨0, Nat.zero_le _, rfl, hown0, by simp, (Below.refl _ _).grown hgrow0 (Nat.le_refl _) (fun k h => by cases h)⟩
  case round =>
    obtain ⟨k, hk, rfl, hown, hne, hb⟩ := hrel
    by_cases hlt : k < s.size
    · have c1 : (s[k].toNat : Int) ≤ 255 := by have := s[k].toNat_lt; omega
      have k0 : (0 : Int) ≤ (k : Int) := by omega
      have k1 : (k : Int) < s.size := by omega
      have ha : bits .and .u8 (s[k].toNat : Int) 15 = (s[k].toNat : Int) % 16 := bits_mask .u8 8 (by decide) wraps_u8 4 (by decide) _ (by omega) (by omega)
      have q0 : 0 ≤ (s[k].toNat : Int) / 16 := by omega
      have q1 : (s[k].toNat : Int) / 16 < 16 := by omega
      go_wp2
      have q2 : 0 ≤ (s[k].toNat : Int) % 16 := by omega
      have q3 : (s[k].toNat : Int) % 16 < 16 := by omega
      have z1 : w.heap.size ≤ wr.heap.size := hb.size
      go_region_held3 (fun w' => True) (trivial) ((refine step_append_lies _ (by rfl) (.tmp 14) (.tmp 25) 22 (by rfl) w.heap.size 5 i0 (.int .u8 0) 1 1 Tryd.underlying22 hi hz0 hz1 hz2 rfl (by decide) _ (2 * k) _ (by rfl) (hown.alloc _).drew ⟨wr.heap.size, 0, none⟩ 2 2 _ (by rfl) (by rfl) (news_two _ _ _ _) (two_u8 _ _) (by decide) (by unfold maxLen; omega) (by omega) (by simp; omega) (wr.heap.size + 1) (by simp) ?_; intro g cap w1 hown1 hgrow hat hlt1))
      all_goals
        rw [hex_row s k hlt] at hown1
        have hb1 := below_appd hb hown hgrow
        clear hown hgrow hat hlt1 hb z1 ha
        go_wp2
        go_roundw
        case rel => exact ⟨k + 1, by omega, by go_num, hown1, by simp, hb1⟩
        case measure => simp [intOf]; omega
    · obtain rfl : k = s.size := by omega
      have hcv := conv_own (P := Tryd.prog) wr 22 9 5 w.heap.size (2 * s.size) _ (hexL (s.data.toList.take s.size)) Tryd.underlying22 Tryd.underlying5 Tryd.underlying9 (by rw [hexL_length, List.length_take]; have : s.data.toList.length = s.size := rfl; omega) hown hne
      rw [show s.data.toList.take s.size = s.data.toList from List.take_of_length_le (Nat.le_refl _)] at hcv
      clear hown
      go_wp2
      go_ret
      exact ⟨rfl, hb⟩

end Go.Proofs.YtmpoonecobepcaaDoor.C
