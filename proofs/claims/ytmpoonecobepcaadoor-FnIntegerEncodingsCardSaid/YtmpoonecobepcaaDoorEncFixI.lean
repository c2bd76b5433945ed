/-
  The contract of impl.EncodeFixed.
-/
import Derived.Test.YtmpoonecobepcaaDoorEncFixS
import Derived.Outline
import Derived.Laws.MakeOwn
namespace Go.Proofs.YtmpoonecobepcaaDoor.C
open Go.RowKit M K
set_option linter.unusedVariables false


set_option maxHeartbeats 400000 in
theorem ief_no (n m : Int) (w : World) (h : ¬ (1 ≤ m ∧ m ≤ 7 ∧ 0 ≤ n)) :
    Calls Tryd.prog 12 #[.int .i64 n, .int .i64 m] w fun e w' => e = .returned (.string ⟨#[]⟩) ∧ w = w' := by
  by_cases h1 : m < 1
  · go_enter Tryd.func12, Tryd.ntmps12
    go_wp2
    go_ret
    exact ⟨rfl, rfl⟩
  · by_cases h2 : 7 < m
    · go_enter Tryd.func12, Tryd.ntmps12
      go_wp2
      go_ret
      exact ⟨rfl, rfl⟩
    · have h3 : n < 0 := by omega
      go_enter Tryd.func12, Tryd.ntmps12
      go_wp2
      go_ret
      exact ⟨rfl, rfl⟩

/-- The row that impl.EncodeFixed fills, behind k rounds. -/
def fixRow (n : Int) (m k : Nat) : List Value := List.replicate (m - k) (.int .u8 0) ++ cellsOf (beL n k)

theorem fixRow_step (n : Int) (m k : Nat) (h : k < m) : (fixRow n m k).set (m - 1 - k) (.int .u8 (n / 2 ^ (8 * k) % 256)) = fixRow n m (k + 1) := by
  rw [two_pow]
  unfold fixRow
  rw [set_next m k _ _ _ h]
  simp only [cellsOf, beL, List.map_cons, byte_back]

set_option maxHeartbeats 400000 in
theorem ief_yes (n : Int) (m : Nat) (w : World) (h1 : 1 ≤ m) (h2 : m ≤ 7) (h3 : 0 ≤ n) (h4 : n ≤ 9223372036854775807) :
    Calls Tryd.prog 12 #[.int .i64 n, .int .i64 m] w fun e w' => e = .returned (.string ⟨(efL n m).toArray⟩) ∧ Below w.heap.size w w' := by
  have d1 : decide ((m : Int) < 1) = false := by simp; omega
  have d2 : decide (7 < (m : Int)) = false := by simp; omega
  have d3 : decide (n < 0) = false := by simp; omega
  obtain ⟨i0, hi, hz0, hz1, hz2⟩ := info_parts info_u8
  by_cases h0 : n / 256 ^ m = 0
  · have d4 : (n / 2 ^ (8 * m) != 0) = false := by rw [two_pow, h0]; rfl
    have H0 := Lib.hid h0
    clear h0
    go_enter Tryd.func12, Tryd.ntmps12
    go_wp2_with (at_make; refine wpList_make_full _ rfl _ _ 22 rfl w.heap.size 5 i0 (.int .u8 0) 1 Tryd.underlying22 hi hz0 hz1 _ _ _ _ m rfl rfl rfl rfl ?b2 ?b3 (Nat.le_refl _) ?_)
    case b2 => rw [hz2]; omega
    case b3 => unfold maxLen; omega
    intro w0 hown0 hgrow0
    rw [made_u8] at hown0
    go_wp2
    go_loopw [6, 28] (fun _ c wr => ∃ k : Nat, k ≤ m ∧ c = .int .i64 k ∧ wr.ownsRow w.heap.size 5 1 (.slice (some ⟨w.heap.size, 0, none⟩) m m) m (fixRow n m k) ∧ Below w.heap.size w wr)
                   (fun _ c _ => m - (intOf c).toNat)
    case atStart => exact ⟨0, Nat.zero_le _, rfl, by simpa [fixRow, cellsOf, beL] using hown0, (Below.refl _ _).grown hgrow0 (Nat.le_refl _) (fun k h => by cases h)⟩
    case round =>
      obtain ⟨k, hk, rfl, hown, hb⟩ := hrel
      obtain ⟨q0, q1, q2⟩ := quo_bd n k h3
      have q3 : n / 256 ^ k ≤ 9223372036854775807 := by omega
      clear q1 q2
      by_cases hlt : k < m
      · have hst := hown.stored (m - 1 - k) (.int .u8 (n / 2 ^ (8 * k) % 256))
        have hf := hown.frozenAt (m - 1 - k)
        have hce := hown.cellAt (m - 1 - k) (by omega)
        obtain ⟨v0, hv0⟩ : ∃ v0, (fixRow n m k)[m - 1 - k]? = some v0 := ⟨_, List.getElem?_eq_getElem (by rw [hown.1]; omega)⟩
        rw [hv0] at hce
        rw [fixRow_step n m k hlt] at hst
        have HST := Lib.hid hst
        clear hst hv0
        go_wp2
        go_roundw
        case rel => exact ⟨k + 1, by omega, by go_num, HST.out.1, hb.setCell (Nat.le_refl _) _⟩
        case measure => simp [intOf]; omega
      · obtain rfl : k = m := by omega
        have hcv := conv_row (P := Tryd.prog) wr 22 9 5 w.heap.size w.heap.size k k (beL n k) Tryd.underlying22 Tryd.underlying5 Tryd.underlying9 (beL_length n k) (by simpa [fixRow] using hown)
        go_wp2
        go_ret
        exact ⟨by unfold efL; rw [if_pos H0.out]; rfl, hb⟩
  · have d4 : (n / 2 ^ (8 * m) != 0) = true := by rw [two_pow]; simpa using h0
    have H0 := Lib.hid h0
    clear h0
    go_enter Tryd.func12, Tryd.ntmps12
    go_wp2
    go_ret
    exact ⟨by unfold efL; rw [if_neg H0.out]; rfl, Below.refl _ _⟩

end Go.Proofs.YtmpoonecobepcaaDoor.C
