/-
  The contracts of spec.EncodeVarint and impl.EncodeVarint, and of the law that compares them.
-/
import Derived.Test.YtmpoonecobepcaaDoorMathV
import Derived.Test.YtmpoonecobepcaaDoorEncFix
namespace Go.Proofs.YtmpoonecobepcaaDoor.C
open Go.RowKit M K
set_option linter.unusedVariables false

set_option maxHeartbeats 800000 in
theorem iev_yes (n : Int) (w : World) (h0 : 0 ≤ n) (h1 : n ≤ 562949953421311) :
    Calls Tryd.prog 9 #[.int .i64 n] w fun e w' => e = .returned (.string ⟨(encV 6 n).toArray⟩) ∧ Below w.heap.size w w' := by
  have d1 : decide (n < 0) = false := by simp; omega
  have d2 : decide (562949953421311 < n) = false := by simp; omega
  obtain ⟨i0, hi, hz0, hz1, hz2⟩ := info_parts info_u8
  go_enter Tryd.func9, Tryd.ntmps9
  go_wp2
  go_loopw [0, 3] (fun v o wr => ∃ (m : Int) (acc : List UInt8), v = .int .i64 m ∧ Var n acc m ∧ wr.ownsRow w.heap.size 5 1 o acc.length (cellsOf acc) ∧ Below w.heap.size w wr)
                 (fun v _ _ => (intOf v).toNat)
  case atStart => exact ⟨n, [], rfl, Var.start n h0 h1, World.ownsRow_nil w _ _ _, Below.refl _ _⟩
  case round =>
    obtain ⟨m, acc, rfl, hv, hown, hb⟩ := hrel
    obtain ⟨b0, b1, b2⟩ := hv.bounds
    by_cases hlt : 128 ≤ m
    · have ha : bits .and .i64 m 127 = m % 128 := i64_and127 m
      go_wp2_with (at_builtin; refine wpList_append_own _ rfl (.tmp 12) (.tmp 17) 22 rfl w.heap.size 5 i0 (.int .u8 0) 1 1 Tryd.underlying22 hi hz0 hz1 hz2 rfl (by decide) _ acc.length (cellsOf acc) rfl (hown.alloc _) ⟨wr.heap.size, 0, none⟩ 1 1 [.int .u8 (m % 128 + 128)] rfl rfl (news_one _ _ _) (one_u8 _) ?c3 ?c4 ?c5 ?_)
      case c3 => unfold maxLen; omega
      case c4 => omega
      case c5 => have := hb.size; simp; omega
      intro v1 w1 hown1 hgrow1 _
      rw [cellsOf_snoc acc _ (by omega) (by omega)] at hown1
      have hb1 := below_app hb hown hgrow1
      have hv1 := hv.step hlt
      clear ha hown hgrow1 hb hv
      go_wp2
      go_roundw
      case rel => exact ⟨m / 128, _, rfl, hv1, by simpa using hown1, hb1⟩
      case measure => simp [intOf]; omega
    · go_wp2_with (at_builtin; refine wpList_append_own _ rfl (.tmp 21) (.tmp 24) 22 rfl w.heap.size 5 i0 (.int .u8 0) 1 1 Tryd.underlying22 hi hz0 hz1 hz2 rfl (by decide) _ acc.length (cellsOf acc) rfl (hown.alloc _) ⟨wr.heap.size, 0, none⟩ 1 1 [.int .u8 m] rfl rfl (news_one _ _ _) (one_u8 _) ?e3 ?e4 ?e5 ?_)
      case e3 => unfold maxLen; omega
      case e4 => omega
      case e5 => have := hb.size; simp; omega
      intro v1 w1 hown1 hgrow1 hn1
      rw [cellsOf_snoc acc _ (by omega) (by omega)] at hown1
      have hb1 := below_app hb hown hgrow1
      have hv1 := hv.stop (by omega)
      rw [hv1] at hown1
      have hl : (encV 6 n).length = acc.length + 1 := by rw [← hv1]; simp
      have hcv := conv_own (P := Tryd.prog) w1 22 9 5 w.heap.size (acc.length + 1) v1 (encV 6 n) Tryd.underlying22 Tryd.underlying5 Tryd.underlying9 hl hown1 hn1
      clear hv1 hl hown hgrow1 hb hv hown1 hn1
      go_wp2
      go_ret
      exact ⟨rfl, hb1⟩

set_option maxHeartbeats 400000 in
theorem iev_no (n : Int) (w : World) (h : ¬ (0 ≤ n ∧ n ≤ 562949953421311)) :
    Calls Tryd.prog 9 #[.int .i64 n] w fun e w' => e = .returned (.string ⟨#[]⟩) ∧ w = w' := by
  by_cases h1 : n < 0
  · go_enter Tryd.func9, Tryd.ntmps9
    go_wp2
    go_ret
    exact ⟨rfl, rfl⟩
  · have h2 : 562949953421311 < n := by omega
    go_enter Tryd.func9, Tryd.ntmps9
    go_wp2
    go_ret
    exact ⟨rfl, rfl⟩

end Go.Proofs.YtmpoonecobepcaaDoor.C
