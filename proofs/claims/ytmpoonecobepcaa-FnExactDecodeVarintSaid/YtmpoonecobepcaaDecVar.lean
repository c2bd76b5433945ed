/-
  The law that compares spec.DecodeVarint and impl.DecodeVarint.
-/
import Derived.Test.YtmpoonecobepcaaDecVarI
import Derived.Test.YtmpoonecobepcaaDecVarS
namespace Go.Proofs.Ytmpoonecobepcaa.C
open Go.RowKit M K
set_option linter.unusedVariables false

set_option maxHeartbeats 400000 in
theorem law_decvar (s : ByteArray) (w : World) (h4 : s.size ≤ 9223372036854775807) :
    Calls Try.prog 6 #[.string s] w fun e w' => e = .returned (.bool true) ∧ Below w.heap.size w w' := by
  by_cases hb : 1048576 < s.size
  · go_enter Try.func6, Try.ntmps6
    go_wp2_with fail
    go_ret
    exact ⟨rfl, Below.refl _ _⟩
  · by_cases h : ∃ k, 1 ≤ k ∧ k ≤ 7 ∧ k ≤ s.size ∧ OkAt s.data.toList k
    · obtain ⟨k, h1, h2, h3, hok⟩ := h
      have HOK := Lib.hid hok
      clear hok
      go_enter Try.func6, Try.ntmps6
      go_wp2_with fail
      refine (sdv_yes _ k _ h1 h2 h3 h4 HOK.out).mono ?_
      rintro e w1 ⟨rfl, hb1⟩
      go_wp2_with fail
      refine (idv_yes _ k _ h1 h2 h3 h4 HOK.out).mono ?_
      rintro e w2 ⟨rfl, hb2⟩
      go_wp2
      go_ret
      exact ⟨rfl, below_two hb1 hb2⟩
    · have hno : ∀ k, 1 ≤ k → k ≤ 7 → k ≤ s.size → ¬ OkAt s.data.toList k := fun k a b c d => h ⟨k, a, b, c, d⟩
      have HNO := Lib.hid hno
      clear hno h
      go_enter Try.func6, Try.ntmps6
      go_wp2_with fail
      refine (sdv_no _ _ h4 HNO.out).mono ?_
      rintro e w1 ⟨rfl, hb1⟩
      go_wp2_with fail
      refine (idv_no _ _ h4 HNO.out).mono ?_
      rintro e w2 ⟨rfl, hb2⟩
      go_wp2
      go_ret
      exact ⟨rfl, below_two hb1 hb2⟩
end Go.Proofs.Ytmpoonecobepcaa.C
