/-
  The contracts of impl.isVector, areVectors.
-/
import Derived.Test.YtlbefommcahkeaaVwI
import Derived.Test.YtlbefommcahkeaaExM
namespace Go.Proofs.Ytlbefommcahkeaa.C
open Go.RowKit K M
set_option linter.unusedVariables false
set_option linter.unusedSimpArgs false

theorem isVecI_any (A : Option Addr) (ws : List Int) (cap : Nat) (w : World) (h : Hid (Ints w w.heap.size A ws)) (hl : ws.length ≤ 1048576) :
    Calls Try.prog 40 #[.slice A ws.length cap] w fun e w' => e = .returned (.bool (isVec ws)) ∧ w = w' := by
  by_cases h5 : ws.length ≤ 5
  · have hg : (ws.length : Int) ≤ 5 := by omega
    by_cases hv : ∀ k, k < ws.length → -1000 ≤ ws.getD k 0 ∧ ws.getD k 0 ≤ 1000
    · have HC := Lib.hid (areI_yes A ws cap w h hl hv)
      rw [isVec_good hv, decide_eq_true h5]
      clear hv h
      go_enter Try.func40, Try.ntmps40
      go_wp2_with (go_at_call 49; refine HC.out.mono ?_; rintro e w' ⟨rfl, rfl⟩)
      go_ret
      exact ⟨rfl, rfl⟩
    · obtain ⟨j, hj, hb, hk⟩ := vec_bad hv
      have HC := Lib.hid (areI_no A ws cap w h hl j hj hb hk)
      rw [isVec_bad hj hb]
      clear hv h hb hk hj
      go_enter Try.func40, Try.ntmps40
      go_wp2_with (go_at_call 49; refine HC.out.mono ?_; rintro e w' ⟨rfl, rfl⟩)
      go_ret
      exact ⟨rfl, rfl⟩
  · have hg : ¬ (ws.length : Int) ≤ 5 := by omega
    have e : isVec ws = false := by unfold isVec; rw [decide_eq_false h5, Bool.false_and]
    rw [e]
    clear h e
    go_enter Try.func40, Try.ntmps40
    go_wp2
    go_ret
    exact ⟨rfl, rfl⟩


section

end


end Go.Proofs.Ytlbefommcahkeaa.C
