/-
  The contracts of impl.isVector, areVectors.
-/
import Derived.Test.YtgenllnpmjialaaVwI
import Derived.Test.YtgenllnpmjialaaAllM
namespace Go.Proofs.Ytgenllnpmjialaa.C
open Go.RowKit K M
set_option linter.unusedVariables false
set_option linter.unusedSimpArgs false

theorem isVecI_any (A : Option Addr) (ws : List Int) (cap : Nat) (w : World) (h : Hid (Ints w w.heap.size A ws)) (hl : ws.length ≤ 1048576) :
    Calls Try.prog 47 #[.slice A ws.length cap] w fun e w' => e = .returned (.bool (isVec ws)) ∧ w = w' := by
  by_cases h5 : ws.length ≤ 5
  · have hg : (ws.length : Int) ≤ 5 := by omega
    by_cases hv : ∀ k, k < ws.length → -1000 ≤ ws.getD k 0 ∧ ws.getD k 0 ≤ 1000
    · have HC := Lib.hid (areI_yes A ws cap w h hl hv)
      rw [isVec_good hv, decide_eq_true h5]
      clear hv h
      go_enter Try.func47, Try.ntmps47
      go_wp2_with (go_at_call 60; refine HC.out.mono ?_; rintro e w' ⟨rfl, rfl⟩)
      go_ret
      exact ⟨rfl, rfl⟩
    · obtain ⟨j, hj, hb, hk⟩ := vec_bad hv
      have HC := Lib.hid (areI_no A ws cap w h hl j hj hb hk)
      rw [isVec_bad hj hb]
      clear hv h hb hk hj
      go_enter Try.func47, Try.ntmps47
      go_wp2_with (go_at_call 60; refine HC.out.mono ?_; rintro e w' ⟨rfl, rfl⟩)
      go_ret
      exact ⟨rfl, rfl⟩
  · have hg : ¬ (ws.length : Int) ≤ 5 := by omega
    have e : isVec ws = false := by unfold isVec; rw [decide_eq_false h5, Bool.false_and]
    rw [e]
    clear h e
    go_enter Try.func47, Try.ntmps47
    go_wp2
    go_ret
    exact ⟨rfl, rfl⟩


section

variable (A : Option Addr) (xs : List Int) (cap : Nat) (D : Option Addr) (ys : List Int) (dap : Nat) (w : World) (h : Hid (Ints w w.heap.size A xs)) (g : Hid (Ints w w.heap.size D ys)) (hx : xs.length ≤ 1048576) (hy : ys.length ≤ 1048576)
include h g hx hy
theorem areVecI_any : Calls Try.prog 53 #[.slice A xs.length cap, .slice D ys.length dap] w fun e w' => e = .returned (.bool (fitV xs ys)) ∧ w = w' := by
  have HA := Lib.hid (isVecI_any A xs cap w h hx)
  have HD := Lib.hid (isVecI_any D ys dap w g hy)
  unfold fitV
  by_cases hl : xs.length = ys.length
  · have hli : ((xs.length : Int) == (ys.length : Int)) = true := beq_iff_eq.2 (by omega)
    have hd : decide (xs.length = ys.length) = true := decide_eq_true hl
    rw [hd]
    clear hl hd
    cases e1 : isVec xs
    · rw [e1] at HA
      go_enter Try.func53, Try.ntmps53
      go_wp2_with (go_at_call_of 47 (Value.slice A xs.length cap); refine HA.out.mono ?_; rintro e w' ⟨rfl, rfl⟩)
      go_ret
      exact ⟨rfl, rfl⟩
    · rw [e1] at HA
      cases e2 : isVec ys
      all_goals rw [e2] at HD
      all_goals go_enter Try.func53, Try.ntmps53
      all_goals go_wp2_with (first | (go_at_call_of 47 (Value.slice A xs.length cap); refine HA.out.mono ?_; rintro e w' ⟨rfl, rfl⟩) | (go_at_call_of 47 (Value.slice D ys.length dap); refine HD.out.mono ?_; rintro e w' ⟨rfl, rfl⟩))
      all_goals go_ret
      all_goals exact ⟨rfl, rfl⟩
  · have hli : ((xs.length : Int) == (ys.length : Int)) = false := beq_eq_false_iff_ne.2 (by omega)
    have hd : decide (xs.length = ys.length) = false := decide_eq_false hl
    rw [hd, Bool.and_false, Bool.and_false]
    clear hl hd
    go_enter Try.func53, Try.ntmps53
    go_wp2
    go_ret
    exact ⟨rfl, rfl⟩

end


end Go.Proofs.Ytgenllnpmjialaa.C
