/-
  The contracts of spec.IsSubmodular, IsGrounded, IsIncreasing, IsSupermodular, IsModular and IsPolymatroid.
-/
import Derived.Test.YtlfbgaapigcpjaaViolA
import Derived.Test.YtlfbgaapigcpjaaFunA
namespace Go.Proofs.Ytlfbgaapigcpjaa.C
open Go.RowKit K M
set_option linter.unusedVariables false
set_option linter.unusedSimpArgs false


section

variable (n : Int) (A : Option Addr) (xs : List Int) (cap : Nat) (w : World) (h : Hid (Ints w w.heap.size A xs))
include h

theorem subS_any : Calls Try.prog 50 #[.agg #[.int .i64 n, .slice A xs.length cap]] w (RetV w (.bool (isSub n xs))) := by
  have HW := Lib.hid (St.start w)
  unfold isSub
  obtain ⟨rx, rb, hr⟩ : ∃ rx rb, viol n xs = (rx, rb) := ⟨_, _, rfl⟩
  rw [hr]
  have hv := fun W (hW : Hid (Ints W W.heap.size A xs)) => violS_any n A xs cap W hW
  rw [hr] at hv
  have HV := Lib.hid hv
  clear hv hr
  obtain ⟨f, hf⟩ : ∃ f, isFn n xs = f := ⟨_, rfl⟩
  have hg := fun W (hW : Hid (Ints W W.heap.size A xs)) => isFnS_any n A xs cap W hW
  rw [hf] at hg ⊢
  have HG := Lib.hid hg
  clear hg hf
  dsimp only
  go_enter Try.func50, Try.ntmps50
  go_wp2_with fail
  refine St.use (w0 := w) (by exact HW.out.alloc _ _) ?_
  intro hS
  refine (HV.out _ (Lib.hid ((h.out.below hS.base).mono hS.size))).mono ?_
  rintro e w1 ⟨A1, c1, rfl, ho, hb⟩
  have hS1 := hS.below hb
  obtain ⟨b0, -⟩ := hS1.box (i := 0) rfl
  have b00 := b0 0 _ rfl
  have b01 := b0 1 _ rfl
  have HS1 := Lib.hid hS1
  clear hS hb b0 hS1 ho
  cases f <;> cases rb
  all_goals
    go_wp2_with (go_at_call 47; refine St.use (w0 := w) (by exact HS1.out) ?_; intro hS; refine (HG.out _ (Lib.hid ((h.out.below hS.base).mono hS.size))).mono ?_; rintro e w2 ⟨rfl, hb⟩; have HS2 := Lib.hid (hS.below hb); clear hS hb)
    go_ret
    exact ⟨rfl, HS2.out.base⟩

end


end Go.Proofs.Ytlfbgaapigcpjaa.C
