/-
  What the walks are told of the arguments that come in: a list, a function.
-/
import Derived.Test.YtffbiflgmlabaaaGreatDoorBase
import Derived.ProofKit
import Derived.OpenShut
import Derived.Lib.SmallJoins
import Derived.ChangeSlices
namespace Go.Proofs.YtffbiflgmlabaaaGreatDoor.K
open Go.RowKit Go.ChangeShapes Go.WideShapes Go.Joins
set_option linter.unusedVariables false


section

variable {H : Type} {enc : TypeId × Value → H} {W : World}

theorem ints_in {base : Nat} {spare : Nat → Bool} {held : Bool} {fuel : Nat} {c : Value} {y : DataW H × List MemPlace} (h : DataW.trod enc Tryz.prog W base spare held fuel 24 [c] = some y) :
    ∃ (A : Option Addr) (xs : List Int) (cap : Nat), c = .slice A xs.length cap ∧ xs.length ≤ 9223372036854775807 ∧ Ints W W.heap.size A xs ∧ ∀ x ∈ xs, -9223372036854775808 ≤ x ∧ x ≤ 9223372036854775807 := by
  rcases open_ints Tryz.underlying24 Tryz.underlying3 (by kernel_rfl) h with ⟨hcs, _⟩ | ⟨x, l, cap, zs, hcs, _, hl, hm, hz, _, hcell, hwz⟩
  · injection hcs with hcs
    subst hcs
    exact ⟨none, [], 0, rfl, by simp, Ints.nil _ _ _, by simp⟩
  · injection hcs with hcs
    subst hcs
    have hlz : l ≤ zs.length := by
      rw [hz]; split <;> omega
    have hlen : (zs.take l).length = l := by rw [List.length_take]; omega
    refine ⟨some x, zs.take l, cap, by rw [hlen], by rw [hlen]; unfold maxLen at hm; omega, fun h0 => ?_, fun n hn => ?_⟩
    · rw [hlen] at h0
      obtain ⟨b, off, spot⟩ := x
      have hc := hcell 0 (by omega)
      have hspot : spot = none := by simpa [Addr.add] using World.cell?_spot hc
      subst hspot
      have hadd : ∀ i, (⟨b, off, none⟩ : Addr).add i = ⟨b, off + i, none⟩ := fun i => by unfold Addr.add; split <;> simp_all
      refine ⟨b, off, rfl, ?_, fun j hj => ?_⟩
      · rw [hadd 0] at hc
        exact World.block_lt_of_cell? W _ hc
      · rw [hlen] at hj
        rw [← hadd j, hcell j (by omega), getD_take (by omega)]
    · exact bounds_i64 (hwz n (List.mem_of_mem_take hn))


end



end Go.Proofs.YtffbiflgmlabaaaGreatDoor.K
