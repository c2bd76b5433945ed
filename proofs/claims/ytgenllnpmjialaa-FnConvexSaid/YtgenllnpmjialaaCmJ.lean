/-
  The contracts of impl.LeastVector and GreatestVector.
-/
import Derived.Test.YtgenllnpmjialaaCmI
namespace Go.Proofs.Ytgenllnpmjialaa.C
open Go.RowKit K M
set_option linter.unusedVariables false
set_option linter.unusedSimpArgs false


section

variable (A : Option Addr) (xs : List Int) (cap : Nat) (D : Option Addr) (ys : List Int) (dap : Nat) (w : World) (h : Hid (Ints w w.heap.size A xs)) (g : Hid (Ints w w.heap.size D ys)) (hx : xs.length ≤ 1048576) (hy : ys.length ≤ 1048576)
include h g hx hy
theorem leastI_any : Calls Try.prog 14 #[.slice A xs.length cap, .slice D ys.length dap] w (RetIB w (leastV xs ys).1 (leastV xs ys).2) := by
  have HC : Hid (Calls Try.prog 37 #[.slice A xs.length cap, .slice D ys.length dap, .func (.func 38) #[] #[]] w (RetIB w (leastV xs ys).1 (leastV xs ys).2)) := by
    unfold leastV
    cases hf : fitV xs ys
    · exact combI_no A xs cap D ys dap w h g hx hy _ hf
    · exact combI_yes A xs cap D ys dap w h g hx hy 38 (enters_of Try.func38 (by kernel_rfl) rfl) (fun k => min (xs.getD k 0) (ys.getD k 0)) hf fun k _ W => lesserI _ _ W
  generalize (leastV xs ys).1 = zs at HC ⊢
  generalize (leastV xs ys).2 = z at HC ⊢
  go_enter Try.func14, Try.ntmps14
  go_wp2_with (go_at_call 37; refine HC.out.mono ?_; rintro e w' ⟨V, c, rfl, ho, hb⟩; have HO := Lib.hid ho; have HB := Lib.hid hb; clear ho hb)
  go_ret2
  exact ⟨V, c, rfl, HO.out, HB.out⟩

theorem greatI_any : Calls Try.prog 15 #[.slice A xs.length cap, .slice D ys.length dap] w (RetIB w (greatV xs ys).1 (greatV xs ys).2) := by
  have HC : Hid (Calls Try.prog 37 #[.slice A xs.length cap, .slice D ys.length dap, .func (.func 39) #[] #[]] w (RetIB w (greatV xs ys).1 (greatV xs ys).2)) := by
    unfold greatV
    cases hf : fitV xs ys
    · exact combI_no A xs cap D ys dap w h g hx hy _ hf
    · exact combI_yes A xs cap D ys dap w h g hx hy 39 (enters_of Try.func39 (by kernel_rfl) rfl) (fun k => max (xs.getD k 0) (ys.getD k 0)) hf fun k _ W => greaterI _ _ W
  generalize (greatV xs ys).1 = zs at HC ⊢
  generalize (greatV xs ys).2 = z at HC ⊢
  go_enter Try.func15, Try.ntmps15
  go_wp2_with (go_at_call 37; refine HC.out.mono ?_; rintro e w' ⟨V, c, rfl, ho, hb⟩; have HO := Lib.hid ho; have HB := Lib.hid hb; clear ho hb)
  go_ret2
  exact ⟨V, c, rfl, HO.out, HB.out⟩

end


end Go.Proofs.Ytgenllnpmjialaa.C
