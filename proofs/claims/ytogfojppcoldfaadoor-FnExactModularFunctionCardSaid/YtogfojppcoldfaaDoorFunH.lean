/-
  The contracts of the law's own helpers on functions (a number and a list): size, copy, comparison, marks.
-/
import Derived.Test.YtogfojppcoldfaaDoorLists
import Derived.Test.YtogfojppcoldfaaDoorSt
namespace Go.Proofs.YtogfojppcoldfaaDoor.C
open Go.RowKit K
set_option linter.unusedVariables false
set_option linter.unusedSimpArgs false

set_option maxHeartbeats 800000 in
theorem eqFun_same (n : Int) (A C : Option Addr) (xs : List Int) (cap dap : Nat) (w : World) (h : Hid (Ints w w.heap.size A xs)) (g : Hid (Ints w w.heap.size C xs)) (hn : xs.length ≤ 9223372036854775807) :
    Calls Tryd.prog 7 #[.agg #[.int .i64 n, .slice A xs.length cap], .agg #[.int .i64 n, .slice C xs.length dap]] w (RetV w (.bool true)) := by
  go_enter Tryd.func7, Tryd.ntmps7
  go_wp2_with fail
  refine St.use (w0 := w) (L := ?L) ?sa ?sb
  case sa => exact ((St.start w).alloc _ _).alloc _ _
  intro hS
  refine (eqInts_same A C xs cap dap _ (Lib.hid ((h.out.below hS.base).mono hS.size)) (Lib.hid ((g.out.below hS.base).mono hS.size)) hn).mono ?_
  rintro e w1 ⟨rfl, m, rfl⟩
  have HS := Lib.hid (hS.drewN m)
  clear hS
  go_wp2
  go_ret
  exact ⟨rfl, HS.out.base⟩

set_option maxHeartbeats 800000 in
theorem markFun_any (n : Int) (A : Option Addr) (xs : List Int) (cap lo : Nat) (k : Int) (w : World) (h : Hid (Own w lo (.slice A xs.length cap) xs)) (h0 : 0 ≤ k) (hk : k ≤ 4611686018427387904) (hn : xs.length ≤ 1048576) :
    Calls Tryd.prog 10 #[.agg #[.int .i64 n, .slice A xs.length cap], .int .i64 k] w fun e w' => e = .returned (.int .i64 (k + xs.length)) ∧ OwnN w' lo (.slice A xs.length cap) xs.length (iota k xs.length) ∧ w.grownBy w' (Value.ownBlock (.slice A xs.length cap)) := by
  go_enter Tryd.func10, Tryd.ntmps10
  go_wp2_with fail
  refine (markInts_any A xs cap lo k _ (Lib.hid (h.out.below ((Below.refl _ _).alloc (Nat.le_refl _) _))) h0 hk hn).mono ?_
  rintro e w1 ⟨rfl, ho, hg⟩
  have HO := Lib.hid ho
  have HG := Lib.hid (World.grownBy.trans (World.grownBy_alloc w _ _) hg)
  clear ho hg
  go_wp2
  go_ret
  exact ⟨rfl, HO.out, HG.out⟩

set_option maxHeartbeats 800000 in
theorem heldFun_any (n : Int) (A : Option Addr) (m cap : Nat) (k : Int) (w : World) (h : Hid (Ints w w.heap.size A (iota k m))) (h0 : 0 ≤ k) (hk : k ≤ 4611686018427387904) (hn : m ≤ 1048576) :
    Calls Tryd.prog 11 #[.agg #[.int .i64 n, .slice A m cap], .int .i64 k] w (RetV w (.int .i64 (k + m))) := by
  go_enter Tryd.func11, Tryd.ntmps11
  go_wp2_with fail
  refine (heldInts_any A m cap k _ (Lib.hid ((h.out.below ((Below.refl _ _).alloc (Nat.le_refl _) _)).mono (by simp))) h0 hk hn).mono ?_
  rintro e w1 ⟨rfl, rfl⟩
  go_wp2
  go_ret
  exact ⟨rfl, (Below.refl _ _).alloc (Nat.le_refl _) _⟩

end Go.Proofs.YtogfojppcoldfaaDoor.C
