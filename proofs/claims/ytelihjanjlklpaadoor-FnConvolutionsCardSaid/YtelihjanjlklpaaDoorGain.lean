/-
  The contracts of GainOf and EqualFunctions, spec and impl.
-/
import Derived.Test.YtelihjanjlklpaaDoorVal
import Derived.Test.YtelihjanjlklpaaDoorLists
namespace Go.Proofs.YtelihjanjlklpaaDoor.C
open Go.RowKit K M
set_option linter.unusedVariables false
set_option linter.unusedSimpArgs false

/-- Whether two functions are equal in every field. -/
def eqFn (n : Int) (xs : List Int) (m : Int) (ys : List Int) : Bool := decide (n = m) && decide (xs = ys)


theorem eqS_num (n : Int) (A : Option Addr) (xs : List Int) (cap : Nat) (n2 : Int) (A2 : Option Addr) (ys : List Int) (cap2 : Nat) (w : World) (h : Hid (Ints w w.heap.size A xs)) (g : Hid (Ints w w.heap.size A2 ys)) (hl : xs.length ≤ 9223372036854775807) (hn : n ≠ n2) : Calls Tryd.prog 9 #[.agg #[.int .i64 n, .slice A xs.length cap], .agg #[.int .i64 n2, .slice A2 ys.length cap2]] w (RetV w (.bool false)) := by
  have h1 : (n == n2) = false := beq_eq_false_iff_ne.2 hn
  clear hn
  have HW := Lib.hid (St.start w)
  go_enter Tryd.func9, Tryd.ntmps9
  go_wp2
  go_ret
  exact ⟨rfl, ((HW.out.alloc _ _).alloc _ _).base⟩

set_option maxRecDepth 100000 in
theorem eqS_yes (n : Int) (A : Option Addr) (xs : List Int) (cap : Nat) (A2 : Option Addr) (cap2 : Nat) (w : World) (h : Hid (Ints w w.heap.size A xs)) (g : Hid (Ints w w.heap.size A2 xs)) (hl : xs.length ≤ 9223372036854775807) : Calls Tryd.prog 9 #[.agg #[.int .i64 n, .slice A xs.length cap], .agg #[.int .i64 n, .slice A2 xs.length cap2]] w (RetV w (.bool true)) := by
  have HW := Lib.hid (St.start w)
  go_enter Tryd.func9, Tryd.ntmps9
  go_wp2_with fail
  refine St.use (w0 := w) (by exact (HW.out.alloc _ _).alloc _ _) ?_
  intro hS
  refine (same_yes A A2 xs cap cap2 _ (Lib.hid ((h.out.below hS.base).mono hS.size)) (Lib.hid ((g.out.below hS.base).mono hS.size)) hl).mono ?_
  rintro e w1 ⟨rfl, m, rfl⟩
  have HS := Lib.hid (hS.drewN m)
  clear hS
  go_wp2
  go_ret
  exact ⟨rfl, HS.out.base⟩

set_option maxRecDepth 100000 in
theorem eqS_no (n : Int) (A : Option Addr) (xs : List Int) (cap : Nat) (A2 : Option Addr) (ys : List Int) (cap2 : Nat) (w : World) (h : Hid (Ints w w.heap.size A xs)) (g : Hid (Ints w w.heap.size A2 ys)) (hl : xs.length ≤ 9223372036854775807) (hne : ¬ xs = ys) : Calls Tryd.prog 9 #[.agg #[.int .i64 n, .slice A xs.length cap], .agg #[.int .i64 n, .slice A2 ys.length cap2]] w (RetV w (.bool false)) := by
  have HW := Lib.hid (St.start w)
  have HN := Lib.hid hne
  clear hne
  go_enter Tryd.func9, Tryd.ntmps9
  go_wp2_with fail
  refine St.use (w0 := w) (by exact (HW.out.alloc _ _).alloc _ _) ?_
  intro hS
  refine (same_no A A2 xs ys cap cap2 _ (Lib.hid ((h.out.below hS.base).mono hS.size)) (Lib.hid ((g.out.below hS.base).mono hS.size)) hl HN.out).mono ?_
  rintro e w1 ⟨rfl, m, rfl⟩
  have HS := Lib.hid (hS.drewN m)
  clear hS
  go_wp2
  go_ret
  exact ⟨rfl, HS.out.base⟩

theorem eqS_any (n : Int) (A : Option Addr) (xs : List Int) (cap : Nat) (n2 : Int) (A2 : Option Addr) (ys : List Int) (cap2 : Nat) (w : World) (h : Hid (Ints w w.heap.size A xs)) (g : Hid (Ints w w.heap.size A2 ys)) (hl : xs.length ≤ 9223372036854775807) : Calls Tryd.prog 9 #[.agg #[.int .i64 n, .slice A xs.length cap], .agg #[.int .i64 n2, .slice A2 ys.length cap2]] w (RetV w (.bool (eqFn n xs n2 ys))) := by
  unfold eqFn
  by_cases hn : n = n2
  · subst hn
    by_cases hx : xs = ys
    · subst hx
      simpa using eqS_yes n A xs cap A2 cap2 w h g hl
    · simpa [hx] using eqS_no n A xs cap A2 ys cap2 w h g hl hx
  · simpa [hn] using eqS_num n A xs cap n2 A2 ys cap2 w h g hl hn



end Go.Proofs.YtelihjanjlklpaaDoor.C
