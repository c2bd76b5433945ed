/-
  The contracts of the law's own helpers on functions (a number and a list): size, copy, comparison, marks.
-/
import Derived.Test.YtlbefommcahkeaaLists
import Derived.Test.YtlbefommcahkeaaSt
namespace Go.Proofs.Ytlbefommcahkeaa.C
open Go.RowKit K
set_option linter.unusedVariables false
set_option linter.unusedSimpArgs false

theorem szFun_ok (n : Int) (A : Option Addr) (m cap : Nat) (left : Int) (w : World) (h : (m : Int) ≤ left) (hl : left ≤ 1048576) :
    Calls Try.prog 7 #[.agg #[.int .i64 n, .slice A m cap], .int .i64 left] w fun e w' => e = .returned (.int .i64 (left - m)) ∧ Below w.heap.size w w' := by
  go_enter Try.func7, Try.ntmps7
  go_wp2_with (go_at_call 23; refine (szInts_ok A m cap left _ h hl).mono ?_; rintro e w' ⟨rfl, rfl⟩)
  go_ret
  exact ⟨rfl, (Below.refl _ _).alloc (Nat.le_refl _) _⟩

theorem szFun_over (n : Int) (A : Option Addr) (m cap : Nat) (left : Int) (w : World) (h : left < (m : Int)) (h0 : 0 ≤ left) (hm : m ≤ 9223372036854775807) :
    Calls Try.prog 7 #[.agg #[.int .i64 n, .slice A m cap], .int .i64 left] w fun e w' => e = .returned (.int .i64 (-1)) ∧ Below w.heap.size w w' := by
  go_enter Try.func7, Try.ntmps7
  go_wp2_with (go_at_call 23; refine (szInts_over A m cap left _ h h0 hm).mono ?_; rintro e w' ⟨rfl, rfl⟩)
  go_ret
  exact ⟨rfl, (Below.refl _ _).alloc (Nat.le_refl _) _⟩

set_option maxHeartbeats 800000 in
theorem toFun_any (n : Int) (A : Option Addr) (xs : List Int) (cap : Nat) (w : World) (h : Hid (Ints w w.heap.size A xs)) (hn : xs.length ≤ 1048576) :
    Calls Try.prog 9 #[.agg #[.int .i64 n, .slice A xs.length cap]] w (RetF w n xs) := by
  go_enter Try.func9, Try.ntmps9
  go_wp2_with fail
  refine St.use (w0 := w) (L := ?L) ?sa ?sb
  case sa => exact (((St.start w).alloc _ _).alloc _ _).alloc _ _
  intro hS
  simp only [World.size_alloc] at hS
  refine (toInts_any A xs cap _ (Lib.hid ((h.out.below hS.base).mono hS.size)) hn).mono ?_
  rintro e w1 ⟨A1, c1, rfl, ho, hb⟩
  have hS1 := hS.newI hb ho
  obtain ⟨p1, q1⟩ := hS1.box (i := 1) rfl
  have p10 := p1 0 _ rfl
  have p11 := p1 1 _ rfl
  have q11 := q1 1
  obtain ⟨p2, q2⟩ := hS1.box (i := 2) rfl
  have p20 := p2 0 _ rfl
  have p21 := p2 1 _ rfl
  have q20 := q2 0
  have q21 := q2 1
  have HO := Lib.hid (hS1.ownI (i := 0) rfl)
  clear p1 q1 p2 q2 hS ho hb
  have HS1 := Lib.hid hS1
  clear hS1
  go_wp2
  have hS2 := ((HS1.out.store (i := 1) rfl 1 (.slice A1 xs.length c1)).store (i := 2) rfl 0 (.int .i64 n)).store (i := 2) rfl 1 (.slice A1 xs.length c1)
  exact bodyPost_ret (v := .agg #[.int .i64 n, .slice A1 xs.length c1]) (by simp [results, Try.results9, go_sem, p10, p11, p20, p21, q11, q20, q21]) rfl ⟨A1, c1, rfl, hS2.ownI (i := 0) rfl, hS2.base⟩

set_option maxHeartbeats 800000 in
theorem eqFun_same (n : Int) (A C : Option Addr) (xs : List Int) (cap dap : Nat) (w : World) (h : Hid (Ints w w.heap.size A xs)) (g : Hid (Ints w w.heap.size C xs)) (hn : xs.length ≤ 9223372036854775807) :
    Calls Try.prog 13 #[.agg #[.int .i64 n, .slice A xs.length cap], .agg #[.int .i64 n, .slice C xs.length dap]] w (RetV w (.bool true)) := by
  go_enter Try.func13, Try.ntmps13
  go_wp2_with fail
  refine St.use (w0 := w) (L := ?L) ?sa ?sb
  case sa => exact ((St.start w).alloc _ _).alloc _ _
  intro hS
  refine (eqInts_same A C xs cap dap _ (Lib.hid ((h.out.below hS.base).mono hS.size)) (Lib.hid ((g.out.below hS.base).mono hS.size)) hn).mono ?_
  rintro e w1 ⟨rfl, m, rfl⟩
  have HS := Lib.hid (hS.drewN m)
  clear hS
  go_wp2
  go_ret
  exact ⟨rfl, HS.out.base⟩

set_option maxHeartbeats 800000 in
theorem markFun_any (n : Int) (A : Option Addr) (xs : List Int) (cap lo : Nat) (k : Int) (w : World) (h : Hid (Own w lo (.slice A xs.length cap) xs)) (h0 : 0 ≤ k) (hk : k ≤ 4611686018427387904) (hn : xs.length ≤ 1048576) :
    Calls Try.prog 14 #[.agg #[.int .i64 n, .slice A xs.length cap], .int .i64 k] w fun e w' => e = .returned (.int .i64 (k + xs.length)) ∧ OwnN w' lo (.slice A xs.length cap) xs.length (iota k xs.length) ∧ w.grownBy w' (Value.ownBlock (.slice A xs.length cap)) := by
  go_enter Try.func14, Try.ntmps14
  go_wp2_with fail
  refine (markInts_any A xs cap lo k _ (Lib.hid (h.out.below ((Below.refl _ _).alloc (Nat.le_refl _) _))) h0 hk hn).mono ?_
  rintro e w1 ⟨rfl, ho, hg⟩
  have HO := Lib.hid ho
  have HG := Lib.hid (World.grownBy.trans (World.grownBy_alloc w _ _) hg)
  clear ho hg
  go_wp2
  go_ret
  exact ⟨rfl, HO.out, HG.out⟩

end Go.Proofs.Ytlbefommcahkeaa.C
