/-
  The law 'FnExactNegativePart', walked: it returns true if the model and the program return the same values.
-/
import Derived.Test.YtffbiflgmlabaaaPtA
import Derived.Test.YtffbiflgmlabaaaAllM
import Derived.Test.YtffbiflgmlabaaaHeld
namespace Go.Proofs.Ytffbiflgmlabaaa.C
open Go.RowKit K M
set_option linter.unusedVariables false
set_option linter.unusedSimpArgs false

set_option maxRecDepth 100000 in
set_option maxHeartbeats 8000000 in
theorem law_NegativePart_in (A0 : Option Addr) (xs0 : List Int) (cap0 : Nat) (ri0 : Int) (rb1 : Bool) (w : World) (h0 : Hid (Ints w w.heap.size A0 xs0)) (ml0 : xs0.length ≤ 1048576)
    (hs : Hid (∀ (W : World) (A0 : Option Addr) (c0 : Nat), Below w.heap.size w W → Hid (Ints W W.heap.size A0 xs0) → Calls Try.prog 4 #[.slice A0 xs0.length c0] W (RetV W (.tuple #[.int .i64 ri0, .bool rb1]))))
    (hi : Hid (∀ (W : World) (A0 : Option Addr) (c0 : Nat), Below w.heap.size w W → Hid (Ints W W.heap.size A0 xs0) → Calls Try.prog 6 #[.slice A0 xs0.length c0] W (RetV W (.tuple #[.int .i64 ri0, .bool rb1])))) :
    Calls Try.prog 3 #[.slice A0 xs0.length cap0] w (RetV w (.bool true)) := by
  have HW := Lib.hid (St.start w)
  go_enter Try.func3, Try.ntmps3
  go_wp2_with fail
  refine St.use (w0 := w) (L := ?L1) ?sa1 ?sb1
  case sa1 => first | exact HW.out | exact (HW.out.drewN _) | exact HW.out.drew
  intro hS
  try simp only [World.size_alloc] at hS
  refine (toInts_any A0 xs0 cap0 _ (Lib.hid ((h0.out.below hS.base).mono hS.size)) (by omega)).mono ?_
  rintro e w1 ⟨A_p0, c_p0, rfl, ho, hb⟩
  have hS1 := hS.newI hb ho
  clear hS hb ho
  have HS1 := Lib.hid hS1
  clear hS1
  go_wp2_with fail
  refine St.use (w0 := w) (L := ?L2) ?sa2 ?sb2
  case sa2 => first | exact HS1.out | exact (HS1.out.drewN _) | exact HS1.out.drew
  intro hS
  try simp only [World.size_alloc] at hS
  refine (hs.out _ _ _ hS.base (Lib.hid (hS.ints (i := 0) rfl))).mono ?_
  rintro e w2 ⟨rfl, hb⟩
  have hS1 := hS.below hb
  clear hS hb
  have HS2 := Lib.hid hS1
  clear hS1
  go_wp2_with fail
  refine St.use (w0 := w) (L := ?L3) ?sa3 ?sb3
  case sa3 => first | exact HS2.out | exact (HS2.out.drewN _) | exact HS2.out.drew
  intro hS
  try simp only [World.size_alloc] at hS
  refine (toInts_any A0 xs0 cap0 _ (Lib.hid ((h0.out.below hS.base).mono hS.size)) (by omega)).mono ?_
  rintro e w3 ⟨A_x0, c_x0, rfl, ho, hb⟩
  have hS1 := hS.newI hb ho
  clear hS hb ho
  have HS3 := Lib.hid hS1
  clear hS1
  go_wp2_with fail
  refine St.use (w0 := w) (L := ?L4) ?sa4 ?sb4
  case sa4 => first | exact HS3.out | exact (HS3.out.drewN _) | exact HS3.out.drew
  intro hS
  try simp only [World.size_alloc] at hS
  refine (hi.out _ _ _ hS.base (Lib.hid (hS.ints (i := 0) rfl))).mono ?_
  rintro e w4 ⟨rfl, hb⟩
  have hS1 := hS.below hb
  clear hS hb
  have HS4 := Lib.hid hS1
  clear hS1
  go_wp2_with fail
  refine St.use (w0 := w) (L := ?L5) ?sa5 ?sb5
  case sa5 => first | exact HS4.out | exact (HS4.out.drewN _) | exact HS4.out.drew
  intro hS
  try simp only [World.size_alloc] at hS
  refine (toInts_any A0 xs0 cap0 _ (Lib.hid ((h0.out.below hS.base).mono hS.size)) (by omega)).mono ?_
  rintro e w5 ⟨A_y0, c_y0, rfl, ho, hb⟩
  have hS1 := hS.newI hb ho
  clear hS hb ho
  have HS5 := Lib.hid hS1
  clear hS1
  go_wp2_with fail
  refine St.use (w0 := w) (L := ?L6) ?sa6 ?sb6
  case sa6 => first | exact HS5.out | exact (HS5.out.drewN _) | exact HS5.out.drew
  intro hS
  try simp only [World.size_alloc] at hS
  refine (eqInts_same A_x0 A_y0 xs0 c_x0 c_y0 _ (Lib.hid (hS.ints (i := 1) rfl)) (Lib.hid (hS.ints (i := 0) rfl)) (by omega)).mono ?_
  rintro e w6 ⟨rfl, m6, rfl⟩
  have hS1 := hS.drewN m6
  clear hS
  have HS6 := Lib.hid hS1
  clear hS1
  go_wp2
  go_ret
  exact ⟨rfl, HS6.out.base⟩

theorem law_NegativePart_over0 (A0 : Option Addr) (xs0 : List Int) (cap0 : Nat) (w : World)  (mo : 1048576 < xs0.length) (mx : xs0.length ≤ 9223372036854775807) :
    Calls Try.prog 3 #[.slice A0 xs0.length cap0] w (RetV w (.bool true)) := by
  have HW := Lib.hid (St.start w)
  have to_ : (1048576 : Int) < (xs0.length : Int) := by omega
  go_enter Try.func3, Try.ntmps3
  go_wp2
  go_ret
  exact ⟨rfl, HW.out.base⟩

/-- Every input: where the arguments are not too large, the contracts are asked for. -/
theorem law_NegativePart (A0 : Option Addr) (xs0 : List Int) (cap0 : Nat) (ri0 : Int) (rb1 : Bool) (w : World) (h0 : Hid (Ints w w.heap.size A0 xs0)) (mx0 : xs0.length ≤ 9223372036854775807) 
    (hs : (ml0 : xs0.length ≤ 1048576) → Hid (∀ (W : World) (A0 : Option Addr) (c0 : Nat), Below w.heap.size w W → Hid (Ints W W.heap.size A0 xs0) → Calls Try.prog 4 #[.slice A0 xs0.length c0] W (RetV W (.tuple #[.int .i64 ri0, .bool rb1]))))
    (hi : (ml0 : xs0.length ≤ 1048576) → Hid (∀ (W : World) (A0 : Option Addr) (c0 : Nat), Below w.heap.size w W → Hid (Ints W W.heap.size A0 xs0) → Calls Try.prog 6 #[.slice A0 xs0.length c0] W (RetV W (.tuple #[.int .i64 ri0, .bool rb1])))) :
    Calls Try.prog 3 #[.slice A0 xs0.length cap0] w (RetV w (.bool true)) := by
  by_cases ml0 : xs0.length ≤ 1048576
  case neg => exact law_NegativePart_over0 A0 xs0 cap0 w  (by omega) mx0
  exact law_NegativePart_in A0 xs0 cap0 ri0 rb1 w h0  ml0   (hs ml0) (hi ml0)

end Go.Proofs.Ytffbiflgmlabaaa.C
