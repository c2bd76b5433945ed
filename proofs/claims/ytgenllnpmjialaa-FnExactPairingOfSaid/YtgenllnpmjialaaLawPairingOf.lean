/-
  The law 'FnExactPairingOf', walked: it returns true if the model and the program return the same values.
-/
import Derived.Test.YtgenllnpmjialaaFunH
import Derived.Test.YtgenllnpmjialaaAllM
import Derived.Test.YtgenllnpmjialaaHeld
namespace Go.Proofs.Ytgenllnpmjialaa.C
open Go.RowKit K M
set_option linter.unusedVariables false
set_option linter.unusedSimpArgs false

set_option maxRecDepth 100000 in
set_option maxHeartbeats 8000000 in
theorem law_PairingOf_in (A0 : Option Addr) (xs0 : List Int) (cap0 : Nat) (A1 : Option Addr) (xs1 : List Int) (cap1 : Nat) (ri0 : Int) (rb1 : Bool) (w : World) (h0 : Hid (Ints w w.heap.size A0 xs0)) (h1 : Hid (Ints w w.heap.size A1 xs1)) (ml0 : xs0.length ≤ 1048576) (ml1 : xs1.length ≤ 1048576)
    (hs : Hid (∀ (W : World) (A0 : Option Addr) (c0 : Nat) (A1 : Option Addr) (c1 : Nat), Below w.heap.size w W → Hid (Ints W W.heap.size A0 xs0) → Hid (Ints W W.heap.size A1 xs1) → Calls Try.prog 30 #[.slice A0 xs0.length c0, .slice A1 xs1.length c1] W (RetV W (.tuple #[.int .i64 ri0, .bool rb1]))))
    (hi : Hid (∀ (W : World) (A0 : Option Addr) (c0 : Nat) (A1 : Option Addr) (c1 : Nat), Below w.heap.size w W → Hid (Ints W W.heap.size A0 xs0) → Hid (Ints W W.heap.size A1 xs1) → Calls Try.prog 31 #[.slice A0 xs0.length c0, .slice A1 xs1.length c1] W (RetV W (.tuple #[.int .i64 ri0, .bool rb1])))) :
    Calls Try.prog 9 #[.slice A0 xs0.length cap0, .slice A1 xs1.length cap1] w (RetV w (.bool true)) := by
  have HW := Lib.hid (St.start w)
  go_enter Try.func9, Try.ntmps9
  go_wp2_with fail
  refine St.use (w0 := w) (L := ?L1) ?sa1 ?sb1
  case sa1 => first | exact HW.out | exact (HW.out.drewN _) | exact HW.out.drew
  intro hS
  try simp only [World.size_alloc] at hS
  refine (toInts_any A0 xs0 cap0 _ (Lib.hid ((h0.out.below hS.base).mono hS.size)) (by omega)).mono ?_
  rintro e w1 ⟨A_p0, c_p0, rfl, ho, hb⟩
  have hS1 := hS.newI hb ho
  clear hS hb ho
  have HS1 := Lib.hid hS1
  clear hS1
  go_wp2_with fail
  refine St.use (w0 := w) (L := ?L2) ?sa2 ?sb2
  case sa2 => first | exact HS1.out | exact (HS1.out.drewN _) | exact HS1.out.drew
  intro hS
  try simp only [World.size_alloc] at hS
  refine (toInts_any A1 xs1 cap1 _ (Lib.hid ((h1.out.below hS.base).mono hS.size)) (by omega)).mono ?_
  rintro e w2 ⟨A_p1, c_p1, rfl, ho, hb⟩
  have hS1 := hS.newI hb ho
  clear hS hb ho
  have HS2 := Lib.hid hS1
  clear hS1
  go_wp2_with fail
  refine St.use (w0 := w) (L := ?L3) ?sa3 ?sb3
  case sa3 => first | exact HS2.out | exact (HS2.out.drewN _) | exact HS2.out.drew
  intro hS
  try simp only [World.size_alloc] at hS
  refine (hs.out _ _ _ _ _ hS.base (Lib.hid (hS.ints (i := 1) rfl)) (Lib.hid (hS.ints (i := 0) rfl))).mono ?_
  rintro e w3 ⟨rfl, hb⟩
  have hS1 := hS.below hb
  clear hS hb
  have HS3 := Lib.hid hS1
  clear hS1
  go_wp2_with fail
  refine St.use (w0 := w) (L := ?L4) ?sa4 ?sb4
  case sa4 => first | exact HS3.out | exact (HS3.out.drewN _) | exact HS3.out.drew
  intro hS
  try simp only [World.size_alloc] at hS
  refine (toInts_any A0 xs0 cap0 _ (Lib.hid ((h0.out.below hS.base).mono hS.size)) (by omega)).mono ?_
  rintro e w4 ⟨A_x0, c_x0, rfl, ho, hb⟩
  have hS1 := hS.newI hb ho
  clear hS hb ho
  have HS4 := Lib.hid hS1
  clear hS1
  go_wp2_with fail
  refine St.use (w0 := w) (L := ?L5) ?sa5 ?sb5
  case sa5 => first | exact HS4.out | exact (HS4.out.drewN _) | exact HS4.out.drew
  intro hS
  try simp only [World.size_alloc] at hS
  refine (toInts_any A1 xs1 cap1 _ (Lib.hid ((h1.out.below hS.base).mono hS.size)) (by omega)).mono ?_
  rintro e w5 ⟨A_x1, c_x1, rfl, ho, hb⟩
  have hS1 := hS.newI hb ho
  clear hS hb ho
  have HS5 := Lib.hid hS1
  clear hS1
  go_wp2_with fail
  refine St.use (w0 := w) (L := ?L6) ?sa6 ?sb6
  case sa6 => first | exact HS5.out | exact (HS5.out.drewN _) | exact HS5.out.drew
  intro hS
  try simp only [World.size_alloc] at hS
  refine (hi.out _ _ _ _ _ hS.base (Lib.hid (hS.ints (i := 1) rfl)) (Lib.hid (hS.ints (i := 0) rfl))).mono ?_
  rintro e w6 ⟨rfl, hb⟩
  have hS1 := hS.below hb
  clear hS hb
  have HS6 := Lib.hid hS1
  clear hS1
  go_wp2_with fail
  refine St.use (w0 := w) (L := ?L7) ?sa7 ?sb7
  case sa7 => first | exact HS6.out | exact (HS6.out.drewN _) | exact HS6.out.drew
  intro hS
  try simp only [World.size_alloc] at hS
  refine (toInts_any A0 xs0 cap0 _ (Lib.hid ((h0.out.below hS.base).mono hS.size)) (by omega)).mono ?_
  rintro e w7 ⟨A_y0, c_y0, rfl, ho, hb⟩
  have hS1 := hS.newI hb ho
  clear hS hb ho
  have HS7 := Lib.hid hS1
  clear hS1
  go_wp2_with fail
  refine St.use (w0 := w) (L := ?L8) ?sa8 ?sb8
  case sa8 => first | exact HS7.out | exact (HS7.out.drewN _) | exact HS7.out.drew
  intro hS
  try simp only [World.size_alloc] at hS
  refine (eqInts_same A_x0 A_y0 xs0 c_x0 c_y0 _ (Lib.hid (hS.ints (i := 2) rfl)) (Lib.hid (hS.ints (i := 0) rfl)) (by omega)).mono ?_
  rintro e w8 ⟨rfl, m8, rfl⟩
  have hS1 := hS.drewN m8
  clear hS
  have HS8 := Lib.hid hS1
  clear hS1
  go_wp2_with fail
  refine St.use (w0 := w) (L := ?L9) ?sa9 ?sb9
  case sa9 => first | exact HS8.out | exact (HS8.out.drewN _) | exact HS8.out.drew
  intro hS
  try simp only [World.size_alloc] at hS
  refine (toInts_any A1 xs1 cap1 _ (Lib.hid ((h1.out.below hS.base).mono hS.size)) (by omega)).mono ?_
  rintro e w9 ⟨A_y1, c_y1, rfl, ho, hb⟩
  have hS1 := hS.newI hb ho
  clear hS hb ho
  have HS9 := Lib.hid hS1
  clear hS1
  go_wp2_with fail
  refine St.use (w0 := w) (L := ?L10) ?sa10 ?sb10
  case sa10 => first | exact HS9.out | exact (HS9.out.drewN _) | exact HS9.out.drew
  intro hS
  try simp only [World.size_alloc] at hS
  refine (eqInts_same A_x1 A_y1 xs1 c_x1 c_y1 _ (Lib.hid (hS.ints (i := 2) rfl)) (Lib.hid (hS.ints (i := 0) rfl)) (by omega)).mono ?_
  rintro e w10 ⟨rfl, m10, rfl⟩
  have hS1 := hS.drewN m10
  clear hS
  have HS10 := Lib.hid hS1
  clear hS1
  go_wp2
  go_ret
  exact ⟨rfl, HS10.out.base⟩

theorem law_PairingOf_over0 (A0 : Option Addr) (xs0 : List Int) (cap0 : Nat) (A1 : Option Addr) (xs1 : List Int) (cap1 : Nat) (w : World)  (mo : 1048576 < xs0.length) (mx : xs0.length ≤ 9223372036854775807) :
    Calls Try.prog 9 #[.slice A0 xs0.length cap0, .slice A1 xs1.length cap1] w (RetV w (.bool true)) := by
  have HW := Lib.hid (St.start w)
  have to_ : (1048576 : Int) < (xs0.length : Int) := by omega
  go_enter Try.func9, Try.ntmps9
  go_wp2
  go_ret
  exact ⟨rfl, HW.out.base⟩

theorem law_PairingOf_over1 (A0 : Option Addr) (xs0 : List Int) (cap0 : Nat) (A1 : Option Addr) (xs1 : List Int) (cap1 : Nat) (w : World) (ml0 : xs0.length ≤ 1048576) (mo : 1048576 < xs1.length) (mx : xs1.length ≤ 9223372036854775807) :
    Calls Try.prog 9 #[.slice A0 xs0.length cap0, .slice A1 xs1.length cap1] w (RetV w (.bool true)) := by
  have HW := Lib.hid (St.start w)
  have t0 : (xs0.length : Int) ≤ 1048576 := by omega
  have to_ : (1048576 : Int) < (xs1.length : Int) := by omega
  go_enter Try.func9, Try.ntmps9
  go_wp2
  go_ret
  exact ⟨rfl, HW.out.base⟩

/-- Every input: where the arguments are not too large, the contracts are asked for. -/
theorem law_PairingOf (A0 : Option Addr) (xs0 : List Int) (cap0 : Nat) (A1 : Option Addr) (xs1 : List Int) (cap1 : Nat) (ri0 : Int) (rb1 : Bool) (w : World) (h0 : Hid (Ints w w.heap.size A0 xs0)) (h1 : Hid (Ints w w.heap.size A1 xs1)) (mx0 : xs0.length ≤ 9223372036854775807) (mx1 : xs1.length ≤ 9223372036854775807) 
    (hs : (ml0 : xs0.length ≤ 1048576) → (ml1 : xs1.length ≤ 1048576) → Hid (∀ (W : World) (A0 : Option Addr) (c0 : Nat) (A1 : Option Addr) (c1 : Nat), Below w.heap.size w W → Hid (Ints W W.heap.size A0 xs0) → Hid (Ints W W.heap.size A1 xs1) → Calls Try.prog 30 #[.slice A0 xs0.length c0, .slice A1 xs1.length c1] W (RetV W (.tuple #[.int .i64 ri0, .bool rb1]))))
    (hi : (ml0 : xs0.length ≤ 1048576) → (ml1 : xs1.length ≤ 1048576) → Hid (∀ (W : World) (A0 : Option Addr) (c0 : Nat) (A1 : Option Addr) (c1 : Nat), Below w.heap.size w W → Hid (Ints W W.heap.size A0 xs0) → Hid (Ints W W.heap.size A1 xs1) → Calls Try.prog 31 #[.slice A0 xs0.length c0, .slice A1 xs1.length c1] W (RetV W (.tuple #[.int .i64 ri0, .bool rb1])))) :
    Calls Try.prog 9 #[.slice A0 xs0.length cap0, .slice A1 xs1.length cap1] w (RetV w (.bool true)) := by
  by_cases ml0 : xs0.length ≤ 1048576
  case neg => exact law_PairingOf_over0 A0 xs0 cap0 A1 xs1 cap1 w  (by omega) mx0
  by_cases ml1 : xs1.length ≤ 1048576
  case neg => exact law_PairingOf_over1 A0 xs0 cap0 A1 xs1 cap1 w ml0 (by omega) mx1
  exact law_PairingOf_in A0 xs0 cap0 A1 xs1 cap1 ri0 rb1 w h0 h1  ml0 ml1   (hs ml0 ml1) (hi ml0 ml1)

end Go.Proofs.Ytgenllnpmjialaa.C
