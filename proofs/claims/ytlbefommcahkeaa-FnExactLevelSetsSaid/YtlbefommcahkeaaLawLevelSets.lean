/-
  The law 'FnExactLevelSets', walked: it returns true if the model and the program return the same values.
-/
import Derived.Test.YtlbefommcahkeaaFunH
import Derived.Test.YtlbefommcahkeaaFnM
import Derived.Test.YtlbefommcahkeaaHeld
namespace Go.Proofs.Ytlbefommcahkeaa.C
open Go.RowKit K M
set_option linter.unusedVariables false
set_option linter.unusedSimpArgs false

set_option maxRecDepth 100000 in
set_option maxHeartbeats 8000000 in
theorem law_LevelSets_in (A0 : Option Addr) (xs0 : List Int) (cap0 : Nat) (rx0 : List Int) (rb1 : Bool) (w : World) (h0 : Hid (Ints w w.heap.size A0 xs0)) (ml0 : xs0.length ≤ 1048576) (mr0 : rx0.length ≤ 1048576)
    (hs : Hid (∀ (W : World) (A0 : Option Addr) (c0 : Nat), Below w.heap.size w W → Hid (Ints W W.heap.size A0 xs0) → Calls Try.prog 21 #[.slice A0 xs0.length c0] W (RetIB W rx0 rb1)))
    (hi : Hid (∀ (W : World) (A0 : Option Addr) (c0 : Nat), Below w.heap.size w W → Hid (Ints W W.heap.size A0 xs0) → Calls Try.prog 22 #[.slice A0 xs0.length c0] W (RetIB W rx0 rb1))) :
    Calls Try.prog 6 #[.slice A0 xs0.length cap0] w (RetV w (.bool true)) := by
  have HW := Lib.hid (St.start w)
  go_enter Try.func6, Try.ntmps6
  go_wp2_with fail
  refine St.use (w0 := w) (L := ?L1) ?sa1 ?sb1
  case sa1 => first | exact HW.out | exact (HW.out.drewN _) | exact HW.out.drew
  intro hS
  try simp only [World.size_alloc] at hS
  refine (toInts_any A0 xs0 cap0 _ (Lib.hid ((h0.out.below hS.base).mono hS.size)) (by omega)).mono ?_
  rintro e w1 ⟨A_p0, c_p0, rfl, ho, hb⟩
  have hS1 := hS.newI hb ho
  clear hS hb ho
  have HS1 := Lib.hid hS1
  clear hS1
  go_wp2_with fail
  refine St.use (w0 := w) (L := ?L2) ?sa2 ?sb2
  case sa2 => first | exact HS1.out | exact (HS1.out.drewN _) | exact HS1.out.drew
  intro hS
  try simp only [World.size_alloc] at hS
  refine (hs.out _ _ _ hS.base (Lib.hid (hS.ints (i := 0) rfl))).mono ?_
  rintro e w2 ⟨A_w, c_w, rfl, ho, hb⟩
  have hS1 := hS.newI hb ho
  clear hS hb ho
  have HS2 := Lib.hid hS1
  clear hS1
  go_wp2_with fail
  refine St.use (w0 := w) (L := ?L3) ?sa3 ?sb3
  case sa3 => first | exact HS2.out | exact (HS2.out.drewN _) | exact HS2.out.drew
  intro hS
  try simp only [World.size_alloc] at hS
  refine (toInts_any A0 xs0 cap0 _ (Lib.hid ((h0.out.below hS.base).mono hS.size)) (by omega)).mono ?_
  rintro e w3 ⟨A_x0, c_x0, rfl, ho, hb⟩
  have hS1 := hS.newI hb ho
  clear hS hb ho
  have HS3 := Lib.hid hS1
  clear hS1
  go_wp2_with fail
  refine St.use (w0 := w) (L := ?L4) ?sa4 ?sb4
  case sa4 => first | exact HS3.out | exact (HS3.out.drewN _) | exact HS3.out.drew
  intro hS
  try simp only [World.size_alloc] at hS
  refine (hi.out _ _ _ hS.base (Lib.hid (hS.ints (i := 0) rfl))).mono ?_
  rintro e w4 ⟨A_g, c_g, rfl, ho, hb⟩
  have hS1 := hS.newI hb ho
  clear hS hb ho
  have HS4 := Lib.hid hS1
  clear hS1
  go_wp2_with fail
  refine St.use (w0 := w) (L := ?L5) ?sa5 ?sb5
  case sa5 => first | exact HS4.out | exact (HS4.out.drewN _) | exact HS4.out.drew
  intro hS
  try simp only [World.size_alloc] at hS
  refine (eqInts_same A_g A_w rx0 c_g c_w _ (Lib.hid (hS.ints (i := 0) rfl)) (Lib.hid (hS.ints (i := 2) rfl)) (by omega)).mono ?_
  rintro e w5 ⟨rfl, m5, rfl⟩
  have hS1 := hS.drewN m5
  clear hS
  have HS5 := Lib.hid hS1
  clear hS1
  go_wp2_with fail
  refine St.use (w0 := w) (L := ?L6) ?sa6 ?sb6
  case sa6 => first | exact HS5.out | exact (HS5.out.drewN _) | exact HS5.out.drew
  intro hS
  try simp only [World.size_alloc] at hS
  refine (toInts_any A0 xs0 cap0 _ (Lib.hid ((h0.out.below hS.base).mono hS.size)) (by omega)).mono ?_
  rintro e w6 ⟨A_y0, c_y0, rfl, ho, hb⟩
  have hS1 := hS.newI hb ho
  clear hS hb ho
  have HS6 := Lib.hid hS1
  clear hS1
  go_wp2_with fail
  refine St.use (w0 := w) (L := ?L7) ?sa7 ?sb7
  case sa7 => first | exact HS6.out | exact (HS6.out.drewN _) | exact HS6.out.drew
  intro hS
  try simp only [World.size_alloc] at hS
  refine (eqInts_same A_x0 A_y0 xs0 c_x0 c_y0 _ (Lib.hid (hS.ints (i := 2) rfl)) (Lib.hid (hS.ints (i := 0) rfl)) (by omega)).mono ?_
  rintro e w7 ⟨rfl, m7, rfl⟩
  have hS1 := hS.drewN m7
  clear hS
  have HS7 := Lib.hid hS1
  clear hS1
  go_wp2_with fail
  refine St.use (w0 := w) (L := ?L8) ?sa8 ?sb8
  case sa8 => first | exact HS7.out | exact (HS7.out.drewN _) | exact HS7.out.drew
  intro hS
  try simp only [World.size_alloc] at hS
  refine (markInts_any A_x0 xs0 c_x0 w.heap.size (1) _ (Lib.hid (hS.ownI (i := 2) rfl)) (by omega) (by omega) (by omega)).mono ?_
  rintro e w8 ⟨rfl, ho, hg⟩
  have hb := True.intro
  have hS1 := hS.markI (i := 2) rfl hg ho
  clear hS hb ho hg
  have HS8 := Lib.hid hS1
  clear hS1
  go_wp2_with fail
  refine St.use (w0 := w) (L := ?L9) ?sa9 ?sb9
  case sa9 => first | exact HS8.out | exact (HS8.out.drewN _) | exact HS8.out.drew
  intro hS
  try simp only [World.size_alloc] at hS
  refine (eqInts_same A_g A_w rx0 c_g c_w _ (Lib.hid (hS.ints (i := 1) rfl)) (Lib.hid (hS.ints (i := 3) rfl)) (by omega)).mono ?_
  rintro e w9 ⟨rfl, m9, rfl⟩
  have hS1 := hS.drewN m9
  clear hS
  have HS9 := Lib.hid hS1
  clear hS1
  go_wp2_with fail
  refine St.use (w0 := w) (L := ?L10) ?sa10 ?sb10
  case sa10 => first | exact HS9.out | exact (HS9.out.drewN _) | exact HS9.out.drew
  intro hS
  try simp only [World.size_alloc] at hS
  refine (markInts_any A_g rx0 c_g w.heap.size (1) _ (Lib.hid (hS.ownI (i := 1) rfl)) (by omega) (by omega) (by omega)).mono ?_
  rintro e w10 ⟨rfl, ho, hg⟩
  have hb := True.intro
  have hS1 := hS.markI (i := 1) rfl hg ho
  clear hS hb ho hg
  have HS10 := Lib.hid hS1
  clear hS1
  go_wp2_with fail
  refine St.use (w0 := w) (L := ?L11) ?sa11 ?sb11
  case sa11 => first | exact HS10.out | exact (HS10.out.drewN _) | exact HS10.out.drew
  intro hS
  try simp only [World.size_alloc] at hS
  refine (heldInts_any A_g rx0.length c_g (1) _ (Lib.hid (hS.ints (i := 1) rfl)) (by omega) (by omega) (by omega)).mono ?_
  rintro e w11 ⟨rfl, rfl⟩
  have hS1 := hS
  clear hS
  have HS11 := Lib.hid hS1
  clear hS1
  go_wp2_with fail
  refine St.use (w0 := w) (L := ?L12) ?sa12 ?sb12
  case sa12 => first | exact HS11.out | exact (HS11.out.drewN _) | exact HS11.out.drew
  intro hS
  try simp only [World.size_alloc] at hS
  refine (toInts_any A0 xs0 cap0 _ (Lib.hid ((h0.out.below hS.base).mono hS.size)) (by omega)).mono ?_
  rintro e w12 ⟨A_z0, c_z0, rfl, ho, hb⟩
  have hS1 := hS.newI hb ho
  clear hS hb ho
  have HS12 := Lib.hid hS1
  clear hS1
  go_wp2_with fail
  refine St.use (w0 := w) (L := ?L13) ?sa13 ?sb13
  case sa13 => first | exact HS12.out | exact (HS12.out.drewN _) | exact HS12.out.drew
  intro hS
  try simp only [World.size_alloc] at hS
  refine (hi.out _ _ _ hS.base (Lib.hid (hS.ints (i := 0) rfl))).mono ?_
  rintro e w13 ⟨A_h, c_h, rfl, ho, hb⟩
  have hS1 := hS.newI hb ho
  clear hS hb ho
  have HS13 := Lib.hid hS1
  clear hS1
  go_wp2_with fail
  refine St.use (w0 := w) (L := ?L14) ?sa14 ?sb14
  case sa14 => first | exact HS13.out | exact (HS13.out.drewN _) | exact HS13.out.drew
  intro hS
  try simp only [World.size_alloc] at hS
  refine (eqInts_same A_h A_w rx0 c_h c_w _ (Lib.hid (hS.ints (i := 0) rfl)) (Lib.hid (hS.ints (i := 5) rfl)) (by omega)).mono ?_
  rintro e w14 ⟨rfl, m14, rfl⟩
  have hS1 := hS.drewN m14
  clear hS
  have HS14 := Lib.hid hS1
  clear hS1
  go_wp2_with fail
  refine St.use (w0 := w) (L := ?L15) ?sa15 ?sb15
  case sa15 => first | exact HS14.out | exact (HS14.out.drewN _) | exact HS14.out.drew
  intro hS
  try simp only [World.size_alloc] at hS
  refine (heldInts_any A_g rx0.length c_g (1) _ (Lib.hid (hS.ints (i := 3) rfl)) (by omega) (by omega) (by omega)).mono ?_
  rintro e w15 ⟨rfl, rfl⟩
  have hS1 := hS
  clear hS
  have HS15 := Lib.hid hS1
  clear hS1
  go_wp2
  go_ret
  exact ⟨rfl, HS15.out.base⟩

theorem law_LevelSets_over0 (A0 : Option Addr) (xs0 : List Int) (cap0 : Nat) (w : World)  (mo : 1048576 < xs0.length) (mx : xs0.length ≤ 9223372036854775807) :
    Calls Try.prog 6 #[.slice A0 xs0.length cap0] w (RetV w (.bool true)) := by
  have HW := Lib.hid (St.start w)
  have to_ : (1048576 : Int) < (xs0.length : Int) := by omega
  go_enter Try.func6, Try.ntmps6
  go_wp2
  go_ret
  exact ⟨rfl, HW.out.base⟩

/-- Every input: where the arguments are not too large, the contracts are asked for. -/
theorem law_LevelSets (A0 : Option Addr) (xs0 : List Int) (cap0 : Nat) (rx0 : List Int) (rb1 : Bool) (w : World) (h0 : Hid (Ints w w.heap.size A0 xs0)) (mx0 : xs0.length ≤ 9223372036854775807) (mr0 : rx0.length ≤ 1048576)
    (hs : (ml0 : xs0.length ≤ 1048576) → Hid (∀ (W : World) (A0 : Option Addr) (c0 : Nat), Below w.heap.size w W → Hid (Ints W W.heap.size A0 xs0) → Calls Try.prog 21 #[.slice A0 xs0.length c0] W (RetIB W rx0 rb1)))
    (hi : (ml0 : xs0.length ≤ 1048576) → Hid (∀ (W : World) (A0 : Option Addr) (c0 : Nat), Below w.heap.size w W → Hid (Ints W W.heap.size A0 xs0) → Calls Try.prog 22 #[.slice A0 xs0.length c0] W (RetIB W rx0 rb1))) :
    Calls Try.prog 6 #[.slice A0 xs0.length cap0] w (RetV w (.bool true)) := by
  by_cases ml0 : xs0.length ≤ 1048576
  case neg => exact law_LevelSets_over0 A0 xs0 cap0 w  (by omega) mx0
  exact law_LevelSets_in A0 xs0 cap0 rx0 rb1 w h0  ml0  mr0 (hs ml0) (hi ml0)

end Go.Proofs.Ytlbefommcahkeaa.C
