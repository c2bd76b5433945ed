/-
  The law 'FnExactIndicatorOf', walked: it returns true if the model and the program return the same values.
-/
import Derived.Test.YtgenllnpmjialaaDoorFunH
import Derived.Test.YtgenllnpmjialaaDoorFnM
import Derived.Test.YtgenllnpmjialaaDoorHeld
namespace Go.Proofs.YtgenllnpmjialaaDoor.C
open Go.RowKit K M
set_option linter.unusedVariables false
set_option linter.unusedSimpArgs false

set_option maxRecDepth 100000 in
set_option maxHeartbeats 8000000 in
theorem law_IndicatorOf_in (z0 : Int) (z1 : Int) (rx0 : List Int) (rb1 : Bool) (w : World)  (mr0 : rx0.length ≤ 1048576)
    (hs : Hid (∀ (W : World) , Below w.heap.size w W → Calls Tryd.prog 6 #[.int .i64 z0, .int .i64 z1] W (RetIB W rx0 rb1)))
    (hi : Hid (∀ (W : World) , Below w.heap.size w W → Calls Tryd.prog 7 #[.int .i64 z0, .int .i64 z1] W (RetIB W rx0 rb1))) :
    Calls Tryd.prog 3 #[.int .i64 z0, .int .i64 z1] w (RetV w (.bool true)) := by
  have HW := Lib.hid (St.start w)
  go_enter Tryd.func3, Tryd.ntmps3
  go_wp2_with fail
  refine St.use (w0 := w) (L := ?L1) ?sa1 ?sb1
  case sa1 => first | exact HW.out | exact (HW.out.drewN _) | exact HW.out.drew
  intro hS
  try simp only [World.size_alloc] at hS
  refine (hs.out _  hS.base ).mono ?_
  rintro e w1 ⟨A_w, c_w, rfl, ho, hb⟩
  have hS1 := hS.newI hb ho
  clear hS hb ho
  have HS1 := Lib.hid hS1
  clear hS1
  go_wp2_with fail
  refine St.use (w0 := w) (L := ?L2) ?sa2 ?sb2
  case sa2 => first | exact HS1.out | exact (HS1.out.drewN _) | exact HS1.out.drew
  intro hS
  try simp only [World.size_alloc] at hS
  refine (hi.out _  hS.base ).mono ?_
  rintro e w2 ⟨A_g, c_g, rfl, ho, hb⟩
  have hS1 := hS.newI hb ho
  clear hS hb ho
  have HS2 := Lib.hid hS1
  clear hS1
  go_wp2_with fail
  refine St.use (w0 := w) (L := ?L3) ?sa3 ?sb3
  case sa3 => first | exact HS2.out | exact (HS2.out.drewN _) | exact HS2.out.drew
  intro hS
  try simp only [World.size_alloc] at hS
  refine (eqInts_same A_g A_w rx0 c_g c_w _ (Lib.hid (hS.ints (i := 0) rfl)) (Lib.hid (hS.ints (i := 1) rfl)) (by omega)).mono ?_
  rintro e w3 ⟨rfl, m3, rfl⟩
  have hS1 := hS.drewN m3
  clear hS
  have HS3 := Lib.hid hS1
  clear hS1
  go_wp2_with fail
  refine St.use (w0 := w) (L := ?L4) ?sa4 ?sb4
  case sa4 => first | exact HS3.out | exact (HS3.out.drewN _) | exact HS3.out.drew
  intro hS
  try simp only [World.size_alloc] at hS
  refine (markInts_any A_g rx0 c_g w.heap.size (1) _ (Lib.hid (hS.ownI (i := 0) rfl)) (by omega) (by omega) (by omega)).mono ?_
  rintro e w4 ⟨rfl, ho, hg⟩
  have hb := True.intro
  have hS1 := hS.markI (i := 0) rfl hg ho
  clear hS hb ho hg
  have HS4 := Lib.hid hS1
  clear hS1
  go_wp2_with fail
  refine St.use (w0 := w) (L := ?L5) ?sa5 ?sb5
  case sa5 => first | exact HS4.out | exact (HS4.out.drewN _) | exact HS4.out.drew
  intro hS
  try simp only [World.size_alloc] at hS
  refine (heldInts_any A_g rx0.length c_g (1) _ (Lib.hid (hS.ints (i := 0) rfl)) (by omega) (by omega) (by omega)).mono ?_
  rintro e w5 ⟨rfl, rfl⟩
  have hS1 := hS
  clear hS
  have HS5 := Lib.hid hS1
  clear hS1
  go_wp2_with fail
  refine St.use (w0 := w) (L := ?L6) ?sa6 ?sb6
  case sa6 => first | exact HS5.out | exact (HS5.out.drewN _) | exact HS5.out.drew
  intro hS
  try simp only [World.size_alloc] at hS
  refine (hi.out _  hS.base ).mono ?_
  rintro e w6 ⟨A_h, c_h, rfl, ho, hb⟩
  have hS1 := hS.newI hb ho
  clear hS hb ho
  have HS6 := Lib.hid hS1
  clear hS1
  go_wp2_with fail
  refine St.use (w0 := w) (L := ?L7) ?sa7 ?sb7
  case sa7 => first | exact HS6.out | exact (HS6.out.drewN _) | exact HS6.out.drew
  intro hS
  try simp only [World.size_alloc] at hS
  refine (eqInts_same A_h A_w rx0 c_h c_w _ (Lib.hid (hS.ints (i := 0) rfl)) (Lib.hid (hS.ints (i := 2) rfl)) (by omega)).mono ?_
  rintro e w7 ⟨rfl, m7, rfl⟩
  have hS1 := hS.drewN m7
  clear hS
  have HS7 := Lib.hid hS1
  clear hS1
  go_wp2_with fail
  refine St.use (w0 := w) (L := ?L8) ?sa8 ?sb8
  case sa8 => first | exact HS7.out | exact (HS7.out.drewN _) | exact HS7.out.drew
  intro hS
  try simp only [World.size_alloc] at hS
  refine (heldInts_any A_g rx0.length c_g (1) _ (Lib.hid (hS.ints (i := 1) rfl)) (by omega) (by omega) (by omega)).mono ?_
  rintro e w8 ⟨rfl, rfl⟩
  have hS1 := hS
  clear hS
  have HS8 := Lib.hid hS1
  clear hS1
  go_wp2
  go_ret
  exact ⟨rfl, HS8.out.base⟩

/-- Every input: where the arguments are not too large, the contracts are asked for. -/
theorem law_IndicatorOf (z0 : Int) (z1 : Int) (rx0 : List Int) (rb1 : Bool) (w : World)   (mr0 : rx0.length ≤ 1048576)
    (hs : Hid (∀ (W : World) , Below w.heap.size w W → Calls Tryd.prog 6 #[.int .i64 z0, .int .i64 z1] W (RetIB W rx0 rb1)))
    (hi : Hid (∀ (W : World) , Below w.heap.size w W → Calls Tryd.prog 7 #[.int .i64 z0, .int .i64 z1] W (RetIB W rx0 rb1))) :
    Calls Tryd.prog 3 #[.int .i64 z0, .int .i64 z1] w (RetV w (.bool true)) := by
  exact law_IndicatorOf_in z0 z1 rx0 rb1 w     mr0 (hs) (hi)

end Go.Proofs.YtgenllnpmjialaaDoor.C
