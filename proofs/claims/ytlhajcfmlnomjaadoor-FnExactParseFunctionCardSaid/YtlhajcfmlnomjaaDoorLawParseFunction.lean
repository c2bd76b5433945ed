/-
  The law 'FnExactParseFunction', walked: it returns true if the model and the program return the same values.
-/
import Derived.Test.YtlhajcfmlnomjaaDoorFunH
import Derived.Test.YtlhajcfmlnomjaaDoorFnM
import Derived.Test.YtlhajcfmlnomjaaDoorHeld
namespace Go.Proofs.YtlhajcfmlnomjaaDoor.C
open Go.RowKit K M
set_option linter.unusedVariables false
set_option linter.unusedSimpArgs false

set_option maxRecDepth 100000 in
set_option maxHeartbeats 8000000 in
theorem law_ParseFunction_in (s0 : ByteArray) (rn0 : Int) (rx0 : List Int) (rb1 : Bool) (w : World)  (ms0 : s0.size ≤ 1048576) (mr0 : rx0.length ≤ 1048576)
    (hs : Hid (∀ (W : World) , Below w.heap.size w W → Calls Tryd.prog 11 #[.string s0] W (RetFB W rn0 rx0 rb1)))
    (hi : Hid (∀ (W : World) , Below w.heap.size w W → Calls Tryd.prog 12 #[.string s0] W (RetFB W rn0 rx0 rb1))) :
    Calls Tryd.prog 4 #[.string s0] w (RetV w (.bool true)) := by
  have HW := Lib.hid (St.start w)
  go_enter Tryd.func4, Tryd.ntmps4
  go_wp2_with fail
  refine St.use (w0 := w) (L := ?L1) ?sa1 ?sb1
  case sa1 => first | exact HW.out | exact (HW.out.drewN _) | exact HW.out.drew
  intro hS
  try simp only [World.size_alloc] at hS
  refine (hs.out _  hS.base ).mono ?_
  rintro e w1 ⟨A_w, c_w, rfl, ho, hb⟩
  have hS1 := hS.newI hb ho
  clear hS hb ho
  have HS1 := Lib.hid hS1
  clear hS1
  go_wp2_with fail
  refine St.use (w0 := w) (L := ?L2) ?sa2 ?sb2
  case sa2 => first | exact (HS1.out.alloc _ _) | exact ((HS1.out.drewN _).alloc _ _) | exact (HS1.out.drew.alloc _ _)
  intro hS
  try simp only [World.size_alloc] at hS
  refine (hi.out _  hS.base ).mono ?_
  rintro e w2 ⟨A_g, c_g, rfl, ho, hb⟩
  have hS1 := hS.newI hb ho
  clear hS hb ho
  obtain ⟨b1, -⟩ := hS1.box (i := 1) rfl
  have b10 := b1 0 _ rfl
  have b11 := b1 1 _ rfl
  have b1l := (hS1.lt (i := 1) rfl).2
  clear b1
  have HS2 := Lib.hid hS1
  clear hS1
  go_wp2_with fail
  refine St.use (w0 := w) (L := ?L3) ?sa3 ?sb3
  case sa3 => first | exact (HS2.out.alloc _ _) | exact ((HS2.out.drewN _).alloc _ _) | exact (HS2.out.drew.alloc _ _)
  intro hS
  try simp only [World.size_alloc] at hS
  refine (eqFun_same rn0 A_g A_w rx0 c_g c_w _ (Lib.hid (hS.ints (i := 1) rfl)) (Lib.hid (hS.ints (i := 3) rfl)) (by omega)).mono ?_
  rintro e w3 ⟨rfl, hb⟩
  clear b10 b11 b1l
  have hS1 := hS.below hb
  clear hS hb
  obtain ⟨b0, -⟩ := hS1.box (i := 0) rfl
  have b00 := b0 0 _ rfl
  have b01 := b0 1 _ rfl
  have b0l := (hS1.lt (i := 0) rfl).2
  clear b0
  obtain ⟨b2, -⟩ := hS1.box (i := 2) rfl
  have b20 := b2 0 _ rfl
  have b21 := b2 1 _ rfl
  have b2l := (hS1.lt (i := 2) rfl).2
  clear b2
  have HS3 := Lib.hid hS1
  clear hS1
  go_wp2_with fail
  refine St.use (w0 := w) (L := ?L4) ?sa4 ?sb4
  case sa4 => first | exact HS3.out | exact (HS3.out.drewN _) | exact HS3.out.drew
  intro hS
  try simp only [World.size_alloc] at hS
  refine (markFun_any rn0 A_g rx0 c_g w.heap.size (1) _ (Lib.hid (hS.ownI (i := 1) rfl)) (by omega) (by omega) (by omega)).mono ?_
  rintro e w4 ⟨rfl, ho, hg⟩
  have hb := True.intro
  clear b00 b01 b0l b20 b21 b2l
  have hS1 := hS.markI (i := 1) rfl hg ho
  clear hS hb ho hg
  obtain ⟨b0, -⟩ := hS1.box (i := 0) rfl
  have b00 := b0 0 _ rfl
  have b01 := b0 1 _ rfl
  have b0l := (hS1.lt (i := 0) rfl).2
  clear b0
  obtain ⟨b2, -⟩ := hS1.box (i := 2) rfl
  have b20 := b2 0 _ rfl
  have b21 := b2 1 _ rfl
  have b2l := (hS1.lt (i := 2) rfl).2
  clear b2
  have HS4 := Lib.hid hS1
  clear hS1
  go_wp2_with fail
  refine St.use (w0 := w) (L := ?L5) ?sa5 ?sb5
  case sa5 => first | exact HS4.out | exact (HS4.out.drewN _) | exact HS4.out.drew
  intro hS
  try simp only [World.size_alloc] at hS
  refine (heldFun_any rn0 A_g rx0.length c_g (1) _ (Lib.hid (hS.ints (i := 1) rfl)) (by omega) (by omega) (by omega)).mono ?_
  rintro e w5 ⟨rfl, hb⟩
  clear b00 b01 b0l b20 b21 b2l
  have hS1 := hS.below hb
  clear hS hb
  obtain ⟨b0, -⟩ := hS1.box (i := 0) rfl
  have b00 := b0 0 _ rfl
  have b01 := b0 1 _ rfl
  have b0l := (hS1.lt (i := 0) rfl).2
  clear b0
  obtain ⟨b2, -⟩ := hS1.box (i := 2) rfl
  have b20 := b2 0 _ rfl
  have b21 := b2 1 _ rfl
  have b2l := (hS1.lt (i := 2) rfl).2
  clear b2
  have HS5 := Lib.hid hS1
  clear hS1
  go_wp2_with fail
  refine St.use (w0 := w) (L := ?L6) ?sa6 ?sb6
  case sa6 => first | exact HS5.out | exact (HS5.out.drewN _) | exact HS5.out.drew
  intro hS
  try simp only [World.size_alloc] at hS
  refine (hi.out _  hS.base ).mono ?_
  rintro e w6 ⟨A_h, c_h, rfl, ho, hb⟩
  clear b00 b01 b0l b20 b21 b2l
  have hS1 := hS.newI hb ho
  clear hS hb ho
  obtain ⟨b1, -⟩ := hS1.box (i := 1) rfl
  have b10 := b1 0 _ rfl
  have b11 := b1 1 _ rfl
  have b1l := (hS1.lt (i := 1) rfl).2
  clear b1
  obtain ⟨b3, -⟩ := hS1.box (i := 3) rfl
  have b30 := b3 0 _ rfl
  have b31 := b3 1 _ rfl
  have b3l := (hS1.lt (i := 3) rfl).2
  clear b3
  have HS6 := Lib.hid hS1
  clear hS1
  go_wp2_with fail
  refine St.use (w0 := w) (L := ?L7) ?sa7 ?sb7
  case sa7 => first | exact (HS6.out.alloc _ _) | exact ((HS6.out.drewN _).alloc _ _) | exact (HS6.out.drew.alloc _ _)
  intro hS
  try simp only [World.size_alloc] at hS
  refine (eqFun_same rn0 A_h A_w rx0 c_h c_w _ (Lib.hid (hS.ints (i := 1) rfl)) (Lib.hid (hS.ints (i := 5) rfl)) (by omega)).mono ?_
  rintro e w7 ⟨rfl, hb⟩
  clear b10 b11 b1l b30 b31 b3l
  have hS1 := hS.below hb
  clear hS hb
  obtain ⟨b0, -⟩ := hS1.box (i := 0) rfl
  have b00 := b0 0 _ rfl
  have b01 := b0 1 _ rfl
  have b0l := (hS1.lt (i := 0) rfl).2
  clear b0
  obtain ⟨b2, -⟩ := hS1.box (i := 2) rfl
  have b20 := b2 0 _ rfl
  have b21 := b2 1 _ rfl
  have b2l := (hS1.lt (i := 2) rfl).2
  clear b2
  obtain ⟨b4, -⟩ := hS1.box (i := 4) rfl
  have b40 := b4 0 _ rfl
  have b41 := b4 1 _ rfl
  have b4l := (hS1.lt (i := 4) rfl).2
  clear b4
  have HS7 := Lib.hid hS1
  clear hS1
  go_wp2_with fail
  refine St.use (w0 := w) (L := ?L8) ?sa8 ?sb8
  case sa8 => first | exact HS7.out | exact (HS7.out.drewN _) | exact HS7.out.drew
  intro hS
  try simp only [World.size_alloc] at hS
  refine (heldFun_any rn0 A_g rx0.length c_g (1) _ (Lib.hid (hS.ints (i := 3) rfl)) (by omega) (by omega) (by omega)).mono ?_
  rintro e w8 ⟨rfl, hb⟩
  clear b00 b01 b0l b20 b21 b2l b40 b41 b4l
  have hS1 := hS.below hb
  clear hS hb
  obtain ⟨b0, -⟩ := hS1.box (i := 0) rfl
  have b00 := b0 0 _ rfl
  have b01 := b0 1 _ rfl
  have b0l := (hS1.lt (i := 0) rfl).2
  clear b0
  obtain ⟨b2, -⟩ := hS1.box (i := 2) rfl
  have b20 := b2 0 _ rfl
  have b21 := b2 1 _ rfl
  have b2l := (hS1.lt (i := 2) rfl).2
  clear b2
  obtain ⟨b4, -⟩ := hS1.box (i := 4) rfl
  have b40 := b4 0 _ rfl
  have b41 := b4 1 _ rfl
  have b4l := (hS1.lt (i := 4) rfl).2
  clear b4
  have HS8 := Lib.hid hS1
  clear hS1
  go_wp2
  go_ret
  exact ⟨rfl, HS8.out.base⟩

theorem law_ParseFunction_over0 (s0 : ByteArray) (w : World) (mo : 1048576 < s0.size) (mx : s0.size ≤ 9223372036854775807) :
    Calls Tryd.prog 4 #[.string s0] w (RetV w (.bool true)) := by
  go_enter Tryd.func4, Tryd.ntmps4
  go_wp2
  go_ret
  exact ⟨rfl, Below.refl _ _⟩

/-- Every input: where the arguments are not too large, the contracts are asked for. -/
theorem law_ParseFunction (s0 : ByteArray) (rn0 : Int) (rx0 : List Int) (rb1 : Bool) (w : World)  (mx0 : s0.size ≤ 9223372036854775807) (mr0 : rx0.length ≤ 1048576)
    (hs : (ms0 : s0.size ≤ 1048576) → Hid (∀ (W : World) , Below w.heap.size w W → Calls Tryd.prog 11 #[.string s0] W (RetFB W rn0 rx0 rb1)))
    (hi : (ms0 : s0.size ≤ 1048576) → Hid (∀ (W : World) , Below w.heap.size w W → Calls Tryd.prog 12 #[.string s0] W (RetFB W rn0 rx0 rb1))) :
    Calls Tryd.prog 4 #[.string s0] w (RetV w (.bool true)) := by
  by_cases ms0 : s0.size ≤ 1048576
  case neg => exact law_ParseFunction_over0 s0 w (by omega) mx0
  exact law_ParseFunction_in s0 rn0 rx0 rb1 w  ms0  mr0 (hs ms0) (hi ms0)

end Go.Proofs.YtlhajcfmlnomjaaDoor.C
