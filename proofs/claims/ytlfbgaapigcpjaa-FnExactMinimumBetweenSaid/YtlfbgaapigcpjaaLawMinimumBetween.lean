/-
  The law 'FnExactMinimumBetween', walked: it returns true if the model and the program return the same values.
-/
import Derived.Test.YtlfbgaapigcpjaaPtA
import Derived.Test.YtlfbgaapigcpjaaAllM
import Derived.Test.YtlfbgaapigcpjaaBase
namespace Go.Proofs.Ytlfbgaapigcpjaa.C
open Go.RowKit K M
set_option linter.unusedVariables false
set_option linter.unusedSimpArgs false

set_option maxRecDepth 100000 in
set_option maxHeartbeats 8000000 in
theorem law_MinimumBetween_in (n0 : Int) (A0 : Option Addr) (xs0 : List Int) (cap0 : Nat) (z1 : Int) (z2 : Int) (ri0 : Int) (ri1 : Int) (rb2 : Bool) (w : World) (h0 : Hid (Ints w w.heap.size A0 xs0)) (mm : (xs0.length : Int) ≤ 1048576)
    (hs : Hid (∀ (W : World) (A0 : Option Addr) (c0 : Nat), Below w.heap.size w W → Hid (Ints W W.heap.size A0 xs0) → Calls Try.prog 13 #[.agg #[.int .i64 n0, .slice A0 xs0.length c0], .int .i64 z1, .int .i64 z2] W (RetV W (.tuple #[.int .i64 ri0, .int .i64 ri1, .bool rb2]))))
    (hi : Hid (∀ (W : World) (A0 : Option Addr) (c0 : Nat), Below w.heap.size w W → Hid (Ints W W.heap.size A0 xs0) → Calls Try.prog 12 #[.agg #[.int .i64 n0, .slice A0 xs0.length c0], .int .i64 z1, .int .i64 z2] W (RetV W (.tuple #[.int .i64 ri0, .int .i64 ri1, .bool rb2])))) :
    Calls Try.prog 9 #[.agg #[.int .i64 n0, .slice A0 xs0.length cap0], .int .i64 z1, .int .i64 z2] w (RetV w (.bool true)) := by
  have HW := Lib.hid (St.start w)
  go_enter Try.func9, Try.ntmps9
  go_wp2_with fail
  refine St.use (w0 := w) (L := ?L1) ?sa1 ?sb1
  case sa1 => first | exact (HW.out.alloc _ _) | exact ((HW.out.drewN _).alloc _ _) | exact (HW.out.drew.alloc _ _)
  intro hS
  try simp only [World.size_alloc] at hS
  refine (szFun_ok n0 A0 xs0.length cap0 (1048576) _ (by omega) (by omega)).mono ?_
  rintro e w1 ⟨rfl, hb⟩
  have hS1 := hS.below hb
  clear hS hb
  obtain ⟨b0, -⟩ := hS1.box (i := 0) rfl
  have b00 := b0 0 _ rfl
  have b01 := b0 1 _ rfl
  have b0l := (hS1.lt (i := 0) rfl).2
  clear b0
  have HS1 := Lib.hid hS1
  clear hS1
  go_wp2_with fail
  refine St.use (w0 := w) (L := ?L2) ?sa2 ?sb2
  case sa2 => first | exact HS1.out | exact (HS1.out.drewN _) | exact HS1.out.drew
  intro hS
  try simp only [World.size_alloc] at hS
  refine (toFun_any n0 A0 xs0 cap0 _ (Lib.hid ((h0.out.below hS.base).mono hS.size)) (by omega)).mono ?_
  rintro e w2 ⟨A_p0, c_p0, rfl, ho, hb⟩
  clear b00 b01 b0l
  have hS1 := hS.newI hb ho
  clear hS hb ho
  obtain ⟨b1, -⟩ := hS1.box (i := 1) rfl
  have b10 := b1 0 _ rfl
  have b11 := b1 1 _ rfl
  have b1l := (hS1.lt (i := 1) rfl).2
  clear b1
  have HS2 := Lib.hid hS1
  clear hS1
  go_wp2_with fail
  refine St.use (w0 := w) (L := ?L3) ?sa3 ?sb3
  case sa3 => first | exact HS2.out | exact (HS2.out.drewN _) | exact HS2.out.drew
  intro hS
  try simp only [World.size_alloc] at hS
  refine (hs.out _ _ _ hS.base (Lib.hid (hS.ints (i := 0) rfl))).mono ?_
  rintro e w3 ⟨rfl, hb⟩
  clear b10 b11 b1l
  have hS1 := hS.below hb
  clear hS hb
  obtain ⟨b1, -⟩ := hS1.box (i := 1) rfl
  have b10 := b1 0 _ rfl
  have b11 := b1 1 _ rfl
  have b1l := (hS1.lt (i := 1) rfl).2
  clear b1
  have HS3 := Lib.hid hS1
  clear hS1
  go_wp2_with fail
  refine St.use (w0 := w) (L := ?L4) ?sa4 ?sb4
  case sa4 => first | exact HS3.out | exact (HS3.out.drewN _) | exact HS3.out.drew
  intro hS
  try simp only [World.size_alloc] at hS
  refine (toFun_any n0 A0 xs0 cap0 _ (Lib.hid ((h0.out.below hS.base).mono hS.size)) (by omega)).mono ?_
  rintro e w4 ⟨A_x0, c_x0, rfl, ho, hb⟩
  clear b10 b11 b1l
  have hS1 := hS.newI hb ho
  clear hS hb ho
  obtain ⟨b2, -⟩ := hS1.box (i := 2) rfl
  have b20 := b2 0 _ rfl
  have b21 := b2 1 _ rfl
  have b2l := (hS1.lt (i := 2) rfl).2
  clear b2
  have HS4 := Lib.hid hS1
  clear hS1
  go_wp2_with fail
  refine St.use (w0 := w) (L := ?L5) ?sa5 ?sb5
  case sa5 => first | exact (HS4.out.alloc _ _) | exact ((HS4.out.drewN _).alloc _ _) | exact (HS4.out.drew.alloc _ _)
  intro hS
  try simp only [World.size_alloc] at hS
  refine (hi.out _ _ _ hS.base (Lib.hid (hS.ints (i := 1) rfl))).mono ?_
  rintro e w5 ⟨rfl, hb⟩
  clear b20 b21 b2l
  have hS1 := hS.below hb
  clear hS hb
  obtain ⟨b0, -⟩ := hS1.box (i := 0) rfl
  have b00 := b0 0 _ rfl
  have b01 := b0 1 _ rfl
  have b0l := (hS1.lt (i := 0) rfl).2
  clear b0
  obtain ⟨b3, -⟩ := hS1.box (i := 3) rfl
  have b30 := b3 0 _ rfl
  have b31 := b3 1 _ rfl
  have b3l := (hS1.lt (i := 3) rfl).2
  clear b3
  have HS5 := Lib.hid hS1
  clear hS1
  go_wp2_with fail
  go_region_held3 (fun w' => w'.cell? ⟨w4.heap.size, 0, none⟩ = some (.int .i64 n0) ∧ w'.cell? ⟨w4.heap.size, 1, none⟩ = some (.slice A_x0 xs0.length c_x0) ∧ w'.cell? ⟨w.heap.size, 0, none⟩ = some (.int .i64 n0) ∧ w'.cell? ⟨w.heap.size, 1, none⟩ = some (.slice A0 xs0.length cap0)) (first | (refine ⟨?_, ?_, ?_, ?_⟩ <;> assumption) | go_keep) (first | (go_at_call 29; (refine St.use (w0 := w) (L := ?L6) ?sa6 ?sb6); (case sa6 => first | exact HS5.out | exact (HS5.out.drewN _) | exact HS5.out.drew); (intro hS); (try simp only [World.size_alloc] at hS); (refine (toFun_any n0 A0 xs0 cap0 _ (Lib.hid ((h0.out.below hS.base).mono hS.size)) (by omega)).mono ?_); (rintro e w6 ⟨A_y0, c_y0, rfl, ho, hb⟩); (clear b00 b01 b0l b30 b31 b3l); (have hS1 := hS.newI hb ho); (clear hS hb ho); (obtain ⟨b1, -⟩ := hS1.box (i := 1) rfl); (have b10 := b1 0 _ rfl); (have b11 := b1 1 _ rfl); (have b1l := (hS1.lt (i := 1) rfl).2); (clear b1); (obtain ⟨b4, -⟩ := hS1.box (i := 4) rfl); (have b40 := b4 0 _ rfl); (have b41 := b4 1 _ rfl); (have b4l := (hS1.lt (i := 4) rfl).2); (clear b4); (have HS6 := Lib.hid hS1); (clear hS1)) | (go_at_call 30; (refine St.use (w0 := w) (L := ?L7) ?sa7 ?sb7); (case sa7 => first | exact HS6.out | exact (HS6.out.drewN _) | exact HS6.out.drew); (intro hS); (try simp only [World.size_alloc] at hS); (refine (eqFun_same n0 A_x0 A_y0 xs0 c_x0 c_y0 _ (Lib.hid (hS.ints (i := 2) rfl)) (Lib.hid (hS.ints (i := 0) rfl)) (by omega)).mono ?_); (rintro e w7 ⟨rfl, hb⟩); (clear b10 b11 b1l b40 b41 b4l); (have hS1 := hS.below hb); (clear hS hb); (obtain ⟨b1, -⟩ := hS1.box (i := 1) rfl); (have b10 := b1 0 _ rfl); (have b11 := b1 1 _ rfl); (have b1l := (hS1.lt (i := 1) rfl).2); (clear b1); (obtain ⟨b4, -⟩ := hS1.box (i := 4) rfl); (have b40 := b4 0 _ rfl); (have b41 := b4 1 _ rfl); (have b4l := (hS1.lt (i := 4) rfl).2); (clear b4); (have HS7 := Lib.hid hS1); (clear hS1)))
  go_wp2
  go_ret
  exact ⟨rfl, HS7.out.base⟩

set_option maxRecDepth 100000 in
set_option maxHeartbeats 1600000 in
theorem law_MinimumBetween_over0 (n0 : Int) (A0 : Option Addr) (xs0 : List Int) (cap0 : Nat) (z1 : Int) (z2 : Int) (w : World)  (mo : 1048576 < (xs0.length : Int)) (mx : xs0.length ≤ 9223372036854775807) :
    Calls Try.prog 9 #[.agg #[.int .i64 n0, .slice A0 xs0.length cap0], .int .i64 z1, .int .i64 z2] w (RetV w (.bool true)) := by
  have HW := Lib.hid (St.start w)
  go_enter Try.func9, Try.ntmps9
  go_wp2_with fail
  refine St.use (w0 := w) (L := ?L1) ?sa1 ?sb1
  case sa1 => first | exact (HW.out.alloc _ _) | exact ((HW.out.drewN _).alloc _ _) | exact (HW.out.drew.alloc _ _)
  intro hS
  try simp only [World.size_alloc] at hS
  refine (szFun_over n0 A0 xs0.length cap0 (1048576) _ (by omega) (by omega) mx).mono ?_
  rintro e w1 ⟨rfl, hb⟩
  have hS1 := hS.below hb
  clear hS hb
  obtain ⟨b0, -⟩ := hS1.box (i := 0) rfl
  have b00 := b0 0 _ rfl
  have b01 := b0 1 _ rfl
  have b0l := (hS1.lt (i := 0) rfl).2
  clear b0
  have HS1 := Lib.hid hS1
  clear hS1
  go_wp2
  go_ret
  exact ⟨rfl, HS1.out.base⟩

/-- Every input: where the arguments are not too large, the contracts are asked for. -/
theorem law_MinimumBetween (n0 : Int) (A0 : Option Addr) (xs0 : List Int) (cap0 : Nat) (z1 : Int) (z2 : Int) (ri0 : Int) (ri1 : Int) (rb2 : Bool) (w : World) (h0 : Hid (Ints w w.heap.size A0 xs0)) (mx0 : xs0.length ≤ 9223372036854775807) 
    (hs : (mm : (xs0.length : Int) ≤ 1048576) → Hid (∀ (W : World) (A0 : Option Addr) (c0 : Nat), Below w.heap.size w W → Hid (Ints W W.heap.size A0 xs0) → Calls Try.prog 13 #[.agg #[.int .i64 n0, .slice A0 xs0.length c0], .int .i64 z1, .int .i64 z2] W (RetV W (.tuple #[.int .i64 ri0, .int .i64 ri1, .bool rb2]))))
    (hi : (mm : (xs0.length : Int) ≤ 1048576) → Hid (∀ (W : World) (A0 : Option Addr) (c0 : Nat), Below w.heap.size w W → Hid (Ints W W.heap.size A0 xs0) → Calls Try.prog 12 #[.agg #[.int .i64 n0, .slice A0 xs0.length c0], .int .i64 z1, .int .i64 z2] W (RetV W (.tuple #[.int .i64 ri0, .int .i64 ri1, .bool rb2])))) :
    Calls Try.prog 9 #[.agg #[.int .i64 n0, .slice A0 xs0.length cap0], .int .i64 z1, .int .i64 z2] w (RetV w (.bool true)) := by
  by_cases mm : (xs0.length : Int) ≤ 1048576
  case neg => exact law_MinimumBetween_over0 n0 A0 xs0 cap0 z1 z2 w  (by omega) mx0
  exact law_MinimumBetween_in n0 A0 xs0 cap0 z1 z2 ri0 ri1 rb2 w h0   mm  (hs mm) (hi mm)

end Go.Proofs.Ytlfbgaapigcpjaa.C
