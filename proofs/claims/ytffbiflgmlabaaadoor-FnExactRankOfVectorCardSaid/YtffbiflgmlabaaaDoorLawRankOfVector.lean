/-
  The law 'FnExactRankOfVector', walked: it returns true if the model and the program return the same values.
-/
import Derived.Test.YtffbiflgmlabaaaDoorPtA
import Derived.Test.YtffbiflgmlabaaaDoorAllM
import Derived.Test.YtffbiflgmlabaaaDoorBase
namespace Go.Proofs.YtffbiflgmlabaaaDoor.C
open Go.RowKit K M
set_option linter.unusedVariables false
set_option linter.unusedSimpArgs false

set_option maxRecDepth 100000 in
set_option maxHeartbeats 8000000 in
theorem law_RankOfVector_in (n0 : Int) (A0 : Option Addr) (xs0 : List Int) (cap0 : Nat) (A1 : Option Addr) (xs1 : List Int) (cap1 : Nat) (ri0 : Int) (rb1 : Bool) (w : World) (h0 : Hid (Ints w w.heap.size A0 xs0)) (h1 : Hid (Ints w w.heap.size A1 xs1)) (ml1 : xs1.length ≤ 1048576) (mm : (xs0.length : Int) ≤ 1048576)
    (hs : Hid (∀ (W : World) (A0 : Option Addr) (c0 : Nat) (A1 : Option Addr) (c1 : Nat), Below w.heap.size w W → Hid (Ints W W.heap.size A0 xs0) → Hid (Ints W W.heap.size A1 xs1) → Calls Tryd.prog 34 #[.agg #[.int .i64 n0, .slice A0 xs0.length c0], .slice A1 xs1.length c1] W (RetV W (.tuple #[.int .i64 ri0, .bool rb1]))))
    (hi : Hid (∀ (W : World) (A0 : Option Addr) (c0 : Nat) (A1 : Option Addr) (c1 : Nat), Below w.heap.size w W → Hid (Ints W W.heap.size A0 xs0) → Hid (Ints W W.heap.size A1 xs1) → Calls Tryd.prog 33 #[.agg #[.int .i64 n0, .slice A0 xs0.length c0], .slice A1 xs1.length c1] W (RetV W (.tuple #[.int .i64 ri0, .bool rb1])))) :
    Calls Tryd.prog 7 #[.agg #[.int .i64 n0, .slice A0 xs0.length cap0], .slice A1 xs1.length cap1] w (RetV w (.bool true)) := by
  have HW := Lib.hid (St.start w)
  go_enter Tryd.func7, Tryd.ntmps7
  go_wp2_with fail
  refine St.use (w0 := w) (L := ?L1) ?sa1 ?sb1
  case sa1 => first | exact (HW.out.alloc _ _) | exact ((HW.out.drewN _).alloc _ _) | exact (HW.out.drew.alloc _ _)
  intro hS
  try simp only [World.size_alloc] at hS
  refine (szFun_ok n0 A0 xs0.length cap0 (1048576) _ (by omega) (by omega)).mono ?_
  rintro e w1 ⟨rfl, hb⟩
  have hS1 := hS.below hb
  clear hS hb
  obtain ⟨b0, -⟩ := hS1.box (i := 0) rfl
  have b00 := b0 0 _ rfl
  have b01 := b0 1 _ rfl
  have b0l := (hS1.lt (i := 0) rfl).2
  clear b0
  have HS1 := Lib.hid hS1
  clear hS1
  go_wp2_with fail
  refine St.use (w0 := w) (L := ?L2) ?sa2 ?sb2
  case sa2 => first | exact HS1.out | exact (HS1.out.drewN _) | exact HS1.out.drew
  intro hS
  try simp only [World.size_alloc] at hS
  refine (toFun_any n0 A0 xs0 cap0 _ (Lib.hid ((h0.out.below hS.base).mono hS.size)) (by omega)).mono ?_
  rintro e w2 ⟨A_p0, c_p0, rfl, ho, hb⟩
  clear b00 b01 b0l
  have hS1 := hS.newI hb ho
  clear hS hb ho
  obtain ⟨b1, -⟩ := hS1.box (i := 1) rfl
  have b10 := b1 0 _ rfl
  have b11 := b1 1 _ rfl
  have b1l := (hS1.lt (i := 1) rfl).2
  clear b1
  have HS2 := Lib.hid hS1
  clear hS1
  go_wp2_with fail
  refine St.use (w0 := w) (L := ?L3) ?sa3 ?sb3
  case sa3 => first | exact HS2.out | exact (HS2.out.drewN _) | exact HS2.out.drew
  intro hS
  try simp only [World.size_alloc] at hS
  refine (toInts_any A1 xs1 cap1 _ (Lib.hid ((h1.out.below hS.base).mono hS.size)) (by omega)).mono ?_
  rintro e w3 ⟨A_p1, c_p1, rfl, ho, hb⟩
  clear b10 b11 b1l
  have hS1 := hS.newI hb ho
  clear hS hb ho
  obtain ⟨b2, -⟩ := hS1.box (i := 2) rfl
  have b20 := b2 0 _ rfl
  have b21 := b2 1 _ rfl
  have b2l := (hS1.lt (i := 2) rfl).2
  clear b2
  have HS3 := Lib.hid hS1
  clear hS1
  go_wp2_with fail
  refine St.use (w0 := w) (L := ?L4) ?sa4 ?sb4
  case sa4 => first | exact HS3.out | exact (HS3.out.drewN _) | exact HS3.out.drew
  intro hS
  try simp only [World.size_alloc] at hS
  refine (hs.out _ _ _ _ _ hS.base (Lib.hid (hS.ints (i := 1) rfl)) (Lib.hid (hS.ints (i := 0) rfl))).mono ?_
  rintro e w4 ⟨rfl, hb⟩
  clear b20 b21 b2l
  have hS1 := hS.below hb
  clear hS hb
  obtain ⟨b2, -⟩ := hS1.box (i := 2) rfl
  have b20 := b2 0 _ rfl
  have b21 := b2 1 _ rfl
  have b2l := (hS1.lt (i := 2) rfl).2
  clear b2
  have HS4 := Lib.hid hS1
  clear hS1
  go_wp2_with fail
  refine St.use (w0 := w) (L := ?L5) ?sa5 ?sb5
  case sa5 => first | exact HS4.out | exact (HS4.out.drewN _) | exact HS4.out.drew
  intro hS
  try simp only [World.size_alloc] at hS
  refine (toFun_any n0 A0 xs0 cap0 _ (Lib.hid ((h0.out.below hS.base).mono hS.size)) (by omega)).mono ?_
  rintro e w5 ⟨A_x0, c_x0, rfl, ho, hb⟩
  clear b20 b21 b2l
  have hS1 := hS.newI hb ho
  clear hS hb ho
  obtain ⟨b3, -⟩ := hS1.box (i := 3) rfl
  have b30 := b3 0 _ rfl
  have b31 := b3 1 _ rfl
  have b3l := (hS1.lt (i := 3) rfl).2
  clear b3
  have HS5 := Lib.hid hS1
  clear hS1
  go_wp2_with fail
  refine St.use (w0 := w) (L := ?L6) ?sa6 ?sb6
  case sa6 => first | exact (HS5.out.alloc _ _) | exact ((HS5.out.drewN _).alloc _ _) | exact (HS5.out.drew.alloc _ _)
  intro hS
  try simp only [World.size_alloc] at hS
  refine (toInts_any A1 xs1 cap1 _ (Lib.hid ((h1.out.below hS.base).mono hS.size)) (by omega)).mono ?_
  rintro e w6 ⟨A_x1, c_x1, rfl, ho, hb⟩
  clear b30 b31 b3l
  have hS1 := hS.newI hb ho
  clear hS hb ho
  obtain ⟨b1, -⟩ := hS1.box (i := 1) rfl
  have b10 := b1 0 _ rfl
  have b11 := b1 1 _ rfl
  have b1l := (hS1.lt (i := 1) rfl).2
  clear b1
  obtain ⟨b5, -⟩ := hS1.box (i := 5) rfl
  have b50 := b5 0 _ rfl
  have b51 := b5 1 _ rfl
  have b5l := (hS1.lt (i := 5) rfl).2
  clear b5
  have HS6 := Lib.hid hS1
  clear hS1
  go_wp2_with fail
  refine St.use (w0 := w) (L := ?L7) ?sa7 ?sb7
  case sa7 => first | exact HS6.out | exact (HS6.out.drewN _) | exact HS6.out.drew
  intro hS
  try simp only [World.size_alloc] at hS
  refine (hi.out _ _ _ _ _ hS.base (Lib.hid (hS.ints (i := 2) rfl)) (Lib.hid (hS.ints (i := 0) rfl))).mono ?_
  rintro e w7 ⟨rfl, hb⟩
  clear b10 b11 b1l b50 b51 b5l
  have hS1 := hS.below hb
  clear hS hb
  obtain ⟨b1, -⟩ := hS1.box (i := 1) rfl
  have b10 := b1 0 _ rfl
  have b11 := b1 1 _ rfl
  have b1l := (hS1.lt (i := 1) rfl).2
  clear b1
  obtain ⟨b5, -⟩ := hS1.box (i := 5) rfl
  have b50 := b5 0 _ rfl
  have b51 := b5 1 _ rfl
  have b5l := (hS1.lt (i := 5) rfl).2
  clear b5
  have HS7 := Lib.hid hS1
  clear hS1
  go_wp2_with fail
  go_region_held3 (fun w' => w'.cell? ⟨w5.heap.size, 0, none⟩ = some (.int .i64 n0) ∧ w'.cell? ⟨w5.heap.size, 1, none⟩ = some (.slice A_x0 xs0.length c_x0) ∧ w'.cell? ⟨w.heap.size, 0, none⟩ = some (.int .i64 n0) ∧ w'.cell? ⟨w.heap.size, 1, none⟩ = some (.slice A0 xs0.length cap0)) (first | (refine ⟨?_, ?_, ?_, ?_⟩ <;> assumption) | go_keep) (first | (go_at_call 44; (refine St.use (w0 := w) (L := ?L8) ?sa8 ?sb8); (case sa8 => first | exact HS7.out | exact (HS7.out.drewN _) | exact HS7.out.drew); (intro hS); (try simp only [World.size_alloc] at hS); (refine (toFun_any n0 A0 xs0 cap0 _ (Lib.hid ((h0.out.below hS.base).mono hS.size)) (by omega)).mono ?_); (rintro e w8 ⟨A_y0, c_y0, rfl, ho, hb⟩); (clear b10 b11 b1l b50 b51 b5l); (have hS1 := hS.newI hb ho); (clear hS hb ho); (obtain ⟨b2, -⟩ := hS1.box (i := 2) rfl); (have b20 := b2 0 _ rfl); (have b21 := b2 1 _ rfl); (have b2l := (hS1.lt (i := 2) rfl).2); (clear b2); (obtain ⟨b6, -⟩ := hS1.box (i := 6) rfl); (have b60 := b6 0 _ rfl); (have b61 := b6 1 _ rfl); (have b6l := (hS1.lt (i := 6) rfl).2); (clear b6); (have HS8 := Lib.hid hS1); (clear hS1)) | (go_at_call 47; (refine St.use (w0 := w) (L := ?L9) ?sa9 ?sb9); (case sa9 => first | exact HS8.out | exact (HS8.out.drewN _) | exact HS8.out.drew); (intro hS); (try simp only [World.size_alloc] at hS); (refine (eqFun_same n0 A_x0 A_y0 xs0 c_x0 c_y0 _ (Lib.hid (hS.ints (i := 3) rfl)) (Lib.hid (hS.ints (i := 0) rfl)) (by omega)).mono ?_); (rintro e w9 ⟨rfl, hb⟩); (clear b20 b21 b2l b60 b61 b6l); (have hS1 := hS.below hb); (clear hS hb); (obtain ⟨b2, -⟩ := hS1.box (i := 2) rfl); (have b20 := b2 0 _ rfl); (have b21 := b2 1 _ rfl); (have b2l := (hS1.lt (i := 2) rfl).2); (clear b2); (obtain ⟨b6, -⟩ := hS1.box (i := 6) rfl); (have b60 := b6 0 _ rfl); (have b61 := b6 1 _ rfl); (have b6l := (hS1.lt (i := 6) rfl).2); (clear b6); (have HS9 := Lib.hid hS1); (clear hS1)))
  go_wp2_with fail
  refine St.use (w0 := w) (L := ?L10) ?sa10 ?sb10
  case sa10 => first | exact HS9.out | exact (HS9.out.drewN _) | exact HS9.out.drew
  intro hS
  try simp only [World.size_alloc] at hS
  refine (toInts_any A1 xs1 cap1 _ (Lib.hid ((h1.out.below hS.base).mono hS.size)) (by omega)).mono ?_
  rintro e w10 ⟨A_y1, c_y1, rfl, ho, hb⟩
  clear b20 b21 b2l b60 b61 b6l
  have hS1 := hS.newI hb ho
  clear hS hb ho
  obtain ⟨b3, -⟩ := hS1.box (i := 3) rfl
  have b30 := b3 0 _ rfl
  have b31 := b3 1 _ rfl
  have b3l := (hS1.lt (i := 3) rfl).2
  clear b3
  obtain ⟨b7, -⟩ := hS1.box (i := 7) rfl
  have b70 := b7 0 _ rfl
  have b71 := b7 1 _ rfl
  have b7l := (hS1.lt (i := 7) rfl).2
  clear b7
  have HS10 := Lib.hid hS1
  clear hS1
  go_wp2_with fail
  refine St.use (w0 := w) (L := ?L11) ?sa11 ?sb11
  case sa11 => first | exact HS10.out | exact (HS10.out.drewN _) | exact HS10.out.drew
  intro hS
  try simp only [World.size_alloc] at hS
  refine (eqInts_same A_x1 A_y1 xs1 c_x1 c_y1 _ (Lib.hid (hS.ints (i := 2) rfl)) (Lib.hid (hS.ints (i := 0) rfl)) (by omega)).mono ?_
  rintro e w11 ⟨rfl, m11, rfl⟩
  clear b30 b31 b3l b70 b71 b7l
  have hS1 := hS.drewN m11
  clear hS
  obtain ⟨b3, -⟩ := hS1.box (i := 3) rfl
  have b30 := b3 0 _ rfl
  have b31 := b3 1 _ rfl
  have b3l := (hS1.lt (i := 3) rfl).2
  clear b3
  obtain ⟨b7, -⟩ := hS1.box (i := 7) rfl
  have b70 := b7 0 _ rfl
  have b71 := b7 1 _ rfl
  have b7l := (hS1.lt (i := 7) rfl).2
  clear b7
  have HS11 := Lib.hid hS1
  clear hS1
  go_wp2
  go_ret
  exact ⟨rfl, HS11.out.base⟩

set_option maxRecDepth 100000 in
set_option maxHeartbeats 1600000 in
theorem law_RankOfVector_over0 (n0 : Int) (A0 : Option Addr) (xs0 : List Int) (cap0 : Nat) (A1 : Option Addr) (xs1 : List Int) (cap1 : Nat) (w : World) (ml1 : xs1.length ≤ 1048576) (mo : 1048576 < (xs0.length : Int)) (mx : xs0.length ≤ 9223372036854775807) :
    Calls Tryd.prog 7 #[.agg #[.int .i64 n0, .slice A0 xs0.length cap0], .slice A1 xs1.length cap1] w (RetV w (.bool true)) := by
  have HW := Lib.hid (St.start w)
  go_enter Tryd.func7, Tryd.ntmps7
  go_wp2_with fail
  refine St.use (w0 := w) (L := ?L1) ?sa1 ?sb1
  case sa1 => first | exact (HW.out.alloc _ _) | exact ((HW.out.drewN _).alloc _ _) | exact (HW.out.drew.alloc _ _)
  intro hS
  try simp only [World.size_alloc] at hS
  refine (szFun_over n0 A0 xs0.length cap0 (1048576) _ (by omega) (by omega) mx).mono ?_
  rintro e w1 ⟨rfl, hb⟩
  have hS1 := hS.below hb
  clear hS hb
  obtain ⟨b0, -⟩ := hS1.box (i := 0) rfl
  have b00 := b0 0 _ rfl
  have b01 := b0 1 _ rfl
  have b0l := (hS1.lt (i := 0) rfl).2
  clear b0
  have HS1 := Lib.hid hS1
  clear hS1
  go_wp2
  go_ret
  exact ⟨rfl, HS1.out.base⟩

theorem law_RankOfVector_over1 (n0 : Int) (A0 : Option Addr) (xs0 : List Int) (cap0 : Nat) (A1 : Option Addr) (xs1 : List Int) (cap1 : Nat) (w : World)  (mo : 1048576 < xs1.length) (mx : xs1.length ≤ 9223372036854775807) :
    Calls Tryd.prog 7 #[.agg #[.int .i64 n0, .slice A0 xs0.length cap0], .slice A1 xs1.length cap1] w (RetV w (.bool true)) := by
  have HW := Lib.hid (St.start w)
  have to_ : (1048576 : Int) < (xs1.length : Int) := by omega
  go_enter Tryd.func7, Tryd.ntmps7
  go_wp2
  go_ret
  exact ⟨rfl, (HW.out.alloc _ _).base⟩

/-- Every input: where the arguments are not too large, the contracts are asked for. -/
theorem law_RankOfVector (n0 : Int) (A0 : Option Addr) (xs0 : List Int) (cap0 : Nat) (A1 : Option Addr) (xs1 : List Int) (cap1 : Nat) (ri0 : Int) (rb1 : Bool) (w : World) (h0 : Hid (Ints w w.heap.size A0 xs0)) (h1 : Hid (Ints w w.heap.size A1 xs1)) (mx0 : xs0.length ≤ 9223372036854775807) (mx1 : xs1.length ≤ 9223372036854775807) 
    (hs : (mm : (xs0.length : Int) ≤ 1048576) → (ml1 : xs1.length ≤ 1048576) → Hid (∀ (W : World) (A0 : Option Addr) (c0 : Nat) (A1 : Option Addr) (c1 : Nat), Below w.heap.size w W → Hid (Ints W W.heap.size A0 xs0) → Hid (Ints W W.heap.size A1 xs1) → Calls Tryd.prog 34 #[.agg #[.int .i64 n0, .slice A0 xs0.length c0], .slice A1 xs1.length c1] W (RetV W (.tuple #[.int .i64 ri0, .bool rb1]))))
    (hi : (mm : (xs0.length : Int) ≤ 1048576) → (ml1 : xs1.length ≤ 1048576) → Hid (∀ (W : World) (A0 : Option Addr) (c0 : Nat) (A1 : Option Addr) (c1 : Nat), Below w.heap.size w W → Hid (Ints W W.heap.size A0 xs0) → Hid (Ints W W.heap.size A1 xs1) → Calls Tryd.prog 33 #[.agg #[.int .i64 n0, .slice A0 xs0.length c0], .slice A1 xs1.length c1] W (RetV W (.tuple #[.int .i64 ri0, .bool rb1])))) :
    Calls Tryd.prog 7 #[.agg #[.int .i64 n0, .slice A0 xs0.length cap0], .slice A1 xs1.length cap1] w (RetV w (.bool true)) := by
  by_cases ml1 : xs1.length ≤ 1048576
  case neg => exact law_RankOfVector_over1 n0 A0 xs0 cap0 A1 xs1 cap1 w  (by omega) mx1
  by_cases mm : (xs0.length : Int) ≤ 1048576
  case neg => exact law_RankOfVector_over0 n0 A0 xs0 cap0 A1 xs1 cap1 w ml1 (by omega) mx0
  exact law_RankOfVector_in n0 A0 xs0 cap0 A1 xs1 cap1 ri0 rb1 w h0 h1  ml1 mm  (hs mm ml1) (hi mm ml1)

end Go.Proofs.YtffbiflgmlabaaaDoor.C
