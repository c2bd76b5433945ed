/-
  The law 'FnExactRaiseVector', walked: it returns true if the model and the program return the same values.
-/
import Derived.Test.YtffbiflgmlabaaaDoorPtA
import Derived.Test.YtffbiflgmlabaaaDoorAllM
import Derived.Test.YtffbiflgmlabaaaDoorBase
namespace Go.Proofs.YtffbiflgmlabaaaDoor.C
open Go.RowKit K M
set_option linter.unusedVariables false
set_option linter.unusedSimpArgs false

set_option maxRecDepth 100000 in
set_option maxHeartbeats 8000000 in
theorem law_RaiseVector_in (n0 : Int) (A0 : Option Addr) (xs0 : List Int) (cap0 : Nat) (A1 : Option Addr) (xs1 : List Int) (cap1 : Nat) (A2 : Option Addr) (xs2 : List Int) (cap2 : Nat) (rx0 : List Int) (rb1 : Bool) (w : World) (h0 : Hid (Ints w w.heap.size A0 xs0)) (h1 : Hid (Ints w w.heap.size A1 xs1)) (h2 : Hid (Ints w w.heap.size A2 xs2)) (ml1 : xs1.length ≤ 1048576) (ml2 : xs2.length ≤ 1048576) (mm : (xs0.length : Int) ≤ 1048576) (mr0 : rx0.length ≤ 1048576)
    (hs : Hid (∀ (W : World) (A0 : Option Addr) (c0 : Nat) (A1 : Option Addr) (c1 : Nat) (A2 : Option Addr) (c2 : Nat), Below w.heap.size w W → Hid (Ints W W.heap.size A0 xs0) → Hid (Ints W W.heap.size A1 xs1) → Hid (Ints W W.heap.size A2 xs2) → Calls Tryd.prog 30 #[.agg #[.int .i64 n0, .slice A0 xs0.length c0], .slice A1 xs1.length c1, .slice A2 xs2.length c2] W (RetIB W rx0 rb1)))
    (hi : Hid (∀ (W : World) (A0 : Option Addr) (c0 : Nat) (A1 : Option Addr) (c1 : Nat) (A2 : Option Addr) (c2 : Nat), Below w.heap.size w W → Hid (Ints W W.heap.size A0 xs0) → Hid (Ints W W.heap.size A1 xs1) → Hid (Ints W W.heap.size A2 xs2) → Calls Tryd.prog 29 #[.agg #[.int .i64 n0, .slice A0 xs0.length c0], .slice A1 xs1.length c1, .slice A2 xs2.length c2] W (RetIB W rx0 rb1))) :
    Calls Tryd.prog 6 #[.agg #[.int .i64 n0, .slice A0 xs0.length cap0], .slice A1 xs1.length cap1, .slice A2 xs2.length cap2] w (RetV w (.bool true)) := by
  have HW := Lib.hid (St.start w)
  go_enter Tryd.func6, Tryd.ntmps6
  go_wp2_with fail
  refine St.use (w0 := w) (L := ?L1) ?sa1 ?sb1
  case sa1 => first | exact (HW.out.alloc _ _) | exact ((HW.out.drewN _).alloc _ _) | exact (HW.out.drew.alloc _ _)
  intro hS
  try simp only [World.size_alloc] at hS
  refine (szFun_ok n0 A0 xs0.length cap0 (1048576) _ (by omega) (by omega)).mono ?_
  rintro e w1 ⟨rfl, hb⟩
  have hS1 := hS.below hb
  clear hS hb
  obtain ⟨b0, -⟩ := hS1.box (i := 0) rfl
  have b00 := b0 0 _ rfl
  have b01 := b0 1 _ rfl
  have b0l := (hS1.lt (i := 0) rfl).2
  clear b0
  have HS1 := Lib.hid hS1
  clear hS1
  go_wp2_with fail
  refine St.use (w0 := w) (L := ?L2) ?sa2 ?sb2
  case sa2 => first | exact HS1.out | exact (HS1.out.drewN _) | exact HS1.out.drew
  intro hS
  try simp only [World.size_alloc] at hS
  refine (toFun_any n0 A0 xs0 cap0 _ (Lib.hid ((h0.out.below hS.base).mono hS.size)) (by omega)).mono ?_
  rintro e w2 ⟨A_p0, c_p0, rfl, ho, hb⟩
  clear b00 b01 b0l
  have hS1 := hS.newI hb ho
  clear hS hb ho
  obtain ⟨b1, -⟩ := hS1.box (i := 1) rfl
  have b10 := b1 0 _ rfl
  have b11 := b1 1 _ rfl
  have b1l := (hS1.lt (i := 1) rfl).2
  clear b1
  have HS2 := Lib.hid hS1
  clear hS1
  go_wp2_with fail
  refine St.use (w0 := w) (L := ?L3) ?sa3 ?sb3
  case sa3 => first | exact HS2.out | exact (HS2.out.drewN _) | exact HS2.out.drew
  intro hS
  try simp only [World.size_alloc] at hS
  refine (toInts_any A1 xs1 cap1 _ (Lib.hid ((h1.out.below hS.base).mono hS.size)) (by omega)).mono ?_
  rintro e w3 ⟨A_p1, c_p1, rfl, ho, hb⟩
  clear b10 b11 b1l
  have hS1 := hS.newI hb ho
  clear hS hb ho
  obtain ⟨b2, -⟩ := hS1.box (i := 2) rfl
  have b20 := b2 0 _ rfl
  have b21 := b2 1 _ rfl
  have b2l := (hS1.lt (i := 2) rfl).2
  clear b2
  have HS3 := Lib.hid hS1
  clear hS1
  go_wp2_with fail
  refine St.use (w0 := w) (L := ?L4) ?sa4 ?sb4
  case sa4 => first | exact HS3.out | exact (HS3.out.drewN _) | exact HS3.out.drew
  intro hS
  try simp only [World.size_alloc] at hS
  refine (toInts_any A2 xs2 cap2 _ (Lib.hid ((h2.out.below hS.base).mono hS.size)) (by omega)).mono ?_
  rintro e w4 ⟨A_p2, c_p2, rfl, ho, hb⟩
  clear b20 b21 b2l
  have hS1 := hS.newI hb ho
  clear hS hb ho
  obtain ⟨b3, -⟩ := hS1.box (i := 3) rfl
  have b30 := b3 0 _ rfl
  have b31 := b3 1 _ rfl
  have b3l := (hS1.lt (i := 3) rfl).2
  clear b3
  have HS4 := Lib.hid hS1
  clear hS1
  go_wp2_with fail
  refine St.use (w0 := w) (L := ?L5) ?sa5 ?sb5
  case sa5 => first | exact HS4.out | exact (HS4.out.drewN _) | exact HS4.out.drew
  intro hS
  try simp only [World.size_alloc] at hS
  refine (hs.out _ _ _ _ _ _ _ hS.base (Lib.hid (hS.ints (i := 2) rfl)) (Lib.hid (hS.ints (i := 1) rfl)) (Lib.hid (hS.ints (i := 0) rfl))).mono ?_
  rintro e w5 ⟨A_w, c_w, rfl, ho, hb⟩
  clear b30 b31 b3l
  have hS1 := hS.newI hb ho
  clear hS hb ho
  obtain ⟨b4, -⟩ := hS1.box (i := 4) rfl
  have b40 := b4 0 _ rfl
  have b41 := b4 1 _ rfl
  have b4l := (hS1.lt (i := 4) rfl).2
  clear b4
  have HS5 := Lib.hid hS1
  clear hS1
  go_wp2_with fail
  refine St.use (w0 := w) (L := ?L6) ?sa6 ?sb6
  case sa6 => first | exact HS5.out | exact (HS5.out.drewN _) | exact HS5.out.drew
  intro hS
  try simp only [World.size_alloc] at hS
  refine (toFun_any n0 A0 xs0 cap0 _ (Lib.hid ((h0.out.below hS.base).mono hS.size)) (by omega)).mono ?_
  rintro e w6 ⟨A_x0, c_x0, rfl, ho, hb⟩
  clear b40 b41 b4l
  have hS1 := hS.newI hb ho
  clear hS hb ho
  obtain ⟨b5, -⟩ := hS1.box (i := 5) rfl
  have b50 := b5 0 _ rfl
  have b51 := b5 1 _ rfl
  have b5l := (hS1.lt (i := 5) rfl).2
  clear b5
  have HS6 := Lib.hid hS1
  clear hS1
  go_wp2_with fail
  refine St.use (w0 := w) (L := ?L7) ?sa7 ?sb7
  case sa7 => first | exact (HS6.out.alloc _ _) | exact ((HS6.out.drewN _).alloc _ _) | exact (HS6.out.drew.alloc _ _)
  intro hS
  try simp only [World.size_alloc] at hS
  refine (toInts_any A1 xs1 cap1 _ (Lib.hid ((h1.out.below hS.base).mono hS.size)) (by omega)).mono ?_
  rintro e w7 ⟨A_x1, c_x1, rfl, ho, hb⟩
  clear b50 b51 b5l
  have hS1 := hS.newI hb ho
  clear hS hb ho
  obtain ⟨b1, -⟩ := hS1.box (i := 1) rfl
  have b10 := b1 0 _ rfl
  have b11 := b1 1 _ rfl
  have b1l := (hS1.lt (i := 1) rfl).2
  clear b1
  obtain ⟨b7, -⟩ := hS1.box (i := 7) rfl
  have b70 := b7 0 _ rfl
  have b71 := b7 1 _ rfl
  have b7l := (hS1.lt (i := 7) rfl).2
  clear b7
  have HS7 := Lib.hid hS1
  clear hS1
  go_wp2_with fail
  refine St.use (w0 := w) (L := ?L8) ?sa8 ?sb8
  case sa8 => first | exact HS7.out | exact (HS7.out.drewN _) | exact HS7.out.drew
  intro hS
  try simp only [World.size_alloc] at hS
  refine (toInts_any A2 xs2 cap2 _ (Lib.hid ((h2.out.below hS.base).mono hS.size)) (by omega)).mono ?_
  rintro e w8 ⟨A_x2, c_x2, rfl, ho, hb⟩
  clear b10 b11 b1l b70 b71 b7l
  have hS1 := hS.newI hb ho
  clear hS hb ho
  obtain ⟨b2, -⟩ := hS1.box (i := 2) rfl
  have b20 := b2 0 _ rfl
  have b21 := b2 1 _ rfl
  have b2l := (hS1.lt (i := 2) rfl).2
  clear b2
  obtain ⟨b8, -⟩ := hS1.box (i := 8) rfl
  have b80 := b8 0 _ rfl
  have b81 := b8 1 _ rfl
  have b8l := (hS1.lt (i := 8) rfl).2
  clear b8
  have HS8 := Lib.hid hS1
  clear hS1
  go_wp2_with fail
  refine St.use (w0 := w) (L := ?L9) ?sa9 ?sb9
  case sa9 => first | exact HS8.out | exact (HS8.out.drewN _) | exact HS8.out.drew
  intro hS
  try simp only [World.size_alloc] at hS
  refine (hi.out _ _ _ _ _ _ _ hS.base (Lib.hid (hS.ints (i := 3) rfl)) (Lib.hid (hS.ints (i := 1) rfl)) (Lib.hid (hS.ints (i := 0) rfl))).mono ?_
  rintro e w9 ⟨A_g, c_g, rfl, ho, hb⟩
  clear b20 b21 b2l b80 b81 b8l
  have hS1 := hS.newI hb ho
  clear hS hb ho
  obtain ⟨b3, -⟩ := hS1.box (i := 3) rfl
  have b30 := b3 0 _ rfl
  have b31 := b3 1 _ rfl
  have b3l := (hS1.lt (i := 3) rfl).2
  clear b3
  obtain ⟨b9, -⟩ := hS1.box (i := 9) rfl
  have b90 := b9 0 _ rfl
  have b91 := b9 1 _ rfl
  have b9l := (hS1.lt (i := 9) rfl).2
  clear b9
  have HS9 := Lib.hid hS1
  clear hS1
  go_wp2_with fail
  refine St.use (w0 := w) (L := ?L10) ?sa10 ?sb10
  case sa10 => first | exact HS9.out | exact (HS9.out.drewN _) | exact HS9.out.drew
  intro hS
  try simp only [World.size_alloc] at hS
  refine (eqInts_same A_g A_w rx0 c_g c_w _ (Lib.hid (hS.ints (i := 0) rfl)) (Lib.hid (hS.ints (i := 5) rfl)) (by omega)).mono ?_
  rintro e w10 ⟨rfl, m10, rfl⟩
  clear b30 b31 b3l b90 b91 b9l
  have hS1 := hS.drewN m10
  clear hS
  obtain ⟨b3, -⟩ := hS1.box (i := 3) rfl
  have b30 := b3 0 _ rfl
  have b31 := b3 1 _ rfl
  have b3l := (hS1.lt (i := 3) rfl).2
  clear b3
  obtain ⟨b9, -⟩ := hS1.box (i := 9) rfl
  have b90 := b9 0 _ rfl
  have b91 := b9 1 _ rfl
  have b9l := (hS1.lt (i := 9) rfl).2
  clear b9
  have HS10 := Lib.hid hS1
  clear hS1
  go_wp2_with fail
  go_region_held3 (fun w' => w'.cell? ⟨w6.heap.size, 0, none⟩ = some (.int .i64 n0) ∧ w'.cell? ⟨w6.heap.size, 1, none⟩ = some (.slice A_x0 xs0.length c_x0) ∧ w'.cell? ⟨w.heap.size, 0, none⟩ = some (.int .i64 n0) ∧ w'.cell? ⟨w.heap.size, 1, none⟩ = some (.slice A0 xs0.length cap0)) (first | (refine ⟨?_, ?_, ?_, ?_⟩ <;> assumption) | go_keep) (first | (go_at_call 44; (refine St.use (w0 := w) (L := ?L11) ?sa11 ?sb11); (case sa11 => first | exact HS10.out | exact (HS10.out.drewN _) | exact HS10.out.drew); (intro hS); (try simp only [World.size_alloc] at hS); (refine (toFun_any n0 A0 xs0 cap0 _ (Lib.hid ((h0.out.below hS.base).mono hS.size)) (by omega)).mono ?_); (rintro e w11 ⟨A_y0, c_y0, rfl, ho, hb⟩); (clear b30 b31 b3l b90 b91 b9l); (have hS1 := hS.newI hb ho); (clear hS hb ho); (obtain ⟨b4, -⟩ := hS1.box (i := 4) rfl); (have b40 := b4 0 _ rfl); (have b41 := b4 1 _ rfl); (have b4l := (hS1.lt (i := 4) rfl).2); (clear b4); (obtain ⟨b10, -⟩ := hS1.box (i := 10) rfl); (have b100 := b10 0 _ rfl); (have b101 := b10 1 _ rfl); (have b10l := (hS1.lt (i := 10) rfl).2); (clear b10); (have HS11 := Lib.hid hS1); (clear hS1)) | (go_at_call 47; (refine St.use (w0 := w) (L := ?L12) ?sa12 ?sb12); (case sa12 => first | exact HS11.out | exact (HS11.out.drewN _) | exact HS11.out.drew); (intro hS); (try simp only [World.size_alloc] at hS); (refine (eqFun_same n0 A_x0 A_y0 xs0 c_x0 c_y0 _ (Lib.hid (hS.ints (i := 5) rfl)) (Lib.hid (hS.ints (i := 0) rfl)) (by omega)).mono ?_); (rintro e w12 ⟨rfl, hb⟩); (clear b40 b41 b4l b100 b101 b10l); (have hS1 := hS.below hb); (clear hS hb); (obtain ⟨b4, -⟩ := hS1.box (i := 4) rfl); (have b40 := b4 0 _ rfl); (have b41 := b4 1 _ rfl); (have b4l := (hS1.lt (i := 4) rfl).2); (clear b4); (obtain ⟨b10, -⟩ := hS1.box (i := 10) rfl); (have b100 := b10 0 _ rfl); (have b101 := b10 1 _ rfl); (have b10l := (hS1.lt (i := 10) rfl).2); (clear b10); (have HS12 := Lib.hid hS1); (clear hS1)))
  go_wp2_with fail
  refine St.use (w0 := w) (L := ?L13) ?sa13 ?sb13
  case sa13 => first | exact HS12.out | exact (HS12.out.drewN _) | exact HS12.out.drew
  intro hS
  try simp only [World.size_alloc] at hS
  refine (toInts_any A1 xs1 cap1 _ (Lib.hid ((h1.out.below hS.base).mono hS.size)) (by omega)).mono ?_
  rintro e w13 ⟨A_y1, c_y1, rfl, ho, hb⟩
  clear b40 b41 b4l b100 b101 b10l
  have hS1 := hS.newI hb ho
  clear hS hb ho
  obtain ⟨b5, -⟩ := hS1.box (i := 5) rfl
  have b50 := b5 0 _ rfl
  have b51 := b5 1 _ rfl
  have b5l := (hS1.lt (i := 5) rfl).2
  clear b5
  obtain ⟨b11, -⟩ := hS1.box (i := 11) rfl
  have b110 := b11 0 _ rfl
  have b111 := b11 1 _ rfl
  have b11l := (hS1.lt (i := 11) rfl).2
  clear b11
  have HS13 := Lib.hid hS1
  clear hS1
  go_wp2_with fail
  refine St.use (w0 := w) (L := ?L14) ?sa14 ?sb14
  case sa14 => first | exact HS13.out | exact (HS13.out.drewN _) | exact HS13.out.drew
  intro hS
  try simp only [World.size_alloc] at hS
  refine (eqInts_same A_x1 A_y1 xs1 c_x1 c_y1 _ (Lib.hid (hS.ints (i := 4) rfl)) (Lib.hid (hS.ints (i := 0) rfl)) (by omega)).mono ?_
  rintro e w14 ⟨rfl, m14, rfl⟩
  clear b50 b51 b5l b110 b111 b11l
  have hS1 := hS.drewN m14
  clear hS
  obtain ⟨b5, -⟩ := hS1.box (i := 5) rfl
  have b50 := b5 0 _ rfl
  have b51 := b5 1 _ rfl
  have b5l := (hS1.lt (i := 5) rfl).2
  clear b5
  obtain ⟨b11, -⟩ := hS1.box (i := 11) rfl
  have b110 := b11 0 _ rfl
  have b111 := b11 1 _ rfl
  have b11l := (hS1.lt (i := 11) rfl).2
  clear b11
  have HS14 := Lib.hid hS1
  clear hS1
  go_wp2_with fail
  refine St.use (w0 := w) (L := ?L15) ?sa15 ?sb15
  case sa15 => first | exact HS14.out | exact (HS14.out.drewN _) | exact HS14.out.drew
  intro hS
  try simp only [World.size_alloc] at hS
  refine (toInts_any A2 xs2 cap2 _ (Lib.hid ((h2.out.below hS.base).mono hS.size)) (by omega)).mono ?_
  rintro e w15 ⟨A_y2, c_y2, rfl, ho, hb⟩
  clear b50 b51 b5l b110 b111 b11l
  have hS1 := hS.newI hb ho
  clear hS hb ho
  obtain ⟨b6, -⟩ := hS1.box (i := 6) rfl
  have b60 := b6 0 _ rfl
  have b61 := b6 1 _ rfl
  have b6l := (hS1.lt (i := 6) rfl).2
  clear b6
  obtain ⟨b12, -⟩ := hS1.box (i := 12) rfl
  have b120 := b12 0 _ rfl
  have b121 := b12 1 _ rfl
  have b12l := (hS1.lt (i := 12) rfl).2
  clear b12
  have HS15 := Lib.hid hS1
  clear hS1
  go_wp2_with fail
  refine St.use (w0 := w) (L := ?L16) ?sa16 ?sb16
  case sa16 => first | exact HS15.out | exact (HS15.out.drewN _) | exact HS15.out.drew
  intro hS
  try simp only [World.size_alloc] at hS
  refine (eqInts_same A_x2 A_y2 xs2 c_x2 c_y2 _ (Lib.hid (hS.ints (i := 4) rfl)) (Lib.hid (hS.ints (i := 0) rfl)) (by omega)).mono ?_
  rintro e w16 ⟨rfl, m16, rfl⟩
  clear b60 b61 b6l b120 b121 b12l
  have hS1 := hS.drewN m16
  clear hS
  obtain ⟨b6, -⟩ := hS1.box (i := 6) rfl
  have b60 := b6 0 _ rfl
  have b61 := b6 1 _ rfl
  have b6l := (hS1.lt (i := 6) rfl).2
  clear b6
  obtain ⟨b12, -⟩ := hS1.box (i := 12) rfl
  have b120 := b12 0 _ rfl
  have b121 := b12 1 _ rfl
  have b12l := (hS1.lt (i := 12) rfl).2
  clear b12
  have HS16 := Lib.hid hS1
  clear hS1
  go_wp2_with fail
  refine St.use (w0 := w) (L := ?L17) ?sa17 ?sb17
  case sa17 => first | exact HS16.out | exact (HS16.out.drewN _) | exact HS16.out.drew
  intro hS
  try simp only [World.size_alloc] at hS
  refine (markFun_any n0 A_x0 xs0 c_x0 w.heap.size (1) _ (Lib.hid (hS.ownI (i := 7) rfl)) (by omega) (by omega) (by omega)).mono ?_
  rintro e w17 ⟨rfl, ho, hg⟩
  have hb := True.intro
  clear b60 b61 b6l b120 b121 b12l
  have hS1 := hS.markI (i := 7) rfl hg ho
  clear hS hb ho hg
  obtain ⟨b6, -⟩ := hS1.box (i := 6) rfl
  have b60 := b6 0 _ rfl
  have b61 := b6 1 _ rfl
  have b6l := (hS1.lt (i := 6) rfl).2
  clear b6
  obtain ⟨b12, -⟩ := hS1.box (i := 12) rfl
  have b120 := b12 0 _ rfl
  have b121 := b12 1 _ rfl
  have b12l := (hS1.lt (i := 12) rfl).2
  clear b12
  have HS17 := Lib.hid hS1
  clear hS1
  go_wp2_with fail
  refine St.use (w0 := w) (L := ?L18) ?sa18 ?sb18
  case sa18 => first | exact HS17.out | exact (HS17.out.drewN _) | exact HS17.out.drew
  intro hS
  try simp only [World.size_alloc] at hS
  refine (markInts_any A_x1 xs1 c_x1 w.heap.size (1 + (xs0.length : Int)) _ (Lib.hid (hS.ownI (i := 5) rfl)) (by omega) (by omega) (by omega)).mono ?_
  rintro e w18 ⟨rfl, ho, hg⟩
  have hb := True.intro
  clear b60 b61 b6l b120 b121 b12l
  have hS1 := hS.markI (i := 5) rfl hg ho
  clear hS hb ho hg
  obtain ⟨b6, -⟩ := hS1.box (i := 6) rfl
  have b60 := b6 0 _ rfl
  have b61 := b6 1 _ rfl
  have b6l := (hS1.lt (i := 6) rfl).2
  clear b6
  obtain ⟨b12, -⟩ := hS1.box (i := 12) rfl
  have b120 := b12 0 _ rfl
  have b121 := b12 1 _ rfl
  have b12l := (hS1.lt (i := 12) rfl).2
  clear b12
  have HS18 := Lib.hid hS1
  clear hS1
  go_wp2_with fail
  refine St.use (w0 := w) (L := ?L19) ?sa19 ?sb19
  case sa19 => first | exact HS18.out | exact (HS18.out.drewN _) | exact HS18.out.drew
  intro hS
  try simp only [World.size_alloc] at hS
  refine (markInts_any A_x2 xs2 c_x2 w.heap.size (1 + (xs0.length : Int) + (xs1.length : Int)) _ (Lib.hid (hS.ownI (i := 4) rfl)) (by omega) (by omega) (by omega)).mono ?_
  rintro e w19 ⟨rfl, ho, hg⟩
  have hb := True.intro
  clear b60 b61 b6l b120 b121 b12l
  have hS1 := hS.markI (i := 4) rfl hg ho
  clear hS hb ho hg
  obtain ⟨b6, -⟩ := hS1.box (i := 6) rfl
  have b60 := b6 0 _ rfl
  have b61 := b6 1 _ rfl
  have b6l := (hS1.lt (i := 6) rfl).2
  clear b6
  obtain ⟨b12, -⟩ := hS1.box (i := 12) rfl
  have b120 := b12 0 _ rfl
  have b121 := b12 1 _ rfl
  have b12l := (hS1.lt (i := 12) rfl).2
  clear b12
  have HS19 := Lib.hid hS1
  clear hS1
  go_wp2_with fail
  refine St.use (w0 := w) (L := ?L20) ?sa20 ?sb20
  case sa20 => first | exact HS19.out | exact (HS19.out.drewN _) | exact HS19.out.drew
  intro hS
  try simp only [World.size_alloc] at hS
  refine (eqInts_same A_g A_w rx0 c_g c_w _ (Lib.hid (hS.ints (i := 3) rfl)) (Lib.hid (hS.ints (i := 8) rfl)) (by omega)).mono ?_
  rintro e w20 ⟨rfl, m20, rfl⟩
  clear b60 b61 b6l b120 b121 b12l
  have hS1 := hS.drewN m20
  clear hS
  obtain ⟨b6, -⟩ := hS1.box (i := 6) rfl
  have b60 := b6 0 _ rfl
  have b61 := b6 1 _ rfl
  have b6l := (hS1.lt (i := 6) rfl).2
  clear b6
  obtain ⟨b12, -⟩ := hS1.box (i := 12) rfl
  have b120 := b12 0 _ rfl
  have b121 := b12 1 _ rfl
  have b12l := (hS1.lt (i := 12) rfl).2
  clear b12
  have HS20 := Lib.hid hS1
  clear hS1
  go_wp2_with fail
  refine St.use (w0 := w) (L := ?L21) ?sa21 ?sb21
  case sa21 => first | exact HS20.out | exact (HS20.out.drewN _) | exact HS20.out.drew
  intro hS
  try simp only [World.size_alloc] at hS
  refine (markInts_any A_g rx0 c_g w.heap.size (1) _ (Lib.hid (hS.ownI (i := 3) rfl)) (by omega) (by omega) (by omega)).mono ?_
  rintro e w21 ⟨rfl, ho, hg⟩
  have hb := True.intro
  clear b60 b61 b6l b120 b121 b12l
  have hS1 := hS.markI (i := 3) rfl hg ho
  clear hS hb ho hg
  obtain ⟨b6, -⟩ := hS1.box (i := 6) rfl
  have b60 := b6 0 _ rfl
  have b61 := b6 1 _ rfl
  have b6l := (hS1.lt (i := 6) rfl).2
  clear b6
  obtain ⟨b12, -⟩ := hS1.box (i := 12) rfl
  have b120 := b12 0 _ rfl
  have b121 := b12 1 _ rfl
  have b12l := (hS1.lt (i := 12) rfl).2
  clear b12
  have HS21 := Lib.hid hS1
  clear hS1
  go_wp2_with fail
  refine St.use (w0 := w) (L := ?L22) ?sa22 ?sb22
  case sa22 => first | exact HS21.out | exact (HS21.out.drewN _) | exact HS21.out.drew
  intro hS
  try simp only [World.size_alloc] at hS
  refine (heldInts_any A_g rx0.length c_g (1) _ (Lib.hid (hS.ints (i := 3) rfl)) (by omega) (by omega) (by omega)).mono ?_
  rintro e w22 ⟨rfl, rfl⟩
  clear b60 b61 b6l b120 b121 b12l
  have hS1 := hS
  clear hS
  obtain ⟨b6, -⟩ := hS1.box (i := 6) rfl
  have b60 := b6 0 _ rfl
  have b61 := b6 1 _ rfl
  have b6l := (hS1.lt (i := 6) rfl).2
  clear b6
  obtain ⟨b12, -⟩ := hS1.box (i := 12) rfl
  have b120 := b12 0 _ rfl
  have b121 := b12 1 _ rfl
  have b12l := (hS1.lt (i := 12) rfl).2
  clear b12
  have HS22 := Lib.hid hS1
  clear hS1
  go_wp2_with fail
  refine St.use (w0 := w) (L := ?L23) ?sa23 ?sb23
  case sa23 => first | exact HS22.out | exact (HS22.out.drewN _) | exact HS22.out.drew
  intro hS
  try simp only [World.size_alloc] at hS
  refine (toFun_any n0 A0 xs0 cap0 _ (Lib.hid ((h0.out.below hS.base).mono hS.size)) (by omega)).mono ?_
  rintro e w23 ⟨A_z0, c_z0, rfl, ho, hb⟩
  clear b60 b61 b6l b120 b121 b12l
  have hS1 := hS.newI hb ho
  clear hS hb ho
  obtain ⟨b7, -⟩ := hS1.box (i := 7) rfl
  have b70 := b7 0 _ rfl
  have b71 := b7 1 _ rfl
  have b7l := (hS1.lt (i := 7) rfl).2
  clear b7
  obtain ⟨b13, -⟩ := hS1.box (i := 13) rfl
  have b130 := b13 0 _ rfl
  have b131 := b13 1 _ rfl
  have b13l := (hS1.lt (i := 13) rfl).2
  clear b13
  have HS23 := Lib.hid hS1
  clear hS1
  go_wp2_with fail
  refine St.use (w0 := w) (L := ?L24) ?sa24 ?sb24
  case sa24 => first | exact HS23.out | exact (HS23.out.drewN _) | exact HS23.out.drew
  intro hS
  try simp only [World.size_alloc] at hS
  refine (toInts_any A1 xs1 cap1 _ (Lib.hid ((h1.out.below hS.base).mono hS.size)) (by omega)).mono ?_
  rintro e w24 ⟨A_z1, c_z1, rfl, ho, hb⟩
  clear b70 b71 b7l b130 b131 b13l
  have hS1 := hS.newI hb ho
  clear hS hb ho
  obtain ⟨b8, -⟩ := hS1.box (i := 8) rfl
  have b80 := b8 0 _ rfl
  have b81 := b8 1 _ rfl
  have b8l := (hS1.lt (i := 8) rfl).2
  clear b8
  obtain ⟨b14, -⟩ := hS1.box (i := 14) rfl
  have b140 := b14 0 _ rfl
  have b141 := b14 1 _ rfl
  have b14l := (hS1.lt (i := 14) rfl).2
  clear b14
  have HS24 := Lib.hid hS1
  clear hS1
  go_wp2_with fail
  refine St.use (w0 := w) (L := ?L25) ?sa25 ?sb25
  case sa25 => first | exact HS24.out | exact (HS24.out.drewN _) | exact HS24.out.drew
  intro hS
  try simp only [World.size_alloc] at hS
  refine (toInts_any A2 xs2 cap2 _ (Lib.hid ((h2.out.below hS.base).mono hS.size)) (by omega)).mono ?_
  rintro e w25 ⟨A_z2, c_z2, rfl, ho, hb⟩
  clear b80 b81 b8l b140 b141 b14l
  have hS1 := hS.newI hb ho
  clear hS hb ho
  obtain ⟨b9, -⟩ := hS1.box (i := 9) rfl
  have b90 := b9 0 _ rfl
  have b91 := b9 1 _ rfl
  have b9l := (hS1.lt (i := 9) rfl).2
  clear b9
  obtain ⟨b15, -⟩ := hS1.box (i := 15) rfl
  have b150 := b15 0 _ rfl
  have b151 := b15 1 _ rfl
  have b15l := (hS1.lt (i := 15) rfl).2
  clear b15
  have HS25 := Lib.hid hS1
  clear hS1
  go_wp2_with fail
  refine St.use (w0 := w) (L := ?L26) ?sa26 ?sb26
  case sa26 => first | exact HS25.out | exact (HS25.out.drewN _) | exact HS25.out.drew
  intro hS
  try simp only [World.size_alloc] at hS
  refine (hi.out _ _ _ _ _ _ _ hS.base (Lib.hid (hS.ints (i := 2) rfl)) (Lib.hid (hS.ints (i := 1) rfl)) (Lib.hid (hS.ints (i := 0) rfl))).mono ?_
  rintro e w26 ⟨A_h, c_h, rfl, ho, hb⟩
  clear b90 b91 b9l b150 b151 b15l
  have hS1 := hS.newI hb ho
  clear hS hb ho
  obtain ⟨b10, -⟩ := hS1.box (i := 10) rfl
  have b100 := b10 0 _ rfl
  have b101 := b10 1 _ rfl
  have b10l := (hS1.lt (i := 10) rfl).2
  clear b10
  obtain ⟨b16, -⟩ := hS1.box (i := 16) rfl
  have b160 := b16 0 _ rfl
  have b161 := b16 1 _ rfl
  have b16l := (hS1.lt (i := 16) rfl).2
  clear b16
  have HS26 := Lib.hid hS1
  clear hS1
  go_wp2_with fail
  refine St.use (w0 := w) (L := ?L27) ?sa27 ?sb27
  case sa27 => first | exact HS26.out | exact (HS26.out.drewN _) | exact HS26.out.drew
  intro hS
  try simp only [World.size_alloc] at hS
  refine (eqInts_same A_h A_w rx0 c_h c_w _ (Lib.hid (hS.ints (i := 0) rfl)) (Lib.hid (hS.ints (i := 12) rfl)) (by omega)).mono ?_
  rintro e w27 ⟨rfl, m27, rfl⟩
  clear b100 b101 b10l b160 b161 b16l
  have hS1 := hS.drewN m27
  clear hS
  obtain ⟨b10, -⟩ := hS1.box (i := 10) rfl
  have b100 := b10 0 _ rfl
  have b101 := b10 1 _ rfl
  have b10l := (hS1.lt (i := 10) rfl).2
  clear b10
  obtain ⟨b16, -⟩ := hS1.box (i := 16) rfl
  have b160 := b16 0 _ rfl
  have b161 := b16 1 _ rfl
  have b16l := (hS1.lt (i := 16) rfl).2
  clear b16
  have HS27 := Lib.hid hS1
  clear hS1
  go_wp2_with fail
  refine St.use (w0 := w) (L := ?L28) ?sa28 ?sb28
  case sa28 => first | exact HS27.out | exact (HS27.out.drewN _) | exact HS27.out.drew
  intro hS
  try simp only [World.size_alloc] at hS
  refine (heldInts_any A_g rx0.length c_g (1) _ (Lib.hid (hS.ints (i := 7) rfl)) (by omega) (by omega) (by omega)).mono ?_
  rintro e w28 ⟨rfl, rfl⟩
  clear b100 b101 b10l b160 b161 b16l
  have hS1 := hS
  clear hS
  obtain ⟨b10, -⟩ := hS1.box (i := 10) rfl
  have b100 := b10 0 _ rfl
  have b101 := b10 1 _ rfl
  have b10l := (hS1.lt (i := 10) rfl).2
  clear b10
  obtain ⟨b16, -⟩ := hS1.box (i := 16) rfl
  have b160 := b16 0 _ rfl
  have b161 := b16 1 _ rfl
  have b16l := (hS1.lt (i := 16) rfl).2
  clear b16
  have HS28 := Lib.hid hS1
  clear hS1
  go_wp2
  go_ret
  exact ⟨rfl, HS28.out.base⟩

set_option maxRecDepth 100000 in
set_option maxHeartbeats 1600000 in
theorem law_RaiseVector_over0 (n0 : Int) (A0 : Option Addr) (xs0 : List Int) (cap0 : Nat) (A1 : Option Addr) (xs1 : List Int) (cap1 : Nat) (A2 : Option Addr) (xs2 : List Int) (cap2 : Nat) (w : World) (ml1 : xs1.length ≤ 1048576) (ml2 : xs2.length ≤ 1048576) (mo : 1048576 < (xs0.length : Int)) (mx : xs0.length ≤ 9223372036854775807) :
    Calls Tryd.prog 6 #[.agg #[.int .i64 n0, .slice A0 xs0.length cap0], .slice A1 xs1.length cap1, .slice A2 xs2.length cap2] w (RetV w (.bool true)) := by
  have HW := Lib.hid (St.start w)
  go_enter Tryd.func6, Tryd.ntmps6
  go_wp2_with fail
  refine St.use (w0 := w) (L := ?L1) ?sa1 ?sb1
  case sa1 => first | exact (HW.out.alloc _ _) | exact ((HW.out.drewN _).alloc _ _) | exact (HW.out.drew.alloc _ _)
  intro hS
  try simp only [World.size_alloc] at hS
  refine (szFun_over n0 A0 xs0.length cap0 (1048576) _ (by omega) (by omega) mx).mono ?_
  rintro e w1 ⟨rfl, hb⟩
  have hS1 := hS.below hb
  clear hS hb
  obtain ⟨b0, -⟩ := hS1.box (i := 0) rfl
  have b00 := b0 0 _ rfl
  have b01 := b0 1 _ rfl
  have b0l := (hS1.lt (i := 0) rfl).2
  clear b0
  have HS1 := Lib.hid hS1
  clear hS1
  go_wp2
  go_ret
  exact ⟨rfl, HS1.out.base⟩

theorem law_RaiseVector_over1 (n0 : Int) (A0 : Option Addr) (xs0 : List Int) (cap0 : Nat) (A1 : Option Addr) (xs1 : List Int) (cap1 : Nat) (A2 : Option Addr) (xs2 : List Int) (cap2 : Nat) (w : World)  (mo : 1048576 < xs1.length) (mx : xs1.length ≤ 9223372036854775807) :
    Calls Tryd.prog 6 #[.agg #[.int .i64 n0, .slice A0 xs0.length cap0], .slice A1 xs1.length cap1, .slice A2 xs2.length cap2] w (RetV w (.bool true)) := by
  have HW := Lib.hid (St.start w)
  have to_ : (1048576 : Int) < (xs1.length : Int) := by omega
  go_enter Tryd.func6, Tryd.ntmps6
  go_wp2
  go_ret
  exact ⟨rfl, (HW.out.alloc _ _).base⟩

theorem law_RaiseVector_over2 (n0 : Int) (A0 : Option Addr) (xs0 : List Int) (cap0 : Nat) (A1 : Option Addr) (xs1 : List Int) (cap1 : Nat) (A2 : Option Addr) (xs2 : List Int) (cap2 : Nat) (w : World) (ml1 : xs1.length ≤ 1048576) (mo : 1048576 < xs2.length) (mx : xs2.length ≤ 9223372036854775807) :
    Calls Tryd.prog 6 #[.agg #[.int .i64 n0, .slice A0 xs0.length cap0], .slice A1 xs1.length cap1, .slice A2 xs2.length cap2] w (RetV w (.bool true)) := by
  have HW := Lib.hid (St.start w)
  have t1 : (xs1.length : Int) ≤ 1048576 := by omega
  have to_ : (1048576 : Int) < (xs2.length : Int) := by omega
  go_enter Tryd.func6, Tryd.ntmps6
  go_wp2
  go_ret
  exact ⟨rfl, (HW.out.alloc _ _).base⟩

/-- Every input: where the arguments are not too large, the contracts are asked for. -/
theorem law_RaiseVector (n0 : Int) (A0 : Option Addr) (xs0 : List Int) (cap0 : Nat) (A1 : Option Addr) (xs1 : List Int) (cap1 : Nat) (A2 : Option Addr) (xs2 : List Int) (cap2 : Nat) (rx0 : List Int) (rb1 : Bool) (w : World) (h0 : Hid (Ints w w.heap.size A0 xs0)) (h1 : Hid (Ints w w.heap.size A1 xs1)) (h2 : Hid (Ints w w.heap.size A2 xs2)) (mx0 : xs0.length ≤ 9223372036854775807) (mx1 : xs1.length ≤ 9223372036854775807) (mx2 : xs2.length ≤ 9223372036854775807) (mr0 : rx0.length ≤ 1048576)
    (hs : (mm : (xs0.length : Int) ≤ 1048576) → (ml1 : xs1.length ≤ 1048576) → (ml2 : xs2.length ≤ 1048576) → Hid (∀ (W : World) (A0 : Option Addr) (c0 : Nat) (A1 : Option Addr) (c1 : Nat) (A2 : Option Addr) (c2 : Nat), Below w.heap.size w W → Hid (Ints W W.heap.size A0 xs0) → Hid (Ints W W.heap.size A1 xs1) → Hid (Ints W W.heap.size A2 xs2) → Calls Tryd.prog 30 #[.agg #[.int .i64 n0, .slice A0 xs0.length c0], .slice A1 xs1.length c1, .slice A2 xs2.length c2] W (RetIB W rx0 rb1)))
    (hi : (mm : (xs0.length : Int) ≤ 1048576) → (ml1 : xs1.length ≤ 1048576) → (ml2 : xs2.length ≤ 1048576) → Hid (∀ (W : World) (A0 : Option Addr) (c0 : Nat) (A1 : Option Addr) (c1 : Nat) (A2 : Option Addr) (c2 : Nat), Below w.heap.size w W → Hid (Ints W W.heap.size A0 xs0) → Hid (Ints W W.heap.size A1 xs1) → Hid (Ints W W.heap.size A2 xs2) → Calls Tryd.prog 29 #[.agg #[.int .i64 n0, .slice A0 xs0.length c0], .slice A1 xs1.length c1, .slice A2 xs2.length c2] W (RetIB W rx0 rb1))) :
    Calls Tryd.prog 6 #[.agg #[.int .i64 n0, .slice A0 xs0.length cap0], .slice A1 xs1.length cap1, .slice A2 xs2.length cap2] w (RetV w (.bool true)) := by
  by_cases ml1 : xs1.length ≤ 1048576
  case neg => exact law_RaiseVector_over1 n0 A0 xs0 cap0 A1 xs1 cap1 A2 xs2 cap2 w  (by omega) mx1
  by_cases ml2 : xs2.length ≤ 1048576
  case neg => exact law_RaiseVector_over2 n0 A0 xs0 cap0 A1 xs1 cap1 A2 xs2 cap2 w ml1 (by omega) mx2
  by_cases mm : (xs0.length : Int) ≤ 1048576
  case neg => exact law_RaiseVector_over0 n0 A0 xs0 cap0 A1 xs1 cap1 A2 xs2 cap2 w ml1 ml2 (by omega) mx0
  exact law_RaiseVector_in n0 A0 xs0 cap0 A1 xs1 cap1 A2 xs2 cap2 rx0 rb1 w h0 h1 h2  ml1 ml2 mm mr0 (hs mm ml1 ml2) (hi mm ml1 ml2)

end Go.Proofs.YtffbiflgmlabaaaDoor.C
