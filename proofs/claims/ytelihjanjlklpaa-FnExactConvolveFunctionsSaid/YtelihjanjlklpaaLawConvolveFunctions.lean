/-
  The law 'FnExactConvolveFunctions', walked: it returns true if the model and the program return the same values.
-/
import Derived.Test.YtelihjanjlklpaaFunH
import Derived.Test.YtelihjanjlklpaaFnM
import Derived.Test.YtelihjanjlklpaaHeld
namespace Go.Proofs.Ytelihjanjlklpaa.C
open Go.RowKit K M
set_option linter.unusedVariables false
set_option linter.unusedSimpArgs false

set_option maxRecDepth 100000 in
set_option maxHeartbeats 8000000 in
theorem law_ConvolveFunctions_in (n0 : Int) (A0 : Option Addr) (xs0 : List Int) (cap0 : Nat) (n1 : Int) (A1 : Option Addr) (xs1 : List Int) (cap1 : Nat) (rn0 : Int) (rx0 : List Int) (rb1 : Bool) (w : World) (h0 : Hid (Ints w w.heap.size A0 xs0)) (h1 : Hid (Ints w w.heap.size A1 xs1)) (mm : (xs0.length : Int) + (xs1.length : Int) ≤ 1048576) (mr0 : rx0.length ≤ 1048576)
    (hs : Hid (∀ (W : World) (A0 : Option Addr) (c0 : Nat) (A1 : Option Addr) (c1 : Nat), Below w.heap.size w W → Hid (Ints W W.heap.size A0 xs0) → Hid (Ints W W.heap.size A1 xs1) → Calls Try.prog 8 #[.agg #[.int .i64 n0, .slice A0 xs0.length c0], .agg #[.int .i64 n1, .slice A1 xs1.length c1]] W (RetFB W rn0 rx0 rb1)))
    (hi : Hid (∀ (W : World) (A0 : Option Addr) (c0 : Nat) (A1 : Option Addr) (c1 : Nat), Below w.heap.size w W → Hid (Ints W W.heap.size A0 xs0) → Hid (Ints W W.heap.size A1 xs1) → Calls Try.prog 10 #[.agg #[.int .i64 n0, .slice A0 xs0.length c0], .agg #[.int .i64 n1, .slice A1 xs1.length c1]] W (RetFB W rn0 rx0 rb1))) :
    Calls Try.prog 3 #[.agg #[.int .i64 n0, .slice A0 xs0.length cap0], .agg #[.int .i64 n1, .slice A1 xs1.length cap1]] w (RetV w (.bool true)) := by
  have HW := Lib.hid (St.start w)
  go_enter Try.func3, Try.ntmps3
  go_wp2_with fail
  refine St.use (w0 := w) (L := ?L1) ?sa1 ?sb1
  case sa1 => first | exact ((HW.out.alloc _ _).alloc _ _) | exact (((HW.out.drewN _).alloc _ _).alloc _ _) | exact ((HW.out.drew.alloc _ _).alloc _ _)
  intro hS
  try simp only [World.size_alloc] at hS
  refine (szFun_ok n0 A0 xs0.length cap0 (1048576) _ (by omega) (by omega)).mono ?_
  rintro e w1 ⟨rfl, hb⟩
  have hS1 := hS.below hb
  clear hS hb
  obtain ⟨b0, -⟩ := hS1.box (i := 0) rfl
  have b00 := b0 0 _ rfl
  have b01 := b0 1 _ rfl
  have b0l := (hS1.lt (i := 0) rfl).2
  clear b0
  obtain ⟨b1, -⟩ := hS1.box (i := 1) rfl
  have b10 := b1 0 _ rfl
  have b11 := b1 1 _ rfl
  have b1l := (hS1.lt (i := 1) rfl).2
  clear b1
  have HS1 := Lib.hid hS1
  clear hS1
  go_wp2_with fail
  refine St.use (w0 := w) (L := ?L2) ?sa2 ?sb2
  case sa2 => first | exact HS1.out | exact (HS1.out.drewN _) | exact HS1.out.drew
  intro hS
  try simp only [World.size_alloc] at hS
  refine (szFun_ok n1 A1 xs1.length cap1 (1048576 - (xs0.length : Int)) _ (by omega) (by omega)).mono ?_
  rintro e w2 ⟨rfl, hb⟩
  clear b00 b01 b0l b10 b11 b1l
  have hS1 := hS.below hb
  clear hS hb
  obtain ⟨b0, -⟩ := hS1.box (i := 0) rfl
  have b00 := b0 0 _ rfl
  have b01 := b0 1 _ rfl
  have b0l := (hS1.lt (i := 0) rfl).2
  clear b0
  obtain ⟨b1, -⟩ := hS1.box (i := 1) rfl
  have b10 := b1 0 _ rfl
  have b11 := b1 1 _ rfl
  have b1l := (hS1.lt (i := 1) rfl).2
  clear b1
  have HS2 := Lib.hid hS1
  clear hS1
  go_wp2_with fail
  go_cut [6, 7] (fun s6 s7 wx => ∃ (g_w : Nat) (A_w : Option Addr) (c_w : Nat), s6 = .pointer (some ⟨g_w, 0, none⟩) ∧ s7 = .bool rb1 ∧ St w wx [bx (g_w) 26 [.int .i64 rn0, .slice A_w rx0.length c_w], il (.slice A_w rx0.length c_w) rx0.length rx0, bx (w.heap.size + 1) 24 [.int .i64 n1, .slice A1 xs1.length cap1], bx (w.heap.size) 24 [.int .i64 n0, .slice A0 xs0.length cap0]])
  case first =>
    have HR := Lib.hid (show St w _ [bx (w.heap.size + 1) 24 [.int .i64 n1, .slice A1 xs1.length cap1], bx (w.heap.size) 24 [.int .i64 n0, .slice A0 xs0.length cap0]] from by first | exact HS2.out | exact HS2.out.drew)
    go_region_held3 (fun w' => w'.cell? ⟨w.heap.size, 0, none⟩ = some (.int .i64 n0) ∧ w'.cell? ⟨w.heap.size, 1, none⟩ = some (.slice A0 xs0.length cap0) ∧ w'.cell? ⟨w.heap.size + 1, 0, none⟩ = some (.int .i64 n1) ∧ w'.cell? ⟨w.heap.size + 1, 1, none⟩ = some (.slice A1 xs1.length cap1)) (first | (refine ⟨?_, ?_, ?_, ?_⟩ <;> first | assumption | (rw [World.cell?_setCell_other _ _ _ _ (by simp only [ne_eq, Addr.mk.injEq, not_and]; intro e; omega), World.cell?_setCell_other _ _ _ _ (by simp only [ne_eq, Addr.mk.injEq, not_and]; intro e; omega)]; assumption)) | go_keep) (first | (go_at_call_of 9 (Value.agg #[.int .i64 n0, .slice A0 xs0.length cap0]); refine St.use (w0 := w) (by first | exact HR.out | exact HR.out.drew | exact HR.out.alloc _ _ | exact (HR.out.alloc _ _).drew | exact HR.out.drew.alloc _ _ | exact HR.out.drewN _ | exact (HR.out.drewN _).alloc _ _) ?_; intro hS; (try simp only [World.size_alloc] at hS); refine (toFun_any n0 A0 xs0 cap0 _ (Lib.hid ((h0.out.below hS.base).mono hS.size)) (by omega)).mono ?_; rintro e wq ⟨A_p0, c_p0, rfl, ho, hb⟩; have hS1 := hS.newI hb ho; have bb00 := hS1.cell (g := w.heap.size) (t := 24) (cs := [.int .i64 n0, .slice A0 xs0.length cap0]) (by repeat (first | exact List.Mem.head _ | apply List.Mem.tail)) 0 _ rfl; have bb01 := hS1.cell (g := w.heap.size) (t := 24) (cs := [.int .i64 n0, .slice A0 xs0.length cap0]) (by repeat (first | exact List.Mem.head _ | apply List.Mem.tail)) 1 _ rfl; have bl0 := hS1.ltOf (g := w.heap.size) (t := 24) (cs := [.int .i64 n0, .slice A0 xs0.length cap0]) (by repeat (first | exact List.Mem.head _ | apply List.Mem.tail)); have bb10 := hS1.cell (g := w.heap.size + 1) (t := 24) (cs := [.int .i64 n1, .slice A1 xs1.length cap1]) (by repeat (first | exact List.Mem.head _ | apply List.Mem.tail)) 0 _ rfl; have bb11 := hS1.cell (g := w.heap.size + 1) (t := 24) (cs := [.int .i64 n1, .slice A1 xs1.length cap1]) (by repeat (first | exact List.Mem.head _ | apply List.Mem.tail)) 1 _ rfl; have bl1 := hS1.ltOf (g := w.heap.size + 1) (t := 24) (cs := [.int .i64 n1, .slice A1 xs1.length cap1]) (by repeat (first | exact List.Mem.head _ | apply List.Mem.tail)); (try (obtain ⟨bz, fz⟩ := hS1.box (i := 1) rfl; have bz10 := bz 0 _ rfl; have bz11 := bz 1 _ rfl; have fz10 := fz 0; have fz11 := fz 1; have bzl1 := (hS1.lt (i := 1) rfl).2; clear bz fz)); (try (obtain ⟨bz, fz⟩ := hS1.box (i := 2) rfl; have bz20 := bz 0 _ rfl; have bz21 := bz 1 _ rfl; have fz20 := fz 0; have fz21 := fz 1; have bzl2 := (hS1.lt (i := 2) rfl).2; clear bz fz)); (try (obtain ⟨bz, fz⟩ := hS1.box (i := 3) rfl; have bz30 := bz 0 _ rfl; have bz31 := bz 1 _ rfl; have fz30 := fz 0; have fz31 := fz 1; have bzl3 := (hS1.lt (i := 3) rfl).2; clear bz fz)); clear hS; have HR := Lib.hid hS1; clear hS1) | (go_at_call_of 9 (Value.agg #[.int .i64 n1, .slice A1 xs1.length cap1]); refine St.use (w0 := w) (by first | exact HR.out | exact HR.out.drew | exact HR.out.alloc _ _ | exact (HR.out.alloc _ _).drew | exact HR.out.drew.alloc _ _ | exact HR.out.drewN _ | exact (HR.out.drewN _).alloc _ _) ?_; intro hS; (try simp only [World.size_alloc] at hS); refine (toFun_any n1 A1 xs1 cap1 _ (Lib.hid ((h1.out.below hS.base).mono hS.size)) (by omega)).mono ?_; rintro e wq ⟨A_p1, c_p1, rfl, ho, hb⟩; have hS1 := hS.newI hb ho; have bb00 := hS1.cell (g := w.heap.size) (t := 24) (cs := [.int .i64 n0, .slice A0 xs0.length cap0]) (by repeat (first | exact List.Mem.head _ | apply List.Mem.tail)) 0 _ rfl; have bb01 := hS1.cell (g := w.heap.size) (t := 24) (cs := [.int .i64 n0, .slice A0 xs0.length cap0]) (by repeat (first | exact List.Mem.head _ | apply List.Mem.tail)) 1 _ rfl; have bl0 := hS1.ltOf (g := w.heap.size) (t := 24) (cs := [.int .i64 n0, .slice A0 xs0.length cap0]) (by repeat (first | exact List.Mem.head _ | apply List.Mem.tail)); have bb10 := hS1.cell (g := w.heap.size + 1) (t := 24) (cs := [.int .i64 n1, .slice A1 xs1.length cap1]) (by repeat (first | exact List.Mem.head _ | apply List.Mem.tail)) 0 _ rfl; have bb11 := hS1.cell (g := w.heap.size + 1) (t := 24) (cs := [.int .i64 n1, .slice A1 xs1.length cap1]) (by repeat (first | exact List.Mem.head _ | apply List.Mem.tail)) 1 _ rfl; have bl1 := hS1.ltOf (g := w.heap.size + 1) (t := 24) (cs := [.int .i64 n1, .slice A1 xs1.length cap1]) (by repeat (first | exact List.Mem.head _ | apply List.Mem.tail)); (try (obtain ⟨bz, fz⟩ := hS1.box (i := 1) rfl; have bz10 := bz 0 _ rfl; have bz11 := bz 1 _ rfl; have fz10 := fz 0; have fz11 := fz 1; have bzl1 := (hS1.lt (i := 1) rfl).2; clear bz fz)); (try (obtain ⟨bz, fz⟩ := hS1.box (i := 2) rfl; have bz20 := bz 0 _ rfl; have bz21 := bz 1 _ rfl; have fz20 := fz 0; have fz21 := fz 1; have bzl2 := (hS1.lt (i := 2) rfl).2; clear bz fz)); (try (obtain ⟨bz, fz⟩ := hS1.box (i := 3) rfl; have bz30 := bz 0 _ rfl; have bz31 := bz 1 _ rfl; have fz30 := fz 0; have fz31 := fz 1; have bzl3 := (hS1.lt (i := 3) rfl).2; clear bz fz)); clear hS; have HR := Lib.hid hS1; clear hS1) | (go_at_call 8; refine St.use (w0 := w) (by first | exact HR.out | exact HR.out.drew | exact HR.out.alloc _ _ | exact (HR.out.alloc _ _).drew | exact HR.out.drew.alloc _ _ | exact HR.out.drewN _ | exact (HR.out.drewN _).alloc _ _) ?_; intro hS; (try simp only [World.size_alloc] at hS); refine (hs.out _ _ _ _ _ hS.base (Lib.hid (by first | exact hS.ints (i := 0) rfl | exact hS.ints (i := 1) rfl | exact hS.ints (i := 2) rfl | exact hS.ints (i := 3) rfl)) (Lib.hid (by first | exact hS.ints (i := 0) rfl | exact hS.ints (i := 1) rfl | exact hS.ints (i := 2) rfl | exact hS.ints (i := 3) rfl))).mono ?_; rintro e wq ⟨A_w, c_w, rfl, ho, hb⟩; have hS1 := hS.newI hb ho; have bb00 := hS1.cell (g := w.heap.size) (t := 24) (cs := [.int .i64 n0, .slice A0 xs0.length cap0]) (by repeat (first | exact List.Mem.head _ | apply List.Mem.tail)) 0 _ rfl; have bb01 := hS1.cell (g := w.heap.size) (t := 24) (cs := [.int .i64 n0, .slice A0 xs0.length cap0]) (by repeat (first | exact List.Mem.head _ | apply List.Mem.tail)) 1 _ rfl; have bl0 := hS1.ltOf (g := w.heap.size) (t := 24) (cs := [.int .i64 n0, .slice A0 xs0.length cap0]) (by repeat (first | exact List.Mem.head _ | apply List.Mem.tail)); have bb10 := hS1.cell (g := w.heap.size + 1) (t := 24) (cs := [.int .i64 n1, .slice A1 xs1.length cap1]) (by repeat (first | exact List.Mem.head _ | apply List.Mem.tail)) 0 _ rfl; have bb11 := hS1.cell (g := w.heap.size + 1) (t := 24) (cs := [.int .i64 n1, .slice A1 xs1.length cap1]) (by repeat (first | exact List.Mem.head _ | apply List.Mem.tail)) 1 _ rfl; have bl1 := hS1.ltOf (g := w.heap.size + 1) (t := 24) (cs := [.int .i64 n1, .slice A1 xs1.length cap1]) (by repeat (first | exact List.Mem.head _ | apply List.Mem.tail)); (try (obtain ⟨bz, fz⟩ := hS1.box (i := 1) rfl; have bz10 := bz 0 _ rfl; have bz11 := bz 1 _ rfl; have fz10 := fz 0; have fz11 := fz 1; have bzl1 := (hS1.lt (i := 1) rfl).2; clear bz fz)); (try (obtain ⟨bz, fz⟩ := hS1.box (i := 2) rfl; have bz20 := bz 0 _ rfl; have bz21 := bz 1 _ rfl; have fz20 := fz 0; have fz21 := fz 1; have bzl2 := (hS1.lt (i := 2) rfl).2; clear bz fz)); (try (obtain ⟨bz, fz⟩ := hS1.box (i := 3) rfl; have bz30 := bz 0 _ rfl; have bz31 := bz 1 _ rfl; have fz30 := fz 0; have fz31 := fz 1; have bzl3 := (hS1.lt (i := 3) rfl).2; clear bz fz)); clear hS; have HR := Lib.hid hS1; clear hS1))
    all_goals (go_wp2_with fail; go_meet; exact ⟨_, _, _, rfl, rfl, by first | exact ((HR.out.store (i := 3) rfl 0 _).store (i := 3) rfl 1 _).sub _ [3, 0, 4, 5] rfl (by decide) | exact ((HR.out.store (i := 3) rfl 0 _).store (i := 3) rfl 1 _).drew.sub _ [3, 0, 4, 5] rfl (by decide) | exact ((HR.out.drew.store (i := 3) rfl 0 _).store (i := 3) rfl 1 _).sub _ [3, 0, 4, 5] rfl (by decide) | exact ((HR.out.drew.store (i := 3) rfl 0 _).store (i := 3) rfl 1 _).drew.sub _ [3, 0, 4, 5] rfl (by decide) | exact (((HR.out.drewN _).store (i := 3) rfl 0 _).store (i := 3) rfl 1 _).sub _ [3, 0, 4, 5] rfl (by decide) | exact (((HR.out.drewN _).store (i := 3) rfl 0 _).store (i := 3) rfl 1 _).drew.sub _ [3, 0, 4, 5] rfl (by decide) | exact ((HR.out.store (i := 2) rfl 0 _).store (i := 2) rfl 1 _).sub _ [2, 0, 4, 5] rfl (by decide) | exact ((HR.out.store (i := 2) rfl 0 _).store (i := 2) rfl 1 _).drew.sub _ [2, 0, 4, 5] rfl (by decide) | exact ((HR.out.drew.store (i := 2) rfl 0 _).store (i := 2) rfl 1 _).sub _ [2, 0, 4, 5] rfl (by decide) | exact ((HR.out.drew.store (i := 2) rfl 0 _).store (i := 2) rfl 1 _).drew.sub _ [2, 0, 4, 5] rfl (by decide) | exact (((HR.out.drewN _).store (i := 2) rfl 0 _).store (i := 2) rfl 1 _).sub _ [2, 0, 4, 5] rfl (by decide) | exact (((HR.out.drewN _).store (i := 2) rfl 0 _).store (i := 2) rfl 1 _).drew.sub _ [2, 0, 4, 5] rfl (by decide) | exact ((HR.out.store (i := 1) rfl 0 _).store (i := 1) rfl 1 _).sub _ [1, 0, 4, 5] rfl (by decide) | exact ((HR.out.store (i := 1) rfl 0 _).store (i := 1) rfl 1 _).drew.sub _ [1, 0, 4, 5] rfl (by decide) | exact ((HR.out.drew.store (i := 1) rfl 0 _).store (i := 1) rfl 1 _).sub _ [1, 0, 4, 5] rfl (by decide) | exact ((HR.out.drew.store (i := 1) rfl 0 _).store (i := 1) rfl 1 _).drew.sub _ [1, 0, 4, 5] rfl (by decide) | exact (((HR.out.drewN _).store (i := 1) rfl 0 _).store (i := 1) rfl 1 _).sub _ [1, 0, 4, 5] rfl (by decide) | exact (((HR.out.drewN _).store (i := 1) rfl 0 _).store (i := 1) rfl 1 _).drew.sub _ [1, 0, 4, 5] rfl (by decide) | exact (HR.out.alloc _ _).sub _ [0, 1, 4, 5] rfl (by decide) | exact (HR.out.alloc _ _).drew.sub _ [0, 1, 4, 5] rfl (by decide) | exact (HR.out.drew.alloc _ _).sub _ [0, 1, 4, 5] rfl (by decide) | exact (HR.out.drew.alloc _ _).drew.sub _ [0, 1, 4, 5] rfl (by decide) | exact ((HR.out.drewN _).alloc _ _).sub _ [0, 1, 4, 5] rfl (by decide) | exact ((HR.out.drewN _).alloc _ _).drew.sub _ [0, 1, 4, 5] rfl (by decide)⟩)
  obtain ⟨g_w, A_w, c_w, rfl, rfl, hS1⟩ := hcut
  clear b00 b01 b0l b10 b11 b1l
  obtain ⟨b0, -⟩ := hS1.box (i := 0) rfl
  have b00 := b0 0 _ rfl
  have b01 := b0 1 _ rfl
  have b0l := (hS1.lt (i := 0) rfl).2
  clear b0
  obtain ⟨b2, -⟩ := hS1.box (i := 2) rfl
  have b20 := b2 0 _ rfl
  have b21 := b2 1 _ rfl
  have b2l := (hS1.lt (i := 2) rfl).2
  clear b2
  obtain ⟨b3, -⟩ := hS1.box (i := 3) rfl
  have b30 := b3 0 _ rfl
  have b31 := b3 1 _ rfl
  have b3l := (hS1.lt (i := 3) rfl).2
  clear b3
  have HS3 := Lib.hid hS1
  clear hS1
  go_wp2_with fail
  refine St.use (w0 := w) (L := ?L4) ?sa4 ?sb4
  case sa4 => first | exact HS3.out | exact (HS3.out.drewN _) | exact HS3.out.drew
  intro hS
  try simp only [World.size_alloc] at hS
  refine (toFun_any n0 A0 xs0 cap0 _ (Lib.hid ((h0.out.below hS.base).mono hS.size)) (by omega)).mono ?_
  rintro e w4 ⟨A_x0, c_x0, rfl, ho, hb⟩
  clear b00 b01 b0l b20 b21 b2l b30 b31 b3l
  have hS1 := hS.newI hb ho
  clear hS hb ho
  obtain ⟨b1, -⟩ := hS1.box (i := 1) rfl
  have b10 := b1 0 _ rfl
  have b11 := b1 1 _ rfl
  have b1l := (hS1.lt (i := 1) rfl).2
  clear b1
  obtain ⟨b3, -⟩ := hS1.box (i := 3) rfl
  have b30 := b3 0 _ rfl
  have b31 := b3 1 _ rfl
  have b3l := (hS1.lt (i := 3) rfl).2
  clear b3
  obtain ⟨b4, -⟩ := hS1.box (i := 4) rfl
  have b40 := b4 0 _ rfl
  have b41 := b4 1 _ rfl
  have b4l := (hS1.lt (i := 4) rfl).2
  clear b4
  have HS4 := Lib.hid hS1
  clear hS1
  go_wp2_with fail
  refine St.use (w0 := w) (L := ?L5) ?sa5 ?sb5
  case sa5 => first | exact (HS4.out.alloc _ _) | exact ((HS4.out.drewN _).alloc _ _) | exact (HS4.out.drew.alloc _ _)
  intro hS
  try simp only [World.size_alloc] at hS
  refine (toFun_any n1 A1 xs1 cap1 _ (Lib.hid ((h1.out.below hS.base).mono hS.size)) (by omega)).mono ?_
  rintro e w5 ⟨A_x1, c_x1, rfl, ho, hb⟩
  clear b10 b11 b1l b30 b31 b3l b40 b41 b4l
  have hS1 := hS.newI hb ho
  clear hS hb ho
  obtain ⟨b1, -⟩ := hS1.box (i := 1) rfl
  have b10 := b1 0 _ rfl
  have b11 := b1 1 _ rfl
  have b1l := (hS1.lt (i := 1) rfl).2
  clear b1
  obtain ⟨b3, -⟩ := hS1.box (i := 3) rfl
  have b30 := b3 0 _ rfl
  have b31 := b3 1 _ rfl
  have b3l := (hS1.lt (i := 3) rfl).2
  clear b3
  obtain ⟨b5, -⟩ := hS1.box (i := 5) rfl
  have b50 := b5 0 _ rfl
  have b51 := b5 1 _ rfl
  have b5l := (hS1.lt (i := 5) rfl).2
  clear b5
  obtain ⟨b6, -⟩ := hS1.box (i := 6) rfl
  have b60 := b6 0 _ rfl
  have b61 := b6 1 _ rfl
  have b6l := (hS1.lt (i := 6) rfl).2
  clear b6
  have HS5 := Lib.hid hS1
  clear hS1
  go_wp2_with fail
  refine St.use (w0 := w) (L := ?L6) ?sa6 ?sb6
  case sa6 => first | exact (HS5.out.alloc _ _) | exact ((HS5.out.drewN _).alloc _ _) | exact (HS5.out.drew.alloc _ _)
  intro hS
  try simp only [World.size_alloc] at hS
  refine (hi.out _ _ _ _ _ hS.base (Lib.hid (hS.ints (i := 3) rfl)) (Lib.hid (hS.ints (i := 1) rfl))).mono ?_
  rintro e w6 ⟨A_g, c_g, rfl, ho, hb⟩
  clear b10 b11 b1l b30 b31 b3l b50 b51 b5l b60 b61 b6l
  have hS1 := hS.newI hb ho
  clear hS hb ho
  obtain ⟨b1, -⟩ := hS1.box (i := 1) rfl
  have b10 := b1 0 _ rfl
  have b11 := b1 1 _ rfl
  have b1l := (hS1.lt (i := 1) rfl).2
  clear b1
  obtain ⟨b3, -⟩ := hS1.box (i := 3) rfl
  have b30 := b3 0 _ rfl
  have b31 := b3 1 _ rfl
  have b3l := (hS1.lt (i := 3) rfl).2
  clear b3
  obtain ⟨b5, -⟩ := hS1.box (i := 5) rfl
  have b50 := b5 0 _ rfl
  have b51 := b5 1 _ rfl
  have b5l := (hS1.lt (i := 5) rfl).2
  clear b5
  obtain ⟨b7, -⟩ := hS1.box (i := 7) rfl
  have b70 := b7 0 _ rfl
  have b71 := b7 1 _ rfl
  have b7l := (hS1.lt (i := 7) rfl).2
  clear b7
  obtain ⟨b8, -⟩ := hS1.box (i := 8) rfl
  have b80 := b8 0 _ rfl
  have b81 := b8 1 _ rfl
  have b8l := (hS1.lt (i := 8) rfl).2
  clear b8
  have HS6 := Lib.hid hS1
  clear hS1
  go_wp2_with fail
  refine St.use (w0 := w) (L := ?L7) ?sa7 ?sb7
  case sa7 => first | exact (HS6.out.alloc _ _) | exact ((HS6.out.drewN _).alloc _ _) | exact (HS6.out.drew.alloc _ _)
  intro hS
  try simp only [World.size_alloc] at hS
  refine (eqFun_same rn0 A_g A_w rx0 c_g c_w _ (Lib.hid (hS.ints (i := 1) rfl)) (Lib.hid (hS.ints (i := 7) rfl)) (by omega)).mono ?_
  rintro e w7 ⟨rfl, hb⟩
  clear b10 b11 b1l b30 b31 b3l b50 b51 b5l b70 b71 b7l b80 b81 b8l
  have hS1 := hS.below hb
  clear hS hb
  obtain ⟨b0, -⟩ := hS1.box (i := 0) rfl
  have b00 := b0 0 _ rfl
  have b01 := b0 1 _ rfl
  have b0l := (hS1.lt (i := 0) rfl).2
  clear b0
  obtain ⟨b2, -⟩ := hS1.box (i := 2) rfl
  have b20 := b2 0 _ rfl
  have b21 := b2 1 _ rfl
  have b2l := (hS1.lt (i := 2) rfl).2
  clear b2
  obtain ⟨b4, -⟩ := hS1.box (i := 4) rfl
  have b40 := b4 0 _ rfl
  have b41 := b4 1 _ rfl
  have b4l := (hS1.lt (i := 4) rfl).2
  clear b4
  obtain ⟨b6, -⟩ := hS1.box (i := 6) rfl
  have b60 := b6 0 _ rfl
  have b61 := b6 1 _ rfl
  have b6l := (hS1.lt (i := 6) rfl).2
  clear b6
  obtain ⟨b8, -⟩ := hS1.box (i := 8) rfl
  have b80 := b8 0 _ rfl
  have b81 := b8 1 _ rfl
  have b8l := (hS1.lt (i := 8) rfl).2
  clear b8
  obtain ⟨b9, -⟩ := hS1.box (i := 9) rfl
  have b90 := b9 0 _ rfl
  have b91 := b9 1 _ rfl
  have b9l := (hS1.lt (i := 9) rfl).2
  clear b9
  have HS7 := Lib.hid hS1
  clear hS1
  go_wp2_with fail
  go_region_held3 (fun w' => w'.cell? ⟨w4.heap.size, 0, none⟩ = some (.int .i64 n0) ∧ w'.cell? ⟨w4.heap.size, 1, none⟩ = some (.slice A_x0 xs0.length c_x0) ∧ w'.cell? ⟨w.heap.size, 0, none⟩ = some (.int .i64 n0) ∧ w'.cell? ⟨w.heap.size, 1, none⟩ = some (.slice A0 xs0.length cap0)) (first | (refine ⟨?_, ?_, ?_, ?_⟩ <;> assumption) | go_keep) (first | (go_at_call 9; (refine St.use (w0 := w) (L := ?L8) ?sa8 ?sb8); (case sa8 => first | exact HS7.out | exact (HS7.out.drewN _) | exact HS7.out.drew); (intro hS); (try simp only [World.size_alloc] at hS); (refine (toFun_any n0 A0 xs0 cap0 _ (Lib.hid ((h0.out.below hS.base).mono hS.size)) (by omega)).mono ?_); (rintro e w8 ⟨A_y0, c_y0, rfl, ho, hb⟩); (clear b00 b01 b0l b20 b21 b2l b40 b41 b4l b60 b61 b6l b80 b81 b8l b90 b91 b9l); (have hS1 := hS.newI hb ho); (clear hS hb ho); (obtain ⟨b1, -⟩ := hS1.box (i := 1) rfl); (have b10 := b1 0 _ rfl); (have b11 := b1 1 _ rfl); (have b1l := (hS1.lt (i := 1) rfl).2); (clear b1); (obtain ⟨b3, -⟩ := hS1.box (i := 3) rfl); (have b30 := b3 0 _ rfl); (have b31 := b3 1 _ rfl); (have b3l := (hS1.lt (i := 3) rfl).2); (clear b3); (obtain ⟨b5, -⟩ := hS1.box (i := 5) rfl); (have b50 := b5 0 _ rfl); (have b51 := b5 1 _ rfl); (have b5l := (hS1.lt (i := 5) rfl).2); (clear b5); (obtain ⟨b7, -⟩ := hS1.box (i := 7) rfl); (have b70 := b7 0 _ rfl); (have b71 := b7 1 _ rfl); (have b7l := (hS1.lt (i := 7) rfl).2); (clear b7); (obtain ⟨b9, -⟩ := hS1.box (i := 9) rfl); (have b90 := b9 0 _ rfl); (have b91 := b9 1 _ rfl); (have b9l := (hS1.lt (i := 9) rfl).2); (clear b9); (obtain ⟨b10, -⟩ := hS1.box (i := 10) rfl); (have b100 := b10 0 _ rfl); (have b101 := b10 1 _ rfl); (have b10l := (hS1.lt (i := 10) rfl).2); (clear b10); (have HS8 := Lib.hid hS1); (clear hS1)) | (go_at_call 11; (refine St.use (w0 := w) (L := ?L9) ?sa9 ?sb9); (case sa9 => first | exact HS8.out | exact (HS8.out.drewN _) | exact HS8.out.drew); (intro hS); (try simp only [World.size_alloc] at hS); (refine (eqFun_same n0 A_x0 A_y0 xs0 c_x0 c_y0 _ (Lib.hid (hS.ints (i := 6) rfl)) (Lib.hid (hS.ints (i := 0) rfl)) (by omega)).mono ?_); (rintro e w9 ⟨rfl, hb⟩); (clear b10 b11 b1l b30 b31 b3l b50 b51 b5l b70 b71 b7l b90 b91 b9l b100 b101 b10l); (have hS1 := hS.below hb); (clear hS hb); (obtain ⟨b1, -⟩ := hS1.box (i := 1) rfl); (have b10 := b1 0 _ rfl); (have b11 := b1 1 _ rfl); (have b1l := (hS1.lt (i := 1) rfl).2); (clear b1); (obtain ⟨b3, -⟩ := hS1.box (i := 3) rfl); (have b30 := b3 0 _ rfl); (have b31 := b3 1 _ rfl); (have b3l := (hS1.lt (i := 3) rfl).2); (clear b3); (obtain ⟨b5, -⟩ := hS1.box (i := 5) rfl); (have b50 := b5 0 _ rfl); (have b51 := b5 1 _ rfl); (have b5l := (hS1.lt (i := 5) rfl).2); (clear b5); (obtain ⟨b7, -⟩ := hS1.box (i := 7) rfl); (have b70 := b7 0 _ rfl); (have b71 := b7 1 _ rfl); (have b7l := (hS1.lt (i := 7) rfl).2); (clear b7); (obtain ⟨b9, -⟩ := hS1.box (i := 9) rfl); (have b90 := b9 0 _ rfl); (have b91 := b9 1 _ rfl); (have b9l := (hS1.lt (i := 9) rfl).2); (clear b9); (obtain ⟨b10, -⟩ := hS1.box (i := 10) rfl); (have b100 := b10 0 _ rfl); (have b101 := b10 1 _ rfl); (have b10l := (hS1.lt (i := 10) rfl).2); (clear b10); (have HS9 := Lib.hid hS1); (clear hS1)))
  go_wp2_with fail
  go_region_held3 (fun w' => w'.cell? ⟨w5.heap.size, 0, none⟩ = some (.int .i64 n1) ∧ w'.cell? ⟨w5.heap.size, 1, none⟩ = some (.slice A_x1 xs1.length c_x1) ∧ w'.cell? ⟨w.heap.size + 1, 0, none⟩ = some (.int .i64 n1) ∧ w'.cell? ⟨w.heap.size + 1, 1, none⟩ = some (.slice A1 xs1.length cap1)) (first | (refine ⟨?_, ?_, ?_, ?_⟩ <;> assumption) | go_keep) (first | (go_at_call 9; (refine St.use (w0 := w) (L := ?L10) ?sa10 ?sb10); (case sa10 => first | exact HS9.out | exact (HS9.out.drewN _) | exact HS9.out.drew); (intro hS); (try simp only [World.size_alloc] at hS); (refine (toFun_any n1 A1 xs1 cap1 _ (Lib.hid ((h1.out.below hS.base).mono hS.size)) (by omega)).mono ?_); (rintro e w10 ⟨A_y1, c_y1, rfl, ho, hb⟩); (clear b10 b11 b1l b30 b31 b3l b50 b51 b5l b70 b71 b7l b90 b91 b9l b100 b101 b10l); (have hS1 := hS.newI hb ho); (clear hS hb ho); (obtain ⟨b2, -⟩ := hS1.box (i := 2) rfl); (have b20 := b2 0 _ rfl); (have b21 := b2 1 _ rfl); (have b2l := (hS1.lt (i := 2) rfl).2); (clear b2); (obtain ⟨b4, -⟩ := hS1.box (i := 4) rfl); (have b40 := b4 0 _ rfl); (have b41 := b4 1 _ rfl); (have b4l := (hS1.lt (i := 4) rfl).2); (clear b4); (obtain ⟨b6, -⟩ := hS1.box (i := 6) rfl); (have b60 := b6 0 _ rfl); (have b61 := b6 1 _ rfl); (have b6l := (hS1.lt (i := 6) rfl).2); (clear b6); (obtain ⟨b8, -⟩ := hS1.box (i := 8) rfl); (have b80 := b8 0 _ rfl); (have b81 := b8 1 _ rfl); (have b8l := (hS1.lt (i := 8) rfl).2); (clear b8); (obtain ⟨b10, -⟩ := hS1.box (i := 10) rfl); (have b100 := b10 0 _ rfl); (have b101 := b10 1 _ rfl); (have b10l := (hS1.lt (i := 10) rfl).2); (clear b10); (obtain ⟨b11, -⟩ := hS1.box (i := 11) rfl); (have b110 := b11 0 _ rfl); (have b111 := b11 1 _ rfl); (have b11l := (hS1.lt (i := 11) rfl).2); (clear b11); (have HS10 := Lib.hid hS1); (clear hS1)) | (go_at_call 11; (refine St.use (w0 := w) (L := ?L11) ?sa11 ?sb11); (case sa11 => first | exact HS10.out | exact (HS10.out.drewN _) | exact HS10.out.drew); (intro hS); (try simp only [World.size_alloc] at hS); (refine (eqFun_same n1 A_x1 A_y1 xs1 c_x1 c_y1 _ (Lib.hid (hS.ints (i := 5) rfl)) (Lib.hid (hS.ints (i := 0) rfl)) (by omega)).mono ?_); (rintro e w11 ⟨rfl, hb⟩); (clear b20 b21 b2l b40 b41 b4l b60 b61 b6l b80 b81 b8l b100 b101 b10l b110 b111 b11l); (have hS1 := hS.below hb); (clear hS hb); (obtain ⟨b2, -⟩ := hS1.box (i := 2) rfl); (have b20 := b2 0 _ rfl); (have b21 := b2 1 _ rfl); (have b2l := (hS1.lt (i := 2) rfl).2); (clear b2); (obtain ⟨b4, -⟩ := hS1.box (i := 4) rfl); (have b40 := b4 0 _ rfl); (have b41 := b4 1 _ rfl); (have b4l := (hS1.lt (i := 4) rfl).2); (clear b4); (obtain ⟨b6, -⟩ := hS1.box (i := 6) rfl); (have b60 := b6 0 _ rfl); (have b61 := b6 1 _ rfl); (have b6l := (hS1.lt (i := 6) rfl).2); (clear b6); (obtain ⟨b8, -⟩ := hS1.box (i := 8) rfl); (have b80 := b8 0 _ rfl); (have b81 := b8 1 _ rfl); (have b8l := (hS1.lt (i := 8) rfl).2); (clear b8); (obtain ⟨b10, -⟩ := hS1.box (i := 10) rfl); (have b100 := b10 0 _ rfl); (have b101 := b10 1 _ rfl); (have b10l := (hS1.lt (i := 10) rfl).2); (clear b10); (obtain ⟨b11, -⟩ := hS1.box (i := 11) rfl); (have b110 := b11 0 _ rfl); (have b111 := b11 1 _ rfl); (have b11l := (hS1.lt (i := 11) rfl).2); (clear b11); (have HS11 := Lib.hid hS1); (clear hS1)))
  go_wp2_with fail
  refine St.use (w0 := w) (L := ?L12) ?sa12 ?sb12
  case sa12 => first | exact HS11.out | exact (HS11.out.drewN _) | exact HS11.out.drew
  intro hS
  try simp only [World.size_alloc] at hS
  refine (markFun_any n0 A_x0 xs0 c_x0 w.heap.size (1) _ (Lib.hid (hS.ownI (i := 7) rfl)) (by omega) (by omega) (by omega)).mono ?_
  rintro e w12 ⟨rfl, ho, hg⟩
  have hb := True.intro
  clear b20 b21 b2l b40 b41 b4l b60 b61 b6l b80 b81 b8l b100 b101 b10l b110 b111 b11l
  have hS1 := hS.markI (i := 7) rfl hg ho
  clear hS hb ho hg
  obtain ⟨b2, -⟩ := hS1.box (i := 2) rfl
  have b20 := b2 0 _ rfl
  have b21 := b2 1 _ rfl
  have b2l := (hS1.lt (i := 2) rfl).2
  clear b2
  obtain ⟨b4, -⟩ := hS1.box (i := 4) rfl
  have b40 := b4 0 _ rfl
  have b41 := b4 1 _ rfl
  have b4l := (hS1.lt (i := 4) rfl).2
  clear b4
  obtain ⟨b6, -⟩ := hS1.box (i := 6) rfl
  have b60 := b6 0 _ rfl
  have b61 := b6 1 _ rfl
  have b6l := (hS1.lt (i := 6) rfl).2
  clear b6
  obtain ⟨b8, -⟩ := hS1.box (i := 8) rfl
  have b80 := b8 0 _ rfl
  have b81 := b8 1 _ rfl
  have b8l := (hS1.lt (i := 8) rfl).2
  clear b8
  obtain ⟨b10, -⟩ := hS1.box (i := 10) rfl
  have b100 := b10 0 _ rfl
  have b101 := b10 1 _ rfl
  have b10l := (hS1.lt (i := 10) rfl).2
  clear b10
  obtain ⟨b11, -⟩ := hS1.box (i := 11) rfl
  have b110 := b11 0 _ rfl
  have b111 := b11 1 _ rfl
  have b11l := (hS1.lt (i := 11) rfl).2
  clear b11
  have HS12 := Lib.hid hS1
  clear hS1
  go_wp2_with fail
  refine St.use (w0 := w) (L := ?L13) ?sa13 ?sb13
  case sa13 => first | exact HS12.out | exact (HS12.out.drewN _) | exact HS12.out.drew
  intro hS
  try simp only [World.size_alloc] at hS
  refine (markFun_any n1 A_x1 xs1 c_x1 w.heap.size (1 + (xs0.length : Int)) _ (Lib.hid (hS.ownI (i := 5) rfl)) (by omega) (by omega) (by omega)).mono ?_
  rintro e w13 ⟨rfl, ho, hg⟩
  have hb := True.intro
  clear b20 b21 b2l b40 b41 b4l b60 b61 b6l b80 b81 b8l b100 b101 b10l b110 b111 b11l
  have hS1 := hS.markI (i := 5) rfl hg ho
  clear hS hb ho hg
  obtain ⟨b2, -⟩ := hS1.box (i := 2) rfl
  have b20 := b2 0 _ rfl
  have b21 := b2 1 _ rfl
  have b2l := (hS1.lt (i := 2) rfl).2
  clear b2
  obtain ⟨b4, -⟩ := hS1.box (i := 4) rfl
  have b40 := b4 0 _ rfl
  have b41 := b4 1 _ rfl
  have b4l := (hS1.lt (i := 4) rfl).2
  clear b4
  obtain ⟨b6, -⟩ := hS1.box (i := 6) rfl
  have b60 := b6 0 _ rfl
  have b61 := b6 1 _ rfl
  have b6l := (hS1.lt (i := 6) rfl).2
  clear b6
  obtain ⟨b8, -⟩ := hS1.box (i := 8) rfl
  have b80 := b8 0 _ rfl
  have b81 := b8 1 _ rfl
  have b8l := (hS1.lt (i := 8) rfl).2
  clear b8
  obtain ⟨b10, -⟩ := hS1.box (i := 10) rfl
  have b100 := b10 0 _ rfl
  have b101 := b10 1 _ rfl
  have b10l := (hS1.lt (i := 10) rfl).2
  clear b10
  obtain ⟨b11, -⟩ := hS1.box (i := 11) rfl
  have b110 := b11 0 _ rfl
  have b111 := b11 1 _ rfl
  have b11l := (hS1.lt (i := 11) rfl).2
  clear b11
  have HS13 := Lib.hid hS1
  clear hS1
  go_wp2_with fail
  refine St.use (w0 := w) (L := ?L14) ?sa14 ?sb14
  case sa14 => first | exact HS13.out | exact (HS13.out.drewN _) | exact HS13.out.drew
  intro hS
  try simp only [World.size_alloc] at hS
  refine (eqFun_same rn0 A_g A_w rx0 c_g c_w _ (Lib.hid (hS.ints (i := 3) rfl)) (Lib.hid (hS.ints (i := 9) rfl)) (by omega)).mono ?_
  rintro e w14 ⟨rfl, hb⟩
  clear b20 b21 b2l b40 b41 b4l b60 b61 b6l b80 b81 b8l b100 b101 b10l b110 b111 b11l
  have hS1 := hS.below hb
  clear hS hb
  obtain ⟨b2, -⟩ := hS1.box (i := 2) rfl
  have b20 := b2 0 _ rfl
  have b21 := b2 1 _ rfl
  have b2l := (hS1.lt (i := 2) rfl).2
  clear b2
  obtain ⟨b4, -⟩ := hS1.box (i := 4) rfl
  have b40 := b4 0 _ rfl
  have b41 := b4 1 _ rfl
  have b4l := (hS1.lt (i := 4) rfl).2
  clear b4
  obtain ⟨b6, -⟩ := hS1.box (i := 6) rfl
  have b60 := b6 0 _ rfl
  have b61 := b6 1 _ rfl
  have b6l := (hS1.lt (i := 6) rfl).2
  clear b6
  obtain ⟨b8, -⟩ := hS1.box (i := 8) rfl
  have b80 := b8 0 _ rfl
  have b81 := b8 1 _ rfl
  have b8l := (hS1.lt (i := 8) rfl).2
  clear b8
  obtain ⟨b10, -⟩ := hS1.box (i := 10) rfl
  have b100 := b10 0 _ rfl
  have b101 := b10 1 _ rfl
  have b10l := (hS1.lt (i := 10) rfl).2
  clear b10
  obtain ⟨b11, -⟩ := hS1.box (i := 11) rfl
  have b110 := b11 0 _ rfl
  have b111 := b11 1 _ rfl
  have b11l := (hS1.lt (i := 11) rfl).2
  clear b11
  have HS14 := Lib.hid hS1
  clear hS1
  go_wp2_with fail
  refine St.use (w0 := w) (L := ?L15) ?sa15 ?sb15
  case sa15 => first | exact HS14.out | exact (HS14.out.drewN _) | exact HS14.out.drew
  intro hS
  try simp only [World.size_alloc] at hS
  refine (markFun_any rn0 A_g rx0 c_g w.heap.size (1) _ (Lib.hid (hS.ownI (i := 3) rfl)) (by omega) (by omega) (by omega)).mono ?_
  rintro e w15 ⟨rfl, ho, hg⟩
  have hb := True.intro
  clear b20 b21 b2l b40 b41 b4l b60 b61 b6l b80 b81 b8l b100 b101 b10l b110 b111 b11l
  have hS1 := hS.markI (i := 3) rfl hg ho
  clear hS hb ho hg
  obtain ⟨b2, -⟩ := hS1.box (i := 2) rfl
  have b20 := b2 0 _ rfl
  have b21 := b2 1 _ rfl
  have b2l := (hS1.lt (i := 2) rfl).2
  clear b2
  obtain ⟨b4, -⟩ := hS1.box (i := 4) rfl
  have b40 := b4 0 _ rfl
  have b41 := b4 1 _ rfl
  have b4l := (hS1.lt (i := 4) rfl).2
  clear b4
  obtain ⟨b6, -⟩ := hS1.box (i := 6) rfl
  have b60 := b6 0 _ rfl
  have b61 := b6 1 _ rfl
  have b6l := (hS1.lt (i := 6) rfl).2
  clear b6
  obtain ⟨b8, -⟩ := hS1.box (i := 8) rfl
  have b80 := b8 0 _ rfl
  have b81 := b8 1 _ rfl
  have b8l := (hS1.lt (i := 8) rfl).2
  clear b8
  obtain ⟨b10, -⟩ := hS1.box (i := 10) rfl
  have b100 := b10 0 _ rfl
  have b101 := b10 1 _ rfl
  have b10l := (hS1.lt (i := 10) rfl).2
  clear b10
  obtain ⟨b11, -⟩ := hS1.box (i := 11) rfl
  have b110 := b11 0 _ rfl
  have b111 := b11 1 _ rfl
  have b11l := (hS1.lt (i := 11) rfl).2
  clear b11
  have HS15 := Lib.hid hS1
  clear hS1
  go_wp2_with fail
  refine St.use (w0 := w) (L := ?L16) ?sa16 ?sb16
  case sa16 => first | exact HS15.out | exact (HS15.out.drewN _) | exact HS15.out.drew
  intro hS
  try simp only [World.size_alloc] at hS
  refine (heldFun_any rn0 A_g rx0.length c_g (1) _ (Lib.hid (hS.ints (i := 3) rfl)) (by omega) (by omega) (by omega)).mono ?_
  rintro e w16 ⟨rfl, hb⟩
  clear b20 b21 b2l b40 b41 b4l b60 b61 b6l b80 b81 b8l b100 b101 b10l b110 b111 b11l
  have hS1 := hS.below hb
  clear hS hb
  obtain ⟨b2, -⟩ := hS1.box (i := 2) rfl
  have b20 := b2 0 _ rfl
  have b21 := b2 1 _ rfl
  have b2l := (hS1.lt (i := 2) rfl).2
  clear b2
  obtain ⟨b4, -⟩ := hS1.box (i := 4) rfl
  have b40 := b4 0 _ rfl
  have b41 := b4 1 _ rfl
  have b4l := (hS1.lt (i := 4) rfl).2
  clear b4
  obtain ⟨b6, -⟩ := hS1.box (i := 6) rfl
  have b60 := b6 0 _ rfl
  have b61 := b6 1 _ rfl
  have b6l := (hS1.lt (i := 6) rfl).2
  clear b6
  obtain ⟨b8, -⟩ := hS1.box (i := 8) rfl
  have b80 := b8 0 _ rfl
  have b81 := b8 1 _ rfl
  have b8l := (hS1.lt (i := 8) rfl).2
  clear b8
  obtain ⟨b10, -⟩ := hS1.box (i := 10) rfl
  have b100 := b10 0 _ rfl
  have b101 := b10 1 _ rfl
  have b10l := (hS1.lt (i := 10) rfl).2
  clear b10
  obtain ⟨b11, -⟩ := hS1.box (i := 11) rfl
  have b110 := b11 0 _ rfl
  have b111 := b11 1 _ rfl
  have b11l := (hS1.lt (i := 11) rfl).2
  clear b11
  have HS16 := Lib.hid hS1
  clear hS1
  go_wp2_with fail
  go_cut [15, 16] (fun s15 s16 wx => ∃ (g_h : Nat) (A_h : Option Addr) (c_h : Nat), s15 = .pointer (some ⟨g_h, 0, none⟩) ∧ s16 = .bool rb1 ∧ St w wx [bx (g_h) 26 [.int .i64 rn0, .slice A_h rx0.length c_h], il (.slice A_h rx0.length c_h) rx0.length rx0, il (.slice A_y1 xs1.length c_y1) xs1.length xs1, il (.slice A_y0 xs0.length c_y0) xs0.length xs0, bx (w6.heap.size) 26 [.int .i64 rn0, .slice A_g rx0.length c_g], il (.slice A_g rx0.length c_g) rx0.length (iota (1) rx0.length), bx (w5.heap.size) 26 [.int .i64 n1, .slice A_x1 xs1.length c_x1], il (.slice A_x1 xs1.length c_x1) xs1.length (iota (1 + (xs0.length : Int)) xs1.length), bx (w4.heap.size) 26 [.int .i64 n0, .slice A_x0 xs0.length c_x0], il (.slice A_x0 xs0.length c_x0) xs0.length (iota (1) xs0.length), bx (g_w) 26 [.int .i64 rn0, .slice A_w rx0.length c_w], il (.slice A_w rx0.length c_w) rx0.length rx0, bx (w.heap.size + 1) 24 [.int .i64 n1, .slice A1 xs1.length cap1], bx (w.heap.size) 24 [.int .i64 n0, .slice A0 xs0.length cap0]])
  case first =>
    have HR := Lib.hid (show St w _ [il (.slice A_y1 xs1.length c_y1) xs1.length xs1, il (.slice A_y0 xs0.length c_y0) xs0.length xs0, bx (w6.heap.size) 26 [.int .i64 rn0, .slice A_g rx0.length c_g], il (.slice A_g rx0.length c_g) rx0.length (iota (1) rx0.length), bx (w5.heap.size) 26 [.int .i64 n1, .slice A_x1 xs1.length c_x1], il (.slice A_x1 xs1.length c_x1) xs1.length (iota (1 + (xs0.length : Int)) xs1.length), bx (w4.heap.size) 26 [.int .i64 n0, .slice A_x0 xs0.length c_x0], il (.slice A_x0 xs0.length c_x0) xs0.length (iota (1) xs0.length), bx (g_w) 26 [.int .i64 rn0, .slice A_w rx0.length c_w], il (.slice A_w rx0.length c_w) rx0.length rx0, bx (w.heap.size + 1) 24 [.int .i64 n1, .slice A1 xs1.length cap1], bx (w.heap.size) 24 [.int .i64 n0, .slice A0 xs0.length cap0]] from by first | exact HS16.out | exact HS16.out.drew)
    go_region_held3 (fun w' => w'.cell? ⟨w.heap.size, 0, none⟩ = some (.int .i64 n0) ∧ w'.cell? ⟨w.heap.size, 1, none⟩ = some (.slice A0 xs0.length cap0) ∧ w'.cell? ⟨w.heap.size + 1, 0, none⟩ = some (.int .i64 n1) ∧ w'.cell? ⟨w.heap.size + 1, 1, none⟩ = some (.slice A1 xs1.length cap1)) (first | (refine ⟨?_, ?_, ?_, ?_⟩ <;> first | assumption | (rw [World.cell?_setCell_other _ _ _ _ (by simp only [ne_eq, Addr.mk.injEq, not_and]; intro e; omega), World.cell?_setCell_other _ _ _ _ (by simp only [ne_eq, Addr.mk.injEq, not_and]; intro e; omega)]; assumption)) | go_keep) (first | (go_at_call_of 9 (Value.agg #[.int .i64 n0, .slice A0 xs0.length cap0]); refine St.use (w0 := w) (by first | exact HR.out | exact HR.out.drew | exact HR.out.alloc _ _ | exact (HR.out.alloc _ _).drew | exact HR.out.drew.alloc _ _ | exact HR.out.drewN _ | exact (HR.out.drewN _).alloc _ _) ?_; intro hS; (try simp only [World.size_alloc] at hS); refine (toFun_any n0 A0 xs0 cap0 _ (Lib.hid ((h0.out.below hS.base).mono hS.size)) (by omega)).mono ?_; rintro e wq ⟨A_z0, c_z0, rfl, ho, hb⟩; have hS1 := hS.newI hb ho; have bb00 := hS1.cell (g := w.heap.size) (t := 24) (cs := [.int .i64 n0, .slice A0 xs0.length cap0]) (by repeat (first | exact List.Mem.head _ | apply List.Mem.tail)) 0 _ rfl; have bb01 := hS1.cell (g := w.heap.size) (t := 24) (cs := [.int .i64 n0, .slice A0 xs0.length cap0]) (by repeat (first | exact List.Mem.head _ | apply List.Mem.tail)) 1 _ rfl; have bl0 := hS1.ltOf (g := w.heap.size) (t := 24) (cs := [.int .i64 n0, .slice A0 xs0.length cap0]) (by repeat (first | exact List.Mem.head _ | apply List.Mem.tail)); have bb10 := hS1.cell (g := w.heap.size + 1) (t := 24) (cs := [.int .i64 n1, .slice A1 xs1.length cap1]) (by repeat (first | exact List.Mem.head _ | apply List.Mem.tail)) 0 _ rfl; have bb11 := hS1.cell (g := w.heap.size + 1) (t := 24) (cs := [.int .i64 n1, .slice A1 xs1.length cap1]) (by repeat (first | exact List.Mem.head _ | apply List.Mem.tail)) 1 _ rfl; have bl1 := hS1.ltOf (g := w.heap.size + 1) (t := 24) (cs := [.int .i64 n1, .slice A1 xs1.length cap1]) (by repeat (first | exact List.Mem.head _ | apply List.Mem.tail)); (try (obtain ⟨bz, fz⟩ := hS1.box (i := 1) rfl; have bz10 := bz 0 _ rfl; have bz11 := bz 1 _ rfl; have fz10 := fz 0; have fz11 := fz 1; have bzl1 := (hS1.lt (i := 1) rfl).2; clear bz fz)); (try (obtain ⟨bz, fz⟩ := hS1.box (i := 2) rfl; have bz20 := bz 0 _ rfl; have bz21 := bz 1 _ rfl; have fz20 := fz 0; have fz21 := fz 1; have bzl2 := (hS1.lt (i := 2) rfl).2; clear bz fz)); (try (obtain ⟨bz, fz⟩ := hS1.box (i := 3) rfl; have bz30 := bz 0 _ rfl; have bz31 := bz 1 _ rfl; have fz30 := fz 0; have fz31 := fz 1; have bzl3 := (hS1.lt (i := 3) rfl).2; clear bz fz)); clear hS; have HR := Lib.hid hS1; clear hS1) | (go_at_call_of 9 (Value.agg #[.int .i64 n1, .slice A1 xs1.length cap1]); refine St.use (w0 := w) (by first | exact HR.out | exact HR.out.drew | exact HR.out.alloc _ _ | exact (HR.out.alloc _ _).drew | exact HR.out.drew.alloc _ _ | exact HR.out.drewN _ | exact (HR.out.drewN _).alloc _ _) ?_; intro hS; (try simp only [World.size_alloc] at hS); refine (toFun_any n1 A1 xs1 cap1 _ (Lib.hid ((h1.out.below hS.base).mono hS.size)) (by omega)).mono ?_; rintro e wq ⟨A_z1, c_z1, rfl, ho, hb⟩; have hS1 := hS.newI hb ho; have bb00 := hS1.cell (g := w.heap.size) (t := 24) (cs := [.int .i64 n0, .slice A0 xs0.length cap0]) (by repeat (first | exact List.Mem.head _ | apply List.Mem.tail)) 0 _ rfl; have bb01 := hS1.cell (g := w.heap.size) (t := 24) (cs := [.int .i64 n0, .slice A0 xs0.length cap0]) (by repeat (first | exact List.Mem.head _ | apply List.Mem.tail)) 1 _ rfl; have bl0 := hS1.ltOf (g := w.heap.size) (t := 24) (cs := [.int .i64 n0, .slice A0 xs0.length cap0]) (by repeat (first | exact List.Mem.head _ | apply List.Mem.tail)); have bb10 := hS1.cell (g := w.heap.size + 1) (t := 24) (cs := [.int .i64 n1, .slice A1 xs1.length cap1]) (by repeat (first | exact List.Mem.head _ | apply List.Mem.tail)) 0 _ rfl; have bb11 := hS1.cell (g := w.heap.size + 1) (t := 24) (cs := [.int .i64 n1, .slice A1 xs1.length cap1]) (by repeat (first | exact List.Mem.head _ | apply List.Mem.tail)) 1 _ rfl; have bl1 := hS1.ltOf (g := w.heap.size + 1) (t := 24) (cs := [.int .i64 n1, .slice A1 xs1.length cap1]) (by repeat (first | exact List.Mem.head _ | apply List.Mem.tail)); (try (obtain ⟨bz, fz⟩ := hS1.box (i := 1) rfl; have bz10 := bz 0 _ rfl; have bz11 := bz 1 _ rfl; have fz10 := fz 0; have fz11 := fz 1; have bzl1 := (hS1.lt (i := 1) rfl).2; clear bz fz)); (try (obtain ⟨bz, fz⟩ := hS1.box (i := 2) rfl; have bz20 := bz 0 _ rfl; have bz21 := bz 1 _ rfl; have fz20 := fz 0; have fz21 := fz 1; have bzl2 := (hS1.lt (i := 2) rfl).2; clear bz fz)); (try (obtain ⟨bz, fz⟩ := hS1.box (i := 3) rfl; have bz30 := bz 0 _ rfl; have bz31 := bz 1 _ rfl; have fz30 := fz 0; have fz31 := fz 1; have bzl3 := (hS1.lt (i := 3) rfl).2; clear bz fz)); clear hS; have HR := Lib.hid hS1; clear hS1) | (go_at_call 10; refine St.use (w0 := w) (by first | exact HR.out | exact HR.out.drew | exact HR.out.alloc _ _ | exact (HR.out.alloc _ _).drew | exact HR.out.drew.alloc _ _ | exact HR.out.drewN _ | exact (HR.out.drewN _).alloc _ _) ?_; intro hS; (try simp only [World.size_alloc] at hS); refine (hi.out _ _ _ _ _ hS.base (Lib.hid (by first | exact hS.ints (i := 0) rfl | exact hS.ints (i := 1) rfl | exact hS.ints (i := 2) rfl | exact hS.ints (i := 3) rfl)) (Lib.hid (by first | exact hS.ints (i := 0) rfl | exact hS.ints (i := 1) rfl | exact hS.ints (i := 2) rfl | exact hS.ints (i := 3) rfl))).mono ?_; rintro e wq ⟨A_h, c_h, rfl, ho, hb⟩; have hS1 := hS.newI hb ho; have bb00 := hS1.cell (g := w.heap.size) (t := 24) (cs := [.int .i64 n0, .slice A0 xs0.length cap0]) (by repeat (first | exact List.Mem.head _ | apply List.Mem.tail)) 0 _ rfl; have bb01 := hS1.cell (g := w.heap.size) (t := 24) (cs := [.int .i64 n0, .slice A0 xs0.length cap0]) (by repeat (first | exact List.Mem.head _ | apply List.Mem.tail)) 1 _ rfl; have bl0 := hS1.ltOf (g := w.heap.size) (t := 24) (cs := [.int .i64 n0, .slice A0 xs0.length cap0]) (by repeat (first | exact List.Mem.head _ | apply List.Mem.tail)); have bb10 := hS1.cell (g := w.heap.size + 1) (t := 24) (cs := [.int .i64 n1, .slice A1 xs1.length cap1]) (by repeat (first | exact List.Mem.head _ | apply List.Mem.tail)) 0 _ rfl; have bb11 := hS1.cell (g := w.heap.size + 1) (t := 24) (cs := [.int .i64 n1, .slice A1 xs1.length cap1]) (by repeat (first | exact List.Mem.head _ | apply List.Mem.tail)) 1 _ rfl; have bl1 := hS1.ltOf (g := w.heap.size + 1) (t := 24) (cs := [.int .i64 n1, .slice A1 xs1.length cap1]) (by repeat (first | exact List.Mem.head _ | apply List.Mem.tail)); (try (obtain ⟨bz, fz⟩ := hS1.box (i := 1) rfl; have bz10 := bz 0 _ rfl; have bz11 := bz 1 _ rfl; have fz10 := fz 0; have fz11 := fz 1; have bzl1 := (hS1.lt (i := 1) rfl).2; clear bz fz)); (try (obtain ⟨bz, fz⟩ := hS1.box (i := 2) rfl; have bz20 := bz 0 _ rfl; have bz21 := bz 1 _ rfl; have fz20 := fz 0; have fz21 := fz 1; have bzl2 := (hS1.lt (i := 2) rfl).2; clear bz fz)); (try (obtain ⟨bz, fz⟩ := hS1.box (i := 3) rfl; have bz30 := bz 0 _ rfl; have bz31 := bz 1 _ rfl; have fz30 := fz 0; have fz31 := fz 1; have bzl3 := (hS1.lt (i := 3) rfl).2; clear bz fz)); clear hS; have HR := Lib.hid hS1; clear hS1))
    all_goals (go_wp2_with fail; go_meet; exact ⟨_, _, _, rfl, rfl, by first | exact ((HR.out.store (i := 3) rfl 0 _).store (i := 3) rfl 1 _).sub _ [3, 0, 4, 5, 6, 7, 8, 9, 10, 11, 12, 13, 14, 15] rfl (by decide) | exact ((HR.out.store (i := 3) rfl 0 _).store (i := 3) rfl 1 _).drew.sub _ [3, 0, 4, 5, 6, 7, 8, 9, 10, 11, 12, 13, 14, 15] rfl (by decide) | exact ((HR.out.drew.store (i := 3) rfl 0 _).store (i := 3) rfl 1 _).sub _ [3, 0, 4, 5, 6, 7, 8, 9, 10, 11, 12, 13, 14, 15] rfl (by decide) | exact ((HR.out.drew.store (i := 3) rfl 0 _).store (i := 3) rfl 1 _).drew.sub _ [3, 0, 4, 5, 6, 7, 8, 9, 10, 11, 12, 13, 14, 15] rfl (by decide) | exact (((HR.out.drewN _).store (i := 3) rfl 0 _).store (i := 3) rfl 1 _).sub _ [3, 0, 4, 5, 6, 7, 8, 9, 10, 11, 12, 13, 14, 15] rfl (by decide) | exact (((HR.out.drewN _).store (i := 3) rfl 0 _).store (i := 3) rfl 1 _).drew.sub _ [3, 0, 4, 5, 6, 7, 8, 9, 10, 11, 12, 13, 14, 15] rfl (by decide) | exact ((HR.out.store (i := 2) rfl 0 _).store (i := 2) rfl 1 _).sub _ [2, 0, 4, 5, 6, 7, 8, 9, 10, 11, 12, 13, 14, 15] rfl (by decide) | exact ((HR.out.store (i := 2) rfl 0 _).store (i := 2) rfl 1 _).drew.sub _ [2, 0, 4, 5, 6, 7, 8, 9, 10, 11, 12, 13, 14, 15] rfl (by decide) | exact ((HR.out.drew.store (i := 2) rfl 0 _).store (i := 2) rfl 1 _).sub _ [2, 0, 4, 5, 6, 7, 8, 9, 10, 11, 12, 13, 14, 15] rfl (by decide) | exact ((HR.out.drew.store (i := 2) rfl 0 _).store (i := 2) rfl 1 _).drew.sub _ [2, 0, 4, 5, 6, 7, 8, 9, 10, 11, 12, 13, 14, 15] rfl (by decide) | exact (((HR.out.drewN _).store (i := 2) rfl 0 _).store (i := 2) rfl 1 _).sub _ [2, 0, 4, 5, 6, 7, 8, 9, 10, 11, 12, 13, 14, 15] rfl (by decide) | exact (((HR.out.drewN _).store (i := 2) rfl 0 _).store (i := 2) rfl 1 _).drew.sub _ [2, 0, 4, 5, 6, 7, 8, 9, 10, 11, 12, 13, 14, 15] rfl (by decide) | exact ((HR.out.store (i := 1) rfl 0 _).store (i := 1) rfl 1 _).sub _ [1, 0, 4, 5, 6, 7, 8, 9, 10, 11, 12, 13, 14, 15] rfl (by decide) | exact ((HR.out.store (i := 1) rfl 0 _).store (i := 1) rfl 1 _).drew.sub _ [1, 0, 4, 5, 6, 7, 8, 9, 10, 11, 12, 13, 14, 15] rfl (by decide) | exact ((HR.out.drew.store (i := 1) rfl 0 _).store (i := 1) rfl 1 _).sub _ [1, 0, 4, 5, 6, 7, 8, 9, 10, 11, 12, 13, 14, 15] rfl (by decide) | exact ((HR.out.drew.store (i := 1) rfl 0 _).store (i := 1) rfl 1 _).drew.sub _ [1, 0, 4, 5, 6, 7, 8, 9, 10, 11, 12, 13, 14, 15] rfl (by decide) | exact (((HR.out.drewN _).store (i := 1) rfl 0 _).store (i := 1) rfl 1 _).sub _ [1, 0, 4, 5, 6, 7, 8, 9, 10, 11, 12, 13, 14, 15] rfl (by decide) | exact (((HR.out.drewN _).store (i := 1) rfl 0 _).store (i := 1) rfl 1 _).drew.sub _ [1, 0, 4, 5, 6, 7, 8, 9, 10, 11, 12, 13, 14, 15] rfl (by decide) | exact (HR.out.alloc _ _).sub _ [0, 1, 4, 5, 6, 7, 8, 9, 10, 11, 12, 13, 14, 15] rfl (by decide) | exact (HR.out.alloc _ _).drew.sub _ [0, 1, 4, 5, 6, 7, 8, 9, 10, 11, 12, 13, 14, 15] rfl (by decide) | exact (HR.out.drew.alloc _ _).sub _ [0, 1, 4, 5, 6, 7, 8, 9, 10, 11, 12, 13, 14, 15] rfl (by decide) | exact (HR.out.drew.alloc _ _).drew.sub _ [0, 1, 4, 5, 6, 7, 8, 9, 10, 11, 12, 13, 14, 15] rfl (by decide) | exact ((HR.out.drewN _).alloc _ _).sub _ [0, 1, 4, 5, 6, 7, 8, 9, 10, 11, 12, 13, 14, 15] rfl (by decide) | exact ((HR.out.drewN _).alloc _ _).drew.sub _ [0, 1, 4, 5, 6, 7, 8, 9, 10, 11, 12, 13, 14, 15] rfl (by decide)⟩)
  obtain ⟨g_h, A_h, c_h, rfl, rfl, hS1⟩ := hcut
  clear b20 b21 b2l b40 b41 b4l b60 b61 b6l b80 b81 b8l b100 b101 b10l b110 b111 b11l
  obtain ⟨b0, -⟩ := hS1.box (i := 0) rfl
  have b00 := b0 0 _ rfl
  have b01 := b0 1 _ rfl
  have b0l := (hS1.lt (i := 0) rfl).2
  clear b0
  obtain ⟨b4, -⟩ := hS1.box (i := 4) rfl
  have b40 := b4 0 _ rfl
  have b41 := b4 1 _ rfl
  have b4l := (hS1.lt (i := 4) rfl).2
  clear b4
  obtain ⟨b6, -⟩ := hS1.box (i := 6) rfl
  have b60 := b6 0 _ rfl
  have b61 := b6 1 _ rfl
  have b6l := (hS1.lt (i := 6) rfl).2
  clear b6
  obtain ⟨b8, -⟩ := hS1.box (i := 8) rfl
  have b80 := b8 0 _ rfl
  have b81 := b8 1 _ rfl
  have b8l := (hS1.lt (i := 8) rfl).2
  clear b8
  obtain ⟨b10, -⟩ := hS1.box (i := 10) rfl
  have b100 := b10 0 _ rfl
  have b101 := b10 1 _ rfl
  have b10l := (hS1.lt (i := 10) rfl).2
  clear b10
  obtain ⟨b12, -⟩ := hS1.box (i := 12) rfl
  have b120 := b12 0 _ rfl
  have b121 := b12 1 _ rfl
  have b12l := (hS1.lt (i := 12) rfl).2
  clear b12
  obtain ⟨b13, -⟩ := hS1.box (i := 13) rfl
  have b130 := b13 0 _ rfl
  have b131 := b13 1 _ rfl
  have b13l := (hS1.lt (i := 13) rfl).2
  clear b13
  have HS17 := Lib.hid hS1
  clear hS1
  go_wp2_with fail
  refine St.use (w0 := w) (L := ?L18) ?sa18 ?sb18
  case sa18 => first | exact HS17.out | exact (HS17.out.drewN _) | exact HS17.out.drew
  intro hS
  try simp only [World.size_alloc] at hS
  refine (eqFun_same rn0 A_h A_w rx0 c_h c_w _ (Lib.hid (hS.ints (i := 1) rfl)) (Lib.hid (hS.ints (i := 11) rfl)) (by omega)).mono ?_
  rintro e w18 ⟨rfl, hb⟩
  clear b00 b01 b0l b40 b41 b4l b60 b61 b6l b80 b81 b8l b100 b101 b10l b120 b121 b12l b130 b131 b13l
  have hS1 := hS.below hb
  clear hS hb
  obtain ⟨b0, -⟩ := hS1.box (i := 0) rfl
  have b00 := b0 0 _ rfl
  have b01 := b0 1 _ rfl
  have b0l := (hS1.lt (i := 0) rfl).2
  clear b0
  obtain ⟨b4, -⟩ := hS1.box (i := 4) rfl
  have b40 := b4 0 _ rfl
  have b41 := b4 1 _ rfl
  have b4l := (hS1.lt (i := 4) rfl).2
  clear b4
  obtain ⟨b6, -⟩ := hS1.box (i := 6) rfl
  have b60 := b6 0 _ rfl
  have b61 := b6 1 _ rfl
  have b6l := (hS1.lt (i := 6) rfl).2
  clear b6
  obtain ⟨b8, -⟩ := hS1.box (i := 8) rfl
  have b80 := b8 0 _ rfl
  have b81 := b8 1 _ rfl
  have b8l := (hS1.lt (i := 8) rfl).2
  clear b8
  obtain ⟨b10, -⟩ := hS1.box (i := 10) rfl
  have b100 := b10 0 _ rfl
  have b101 := b10 1 _ rfl
  have b10l := (hS1.lt (i := 10) rfl).2
  clear b10
  obtain ⟨b12, -⟩ := hS1.box (i := 12) rfl
  have b120 := b12 0 _ rfl
  have b121 := b12 1 _ rfl
  have b12l := (hS1.lt (i := 12) rfl).2
  clear b12
  obtain ⟨b13, -⟩ := hS1.box (i := 13) rfl
  have b130 := b13 0 _ rfl
  have b131 := b13 1 _ rfl
  have b13l := (hS1.lt (i := 13) rfl).2
  clear b13
  have HS18 := Lib.hid hS1
  clear hS1
  go_wp2_with fail
  refine St.use (w0 := w) (L := ?L19) ?sa19 ?sb19
  case sa19 => first | exact HS18.out | exact (HS18.out.drewN _) | exact HS18.out.drew
  intro hS
  try simp only [World.size_alloc] at hS
  refine (heldFun_any rn0 A_g rx0.length c_g (1) _ (Lib.hid (hS.ints (i := 5) rfl)) (by omega) (by omega) (by omega)).mono ?_
  rintro e w19 ⟨rfl, hb⟩
  clear b00 b01 b0l b40 b41 b4l b60 b61 b6l b80 b81 b8l b100 b101 b10l b120 b121 b12l b130 b131 b13l
  have hS1 := hS.below hb
  clear hS hb
  obtain ⟨b0, -⟩ := hS1.box (i := 0) rfl
  have b00 := b0 0 _ rfl
  have b01 := b0 1 _ rfl
  have b0l := (hS1.lt (i := 0) rfl).2
  clear b0
  obtain ⟨b4, -⟩ := hS1.box (i := 4) rfl
  have b40 := b4 0 _ rfl
  have b41 := b4 1 _ rfl
  have b4l := (hS1.lt (i := 4) rfl).2
  clear b4
  obtain ⟨b6, -⟩ := hS1.box (i := 6) rfl
  have b60 := b6 0 _ rfl
  have b61 := b6 1 _ rfl
  have b6l := (hS1.lt (i := 6) rfl).2
  clear b6
  obtain ⟨b8, -⟩ := hS1.box (i := 8) rfl
  have b80 := b8 0 _ rfl
  have b81 := b8 1 _ rfl
  have b8l := (hS1.lt (i := 8) rfl).2
  clear b8
  obtain ⟨b10, -⟩ := hS1.box (i := 10) rfl
  have b100 := b10 0 _ rfl
  have b101 := b10 1 _ rfl
  have b10l := (hS1.lt (i := 10) rfl).2
  clear b10
  obtain ⟨b12, -⟩ := hS1.box (i := 12) rfl
  have b120 := b12 0 _ rfl
  have b121 := b12 1 _ rfl
  have b12l := (hS1.lt (i := 12) rfl).2
  clear b12
  obtain ⟨b13, -⟩ := hS1.box (i := 13) rfl
  have b130 := b13 0 _ rfl
  have b131 := b13 1 _ rfl
  have b13l := (hS1.lt (i := 13) rfl).2
  clear b13
  have HS19 := Lib.hid hS1
  clear hS1
  go_wp2
  go_ret
  exact ⟨rfl, HS19.out.base⟩

set_option maxRecDepth 100000 in
set_option maxHeartbeats 1600000 in
theorem law_ConvolveFunctions_over0 (n0 : Int) (A0 : Option Addr) (xs0 : List Int) (cap0 : Nat) (n1 : Int) (A1 : Option Addr) (xs1 : List Int) (cap1 : Nat) (w : World)  (mo : 1048576 < (xs0.length : Int)) (mx : xs0.length ≤ 9223372036854775807) :
    Calls Try.prog 3 #[.agg #[.int .i64 n0, .slice A0 xs0.length cap0], .agg #[.int .i64 n1, .slice A1 xs1.length cap1]] w (RetV w (.bool true)) := by
  have HW := Lib.hid (St.start w)
  go_enter Try.func3, Try.ntmps3
  go_wp2_with fail
  refine St.use (w0 := w) (L := ?L1) ?sa1 ?sb1
  case sa1 => first | exact ((HW.out.alloc _ _).alloc _ _) | exact (((HW.out.drewN _).alloc _ _).alloc _ _) | exact ((HW.out.drew.alloc _ _).alloc _ _)
  intro hS
  try simp only [World.size_alloc] at hS
  refine (szFun_over n0 A0 xs0.length cap0 (1048576) _ (by omega) (by omega) mx).mono ?_
  rintro e w1 ⟨rfl, hb⟩
  have hS1 := hS.below hb
  clear hS hb
  obtain ⟨b0, -⟩ := hS1.box (i := 0) rfl
  have b00 := b0 0 _ rfl
  have b01 := b0 1 _ rfl
  have b0l := (hS1.lt (i := 0) rfl).2
  clear b0
  obtain ⟨b1, -⟩ := hS1.box (i := 1) rfl
  have b10 := b1 0 _ rfl
  have b11 := b1 1 _ rfl
  have b1l := (hS1.lt (i := 1) rfl).2
  clear b1
  have HS1 := Lib.hid hS1
  clear hS1
  go_wp2
  go_ret
  exact ⟨rfl, HS1.out.base⟩

set_option maxRecDepth 100000 in
set_option maxHeartbeats 1600000 in
theorem law_ConvolveFunctions_over1 (n0 : Int) (A0 : Option Addr) (xs0 : List Int) (cap0 : Nat) (n1 : Int) (A1 : Option Addr) (xs1 : List Int) (cap1 : Nat) (w : World)  (mm : (xs0.length : Int) ≤ 1048576) (mo : 1048576 < (xs0.length : Int) + (xs1.length : Int)) (mx : xs1.length ≤ 9223372036854775807) :
    Calls Try.prog 3 #[.agg #[.int .i64 n0, .slice A0 xs0.length cap0], .agg #[.int .i64 n1, .slice A1 xs1.length cap1]] w (RetV w (.bool true)) := by
  have HW := Lib.hid (St.start w)
  go_enter Try.func3, Try.ntmps3
  go_wp2_with fail
  refine St.use (w0 := w) (L := ?L1) ?sa1 ?sb1
  case sa1 => first | exact ((HW.out.alloc _ _).alloc _ _) | exact (((HW.out.drewN _).alloc _ _).alloc _ _) | exact ((HW.out.drew.alloc _ _).alloc _ _)
  intro hS
  try simp only [World.size_alloc] at hS
  refine (szFun_ok n0 A0 xs0.length cap0 (1048576) _ (by omega) (by omega)).mono ?_
  rintro e w1 ⟨rfl, hb⟩
  have hS1 := hS.below hb
  clear hS hb
  obtain ⟨b0, -⟩ := hS1.box (i := 0) rfl
  have b00 := b0 0 _ rfl
  have b01 := b0 1 _ rfl
  have b0l := (hS1.lt (i := 0) rfl).2
  clear b0
  obtain ⟨b1, -⟩ := hS1.box (i := 1) rfl
  have b10 := b1 0 _ rfl
  have b11 := b1 1 _ rfl
  have b1l := (hS1.lt (i := 1) rfl).2
  clear b1
  have HS1 := Lib.hid hS1
  clear hS1
  go_wp2_with fail
  refine St.use (w0 := w) (L := ?L2) ?sa2 ?sb2
  case sa2 => first | exact HS1.out | exact (HS1.out.drewN _) | exact HS1.out.drew
  intro hS
  try simp only [World.size_alloc] at hS
  refine (szFun_over n1 A1 xs1.length cap1 (1048576 - (xs0.length : Int)) _ (by omega) (by omega) mx).mono ?_
  rintro e w2 ⟨rfl, hb⟩
  clear b00 b01 b0l b10 b11 b1l
  have hS1 := hS.below hb
  clear hS hb
  obtain ⟨b0, -⟩ := hS1.box (i := 0) rfl
  have b00 := b0 0 _ rfl
  have b01 := b0 1 _ rfl
  have b0l := (hS1.lt (i := 0) rfl).2
  clear b0
  obtain ⟨b1, -⟩ := hS1.box (i := 1) rfl
  have b10 := b1 0 _ rfl
  have b11 := b1 1 _ rfl
  have b1l := (hS1.lt (i := 1) rfl).2
  clear b1
  have HS2 := Lib.hid hS1
  clear hS1
  go_wp2
  go_ret
  exact ⟨rfl, HS2.out.base⟩

/-- Every input: where the arguments are not too large, the contracts are asked for. -/
theorem law_ConvolveFunctions (n0 : Int) (A0 : Option Addr) (xs0 : List Int) (cap0 : Nat) (n1 : Int) (A1 : Option Addr) (xs1 : List Int) (cap1 : Nat) (rn0 : Int) (rx0 : List Int) (rb1 : Bool) (w : World) (h0 : Hid (Ints w w.heap.size A0 xs0)) (h1 : Hid (Ints w w.heap.size A1 xs1)) (mx0 : xs0.length ≤ 9223372036854775807) (mx1 : xs1.length ≤ 9223372036854775807) (mr0 : rx0.length ≤ 1048576)
    (hs : (mm : (xs0.length : Int) + (xs1.length : Int) ≤ 1048576) → Hid (∀ (W : World) (A0 : Option Addr) (c0 : Nat) (A1 : Option Addr) (c1 : Nat), Below w.heap.size w W → Hid (Ints W W.heap.size A0 xs0) → Hid (Ints W W.heap.size A1 xs1) → Calls Try.prog 8 #[.agg #[.int .i64 n0, .slice A0 xs0.length c0], .agg #[.int .i64 n1, .slice A1 xs1.length c1]] W (RetFB W rn0 rx0 rb1)))
    (hi : (mm : (xs0.length : Int) + (xs1.length : Int) ≤ 1048576) → Hid (∀ (W : World) (A0 : Option Addr) (c0 : Nat) (A1 : Option Addr) (c1 : Nat), Below w.heap.size w W → Hid (Ints W W.heap.size A0 xs0) → Hid (Ints W W.heap.size A1 xs1) → Calls Try.prog 10 #[.agg #[.int .i64 n0, .slice A0 xs0.length c0], .agg #[.int .i64 n1, .slice A1 xs1.length c1]] W (RetFB W rn0 rx0 rb1))) :
    Calls Try.prog 3 #[.agg #[.int .i64 n0, .slice A0 xs0.length cap0], .agg #[.int .i64 n1, .slice A1 xs1.length cap1]] w (RetV w (.bool true)) := by
  by_cases mq0 : (xs0.length : Int) ≤ 1048576
  case neg => exact law_ConvolveFunctions_over0 n0 A0 xs0 cap0 n1 A1 xs1 cap1 w  (by omega) mx0
  by_cases mm : (xs0.length : Int) + (xs1.length : Int) ≤ 1048576
  case neg => exact law_ConvolveFunctions_over1 n0 A0 xs0 cap0 n1 A1 xs1 cap1 w  mq0 (by omega) mx1
  exact law_ConvolveFunctions_in n0 A0 xs0 cap0 n1 A1 xs1 cap1 rn0 rx0 rb1 w h0 h1   mm mr0 (hs mm) (hi mm)

end Go.Proofs.Ytelihjanjlklpaa.C
