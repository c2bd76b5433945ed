/-
  The contracts of the draws of chapter 8: a function with a list, and numbers.
-/
import Derived.Test.YtffbiflgmlabaaaGreatDoorDrB
namespace Go.Proofs.YtffbiflgmlabaaaGreatDoor.C
open Go.RowKit K M
set_option linter.unusedVariables false
set_option linter.unusedSimpArgs false


section

variable (v : Value) (len : Nat) (w : World) (hl : len ≤ 1048576) (hy : Hid (Bytes w.heap.size w v len))
include hl hy
set_option maxRecDepth 100000 in
set_option maxHeartbeats 4000000 in
theorem both8_got : Calls Tryz.prog 28 #[v] w (GotTL w) := by
  have HW := Lib.hid (St.start w)
  go_enter Tryz.func28, Tryz.ntmps28
  go_wp2_with fail
  refine (new_st (HW.out.alloc [.int .i64 0, .slice none 0 0] 26) hy.out hl).mono ?_
  rintro e w1 ⟨rfl, hd⟩
  have HD := Lib.hid hd
  have hz0' : w.heap.size < w1.heap.size := hd.lt_of (i := 0) rfl rfl
  simp only [World.size_alloc] at HD
  clear hd
  go_wp2_with fail
  refine (base_dr HD).mono ?_
  rintro e w2 ⟨nn, V, d, xs, U, ud, us, rfl, hx, hd⟩
  have HX := Lib.hid hx
  have hz2' : w.heap.size < w2.heap.size := hd.lt_of (i := 2) rfl rfl
  obtain ⟨s1, sf⟩ := hd.rest.box (i := 2) (g := w.heap.size) rfl
  have s10 := s1 0 _ rfl
  have s11 := s1 1 _ rfl
  have sf0 := sf 0
  have sf1 := sf 1
  obtain ⟨-, ci, cx, ca, cb, hS⟩ := hd
  obtain ⟨p, hp⟩ : ∃ p, xs.length = p := ⟨_, rfl⟩
  have HP := Lib.hid hp
  rw [hp] at hS ⊢
  obtain ⟨q, hq⟩ : ∃ q, us.length = q := ⟨_, rfl⟩
  have HQ := Lib.hid hq
  rw [hq] at hS ⊢
  have HS := Lib.hid hS
  clear hS hx HD hp hq s1 sf
  have hne : ¬ w.heap.size = w2.heap.size := by omega
  have hne2 : ¬ w2.heap.size = w.heap.size := by omega
  go_wp2
  have hZ := (((HS.out.store (i := 3) rfl 0 (.int .i64 nn)).store (i := 3) rfl 1 (.slice V p d)).alloc [.int .i64 nn, .slice V p d] 26)
  obtain ⟨z1, zf⟩ := hZ.box (i := 4) (g := w.heap.size) rfl
  have z10 := z1 0 _ rfl
  have z11 := z1 1 _ rfl
  exact bodyPost_ret (v := .tuple #[.agg #[.int .i64 nn, .slice V p d], .slice U q ud]) (by simp [results, Tryz.results28, go_sem, z10, z11]) rfl ⟨_, nn, xs, U, ud, us, by rw [HQ.out], by rw [HQ.out]; have := HX.out.2.2.2; rw [HQ.out] at this; exact this, HX.out.2.2.1, ⟨V, d, by rw [HP.out], by rw [HP.out]; exact hZ.ownI (i := 3) rfl, HX.out.1, HX.out.2.1⟩, by rw [HQ.out]; exact hZ.ownI (i := 2) rfl, hZ.base⟩


end

set_option maxRecDepth 100000 in
set_option maxHeartbeats 1600000 in
theorem cnsd_got (v : Value) (len : Nat) (w : World) (hl : len ≤ 1048576) (hy : Hid (Bytes w.heap.size w v len)) : Calls Tryz.prog 5 #[v] w (GotF w) := by
  have HW := Lib.hid (St.start w)
  go_enter Tryz.func5, Tryz.ntmps5
  go_wp2_with fail
  refine St.use (w0 := w) (by exact HW.out.alloc _ _) ?_
  intro hS
  refine (both8_got v len _ hl (Lib.hid (hy.out.later hS.base))).mono ?_
  rintro e w1 ⟨u, n, xs, D, d, ys, rfl, h5, ht, ⟨A, c, rfl, ho, hlx⟩, ho2, hb⟩
  have hS1 := (hS.newI hb ho).alloc [.int .i64 n, .slice A xs.length c] 26
  obtain ⟨r1, rf⟩ := hS1.box (i := 2) rfl
  have r10 := r1 0 _ rfl
  have r11 := r1 1 _ rfl
  have rf0 := rf 0
  have rf1 := rf 1
  have hz0 := (hS.lt (i := 0) rfl).2
  have hz1 := hb.size
  have hne : ¬ w.heap.size = w1.heap.size := by omega
  have hne2 : ¬ w1.heap.size = w.heap.size := by omega
  have HS1 := Lib.hid hS1
  clear hS hS1 hb ho ho2 r1 rf h5 ht
  go_wp2
  have hZ := (HS1.out.store (i := 2) rfl 0 (.int .i64 n)).store (i := 2) rfl 1 (.slice A xs.length c)
  exact bodyPost_ret (v := .agg #[.int .i64 n, .slice A xs.length c]) (by simp [results, Tryz.results5, go_sem, r10, r11, rf0, rf1, hne, hne2]) rfl ⟨_, n, xs, rfl, ⟨A, c, rfl, hZ.ownI (i := 1) rfl, hlx⟩, hZ.base⟩

end Go.Proofs.YtffbiflgmlabaaaGreatDoor.C
