/-
  The contracts of the draws of chapter 2, as the laws call them: two functions, sets, one function.
-/
import Derived.Test.YtielfnjkfceliaaGreatDoorDrawH
namespace Go.Proofs.YtielfnjkfceliaaGreatDoor.C
open Go.RowKit M K
set_option linter.unusedVariables false
set_option linter.unusedSimpArgs false

def GotXY (P : Int → Int → Prop) (w : World) (e : Ending) (w' : World) : Prop := ∃ x y, e = .returned (.tuple #[.int .i64 x, .int .i64 y]) ∧ P x y ∧ Below w.heap.size w w'


section

variable (v : Value) (len : Nat) (w : World) (hl : len ≤ 1048576) (hy : Hid (Bytes w.heap.size w v len))
include hl hy

set_option maxHeartbeats 1600000 in
theorem lower_got : Calls Tryz.prog 23 #[v] w (GotF w) := by
  have HW := Lib.hid (St.start w)
  go_enter Tryz.func23, Tryz.ntmps23
  go_wp2_with fail
  refine (new_st (HW.out.alloc [.int .i64 0, .slice none 0 0] 26) hy.out hl).mono ?_
  rintro e w1 ⟨rfl, hd⟩
  have HD := Lib.hid hd
  simp only [World.size_alloc] at HD
  clear hd
  go_wp2_with fail
  refine (any_dr HD).mono ?_
  rintro e w2 ⟨n, A, c, xs, rfl, hx, hd⟩
  have HX := Lib.hid hx
  obtain ⟨r1, rf⟩ := hd.rest.box (i := 1) rfl
  have r10 := r1 0 _ rfl
  have r11 := r1 1 _ rfl
  have rf0 := rf 0
  have rf1 := rf 1
  have HD2 := Lib.hid hd
  clear hd hx HD r1 rf
  go_wp2
  obtain ⟨hy, ci, cx, ca, cb, hS⟩ := HD2.out
  have hZ := (hS.store (i := 2) rfl 0 (.int .i64 n)).store (i := 2) rfl 1 (.slice A xs.length c)
  exact bodyPost_ret (v := .agg #[.int .i64 n, .slice A xs.length c]) (by simp [results, Tryz.results23, go_sem, r10, r11, rf0, rf1]) rfl ⟨_, n, xs, rfl, ⟨A, c, rfl, hZ.ownI (i := 1) rfl, HX.out⟩, hZ.base⟩

set_option maxHeartbeats 1600000 in
theorem elements_got : Calls Tryz.prog 29 #[v] w (GotXY (fun x y => -1 ≤ x ∧ x ≤ 6 ∧ -1 ≤ y ∧ y ≤ 32) w) := by
  have HW := Lib.hid (St.start w)
  go_enter Tryz.func29, Tryz.ntmps29
  go_wp2_with fail
  refine (new_st HW.out hy.out hl).mono ?_
  rintro e w1 ⟨rfl, hd⟩
  have HD := Lib.hid hd
  clear hd
  go_wp2_with fail
  refine (below_dr 8 HD (by omega) (by omega)).mono ?_
  rintro e w2 ⟨x, rfl, ⟨x0, x1⟩, hd⟩
  have HD2 := Lib.hid hd
  clear hd
  go_wp2_with fail
  refine (below_dr 34 HD2 (by omega) (by omega)).mono ?_
  rintro e w3 ⟨y, rfl, ⟨y0, y1⟩, hd⟩
  have HD3 := Lib.hid hd
  clear hd
  go_wp2
  go_ret2
  exact ⟨_, _, rfl, ⟨by omega, by omega, by omega, by omega⟩, HD3.out.base⟩

set_option maxRecDepth 100000 in
set_option maxHeartbeats 4000000 in
theorem equal_got : Calls Tryz.prog 28 #[v] w (GotFF w) := by
  have HW := Lib.hid (St.start w)
  go_enter Tryz.func28, Tryz.ntmps28
  go_wp2_with fail
  refine (new_st ((HW.out.alloc [.int .i64 0, .slice none 0 0] 26).alloc [.int .i64 0, .slice none 0 0] 26) hy.out hl).mono ?_
  rintro e w1 ⟨rfl, hd⟩
  have HD := Lib.hid hd
  have hz1 : w.heap.size + 1 < w1.heap.size := by have := hd.lt_of (i := 0) rfl rfl; simpa using this
  simp only [World.size_alloc] at HD
  clear hd
  go_wp2_with fail
  refine (any_dr HD).mono ?_
  rintro e w2 ⟨n, A, c, xs, rfl, hx, hd⟩
  have HX := Lib.hid hx
  have hz2 : w.heap.size + 1 < w2.heap.size := hd.lt_of (i := 1) rfl rfl
  have HD2 := Lib.hid (hd.alloc [.int .i64 n, .slice A xs.length c] 26)
  clear hd hx HD
  go_wp2_with fail
  refine (once_dr 2 HD2 (by omega) (by omega)).mono ?_
  rintro e w3 ⟨b, rfl, hd⟩
  have HD3 := Lib.hid hd
  obtain ⟨b0, -⟩ := hd.rest.box (i := 0) rfl
  have b00 := b0 0 _ rfl
  have b01 := b0 1 _ rfl
  obtain ⟨r1, rf⟩ := hd.rest.box (i := 3) rfl
  have r10 := r1 0 _ rfl
  have r11 := r1 1 _ rfl
  have rf0 := rf 0
  have rf1 := rf 1
  obtain ⟨q1, qf⟩ := hd.rest.box (i := 2) rfl
  have q10 := q1 0 _ rfl
  have q11 := q1 1 _ rfl
  have qf0 := qf 0
  have qf1 := qf 1
  have hne1 : ¬ w.heap.size = w2.heap.size := by omega
  have hne2 : ¬ w2.heap.size = w.heap.size := by omega
  have hne3 : ¬ w.heap.size + 1 = w2.heap.size := by omega
  have hne4 : ¬ w2.heap.size = w.heap.size + 1 := by omega
  clear hd HD2 b0 r1 rf q1 qf
  cases b
  · go_wp2
    clear r10 r11 rf0 rf1 q10 q11 qf0 qf1
    go_region_held3 (fun w' => w'.cell? ⟨w2.heap.size, 0, none⟩ = some (.int .i64 n) ∧ w'.cell? ⟨w2.heap.size, 1, none⟩ = some (.slice A xs.length c)) (first | assumption | go_keep) ((go_at_call 56; refine (any_dr (Lib.hid HD3.out.drew)).mono ?_; rintro e w4 ⟨m, A2, c2, ys, rfl, hx2, hd⟩; obtain ⟨b0', -⟩ := hd.rest.box (i := 1) rfl; have b00' := b0' 0 _ rfl; have b01' := b0' 1 _ rfl; obtain ⟨r1, rf⟩ := hd.rest.box (i := 4) rfl; have r10 := r1 0 _ rfl; have r11 := r1 1 _ rfl; have rf0 := rf 0; have rf1 := rf 1; obtain ⟨q1, qf⟩ := hd.rest.box (i := 3) rfl; have q10 := q1 0 _ rfl; have q11 := q1 1 _ rfl; have qf0 := qf 0; have qf1 := qf 1; have HX2 := Lib.hid hx2; have HD4 := Lib.hid hd; clear hx2 hd b0' r1 rf q1 qf b00 b01))
    rename_i hHeld
    clear hHeld
    go_wp2
    obtain ⟨hy, ci, cx, ca, cb, hS⟩ := HD4.out
    have hZ := ((((hS.store (i := 5) rfl 0 (.int .i64 n)).store (i := 5) rfl 1 (.slice A xs.length c)).store (i := 4) rfl 0 (.int .i64 m)).store (i := 4) rfl 1 (.slice A2 ys.length c2))
    exact bodyPost_ret (v := .tuple #[.agg #[.int .i64 n, .slice A xs.length c], .agg #[.int .i64 m, .slice A2 ys.length c2]]) (by simp [results, Tryz.results28, go_sem, r10, r11, rf0, rf1, q10, q11, qf0, qf1, hne1, hne2, hne3, hne4]) rfl ⟨_, n, xs, _, m, ys, rfl, ⟨A, c, rfl, hZ.ownI (i := 3) rfl, HX.out⟩, ⟨A2, c2, rfl, hZ.ownI (i := 1) rfl, HX2.out⟩, hZ.base⟩
  · go_wp2
    go_region
    go_wp2
    obtain ⟨hy, ci, cx, ca, cb, hS⟩ := HD3.out
    have hZ := ((((hS.drew.store (i := 4) rfl 0 (.int .i64 n)).store (i := 4) rfl 1 (.slice A xs.length c)).store (i := 3) rfl 0 (.int .i64 n)).store (i := 3) rfl 1 (.slice A xs.length c))
    exact bodyPost_ret (v := .tuple #[.agg #[.int .i64 n, .slice A xs.length c], .agg #[.int .i64 n, .slice A xs.length c]]) (by simp [results, Tryz.results28, go_sem, r10, r11, rf0, rf1, q10, q11, qf0, qf1, hne1, hne2, hne3, hne4]) rfl ⟨_, n, xs, _, n, xs, rfl, ⟨A, c, rfl, hZ.ownI (i := 2) rfl, HX.out⟩, ⟨A, c, rfl, hZ.ownI (i := 2) rfl, HX.out⟩, hZ.base⟩

end


end Go.Proofs.YtielfnjkfceliaaGreatDoor.C
