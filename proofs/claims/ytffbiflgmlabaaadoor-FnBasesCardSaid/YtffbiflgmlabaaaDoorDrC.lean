/-
  The contracts of the draws of chapter 8: a function with a list, and numbers.
  The draw of a function with a vector that may be dual.
  The contract of spec.DrawCornerOf: a function, 0 of nothing or not, and an order.
-/
import Derived.Test.YtffbiflgmlabaaaDoorDrB
import Derived.Test.YtffbiflgmlabaaaDoorDuB
namespace Go.Proofs.YtffbiflgmlabaaaDoor.C
open Go.RowKit K M
set_option linter.unusedVariables false
set_option linter.unusedSimpArgs false


section

variable (v : Value) (len : Nat) (w : World) (hl : len ≤ 1048576) (hy : Hid (Bytes w.heap.size w v len))
include hl hy
set_option maxRecDepth 100000 in
set_option maxHeartbeats 4000000 in
theorem both8_got : Calls Tryd.prog 52 #[v] w (GotTL w) := by
  have HW := Lib.hid (St.start w)
  go_enter Tryd.func52, Tryd.ntmps52
  go_wp2_with fail
  refine (new_st (HW.out.alloc [.int .i64 0, .slice none 0 0] 26) hy.out hl).mono ?_
  rintro e w1 ⟨rfl, hd⟩
  have HD := Lib.hid hd
  have hz0' : w.heap.size < w1.heap.size := hd.lt_of (i := 0) rfl rfl
  simp only [World.size_alloc] at HD
  clear hd
  go_wp2_with fail
  refine (base_dr HD).mono ?_
  rintro e w2 ⟨nn, V, d, xs, U, ud, us, rfl, hx, hd⟩
  have HX := Lib.hid hx
  have hz2' : w.heap.size < w2.heap.size := hd.lt_of (i := 2) rfl rfl
  obtain ⟨s1, sf⟩ := hd.rest.box (i := 2) (g := w.heap.size) rfl
  have s10 := s1 0 _ rfl
  have s11 := s1 1 _ rfl
  have sf0 := sf 0
  have sf1 := sf 1
  obtain ⟨-, ci, cx, ca, cb, hS⟩ := hd
  obtain ⟨p, hp⟩ : ∃ p, xs.length = p := ⟨_, rfl⟩
  have HP := Lib.hid hp
  rw [hp] at hS ⊢
  obtain ⟨q, hq⟩ : ∃ q, us.length = q := ⟨_, rfl⟩
  have HQ := Lib.hid hq
  rw [hq] at hS ⊢
  have HS := Lib.hid hS
  clear hS hx HD hp hq s1 sf
  have hne : ¬ w.heap.size = w2.heap.size := by omega
  have hne2 : ¬ w2.heap.size = w.heap.size := by omega
  go_wp2
  have hZ := (((HS.out.store (i := 3) rfl 0 (.int .i64 nn)).store (i := 3) rfl 1 (.slice V p d)).alloc [.int .i64 nn, .slice V p d] 26)
  obtain ⟨z1, zf⟩ := hZ.box (i := 4) (g := w.heap.size) rfl
  have z10 := z1 0 _ rfl
  have z11 := z1 1 _ rfl
  exact bodyPost_ret (v := .tuple #[.agg #[.int .i64 nn, .slice V p d], .slice U q ud]) (by simp [results, Tryd.results52, go_sem, z10, z11]) rfl ⟨_, nn, xs, U, ud, us, by rw [HQ.out], by rw [HQ.out]; have := HX.out.2.2.2; rw [HQ.out] at this; exact this, HX.out.2.2.1, ⟨V, d, by rw [HP.out], by rw [HP.out]; exact hZ.ownI (i := 3) rfl, HX.out.1, HX.out.2.1⟩, by rw [HQ.out]; exact hZ.ownI (i := 2) rfl, hZ.base⟩

set_option maxHeartbeats 1600000 in
theorem tsd_got : Calls Tryd.prog 9 #[v] w (GotTL w) := by
  have HW := Lib.hid (St.start w)
  go_enter Tryd.func9, Tryd.ntmps9
  go_wp2_with fail
  refine St.use (w0 := w) (by exact HW.out.alloc _ _) ?_
  intro hS
  refine (both8_got v len _ hl (Lib.hid (hy.out.later hS.base))).mono ?_
  rintro e w1 ⟨u, n, xs, D, d, ys, rfl, h5, ht, ⟨A, c, rfl, ho, hlx⟩, ho2, hb⟩
  have hS1 := (hS.newI hb ho).alloc [.int .i64 n, .slice A xs.length c] 26
  have hS2 := (hS.newI hb ho2).alloc [.int .i64 n, .slice A xs.length c] 26
  obtain ⟨r1, rf⟩ := hS1.box (i := 2) rfl
  have r10 := r1 0 _ rfl
  have r11 := r1 1 _ rfl
  have rf0 := rf 0
  have rf1 := rf 1
  have hz0 := (hS.lt (i := 0) rfl).2
  have hz1 := hb.size
  have hne : ¬ w.heap.size = w1.heap.size := by omega
  have hne2 : ¬ w1.heap.size = w.heap.size := by omega
  have HS1 := Lib.hid hS1
  have HS2 := Lib.hid hS2
  have HX := Lib.hid (show ys.length ≤ 5 ∧ Tm xs from ⟨h5, ht⟩)
  clear hS hS1 hS2 hb ho ho2 r1 rf h5 ht
  go_wp2
  have hZ := (HS1.out.store (i := 2) rfl 0 (.int .i64 n)).store (i := 2) rfl 1 (.slice A xs.length c)
  have hZ2 := (HS2.out.store (i := 2) rfl 0 (.int .i64 n)).store (i := 2) rfl 1 (.slice A xs.length c)
  exact bodyPost_ret (v := .tuple #[.agg #[.int .i64 n, .slice A xs.length c], .slice D ys.length d]) (by simp [results, Tryd.results9, go_sem, r10, r11, rf0, rf1, hne, hne2]) rfl ⟨_, n, xs, D, d, ys, rfl, HX.out.1, HX.out.2, ⟨A, c, rfl, hZ.ownI (i := 1) rfl, hlx⟩, hZ2.ownI (i := 1) rfl, hZ.base⟩
set_option maxHeartbeats 1600000 in
theorem rankd_got : Calls Tryd.prog 32 #[v] w (GotTL w) := by
  have HW := Lib.hid (St.start w)
  go_enter Tryd.func32, Tryd.ntmps32
  go_wp2_with fail
  refine St.use (w0 := w) (by exact HW.out.alloc _ _) ?_
  intro hS
  refine (l9_got v len _ hl (Lib.hid (hy.out.later hS.base))).mono ?_
  rintro e w1 ⟨u, n, xs, D, d, ys, rfl, h5, ht, ⟨A, c, rfl, ho, hlx⟩, ho2, hb⟩
  have hS1 := (hS.newI hb ho).alloc [.int .i64 n, .slice A xs.length c] 26
  have hS2 := (hS.newI hb ho2).alloc [.int .i64 n, .slice A xs.length c] 26
  obtain ⟨r1, rf⟩ := hS1.box (i := 2) rfl
  have r10 := r1 0 _ rfl
  have r11 := r1 1 _ rfl
  have rf0 := rf 0
  have rf1 := rf 1
  have hz0 := (hS.lt (i := 0) rfl).2
  have hz1 := hb.size
  have hne : ¬ w.heap.size = w1.heap.size := by omega
  have hne2 : ¬ w1.heap.size = w.heap.size := by omega
  have HS1 := Lib.hid hS1
  have HS2 := Lib.hid hS2
  have HX := Lib.hid (show ys.length ≤ 5 ∧ Tm xs from ⟨h5, ht⟩)
  clear hS hS1 hS2 hb ho ho2 r1 rf h5 ht
  go_wp2
  have hZ := (HS1.out.store (i := 2) rfl 0 (.int .i64 n)).store (i := 2) rfl 1 (.slice A xs.length c)
  have hZ2 := (HS2.out.store (i := 2) rfl 0 (.int .i64 n)).store (i := 2) rfl 1 (.slice A xs.length c)
  exact bodyPost_ret (v := .tuple #[.agg #[.int .i64 n, .slice A xs.length c], .slice D ys.length d]) (by simp [results, Tryd.results32, go_sem, r10, r11, rf0, rf1, hne, hne2]) rfl ⟨_, n, xs, D, d, ys, rfl, HX.out.1, HX.out.2, ⟨A, c, rfl, hZ.ownI (i := 1) rfl, hlx⟩, hZ2.ownI (i := 1) rfl, hZ.base⟩
/-- A function, a list, numbers. -/
def GotTLI (P : Int → Prop) (w : World) (e : Ending) (w' : World) : Prop := ∃ v n xs A c ys x, e = .returned (.tuple #[v, .slice A (List.length ys) c, .int .i64 x]) ∧ ys.length ≤ 5 ∧ P x ∧ IsF w w' v n xs ∧ Own w' w.heap.size (.slice A (List.length ys) c) ys ∧ Below w.heap.size w w'
def GotTLII (P : Int → Int → Prop) (w : World) (e : Ending) (w' : World) : Prop := ∃ v n xs A c ys x y, e = .returned (.tuple #[v, .slice A (List.length ys) c, .int .i64 x, .int .i64 y]) ∧ ys.length ≤ 5 ∧ P x y ∧ IsF w w' v n xs ∧ Own w' w.heap.size (.slice A (List.length ys) c) ys ∧ Below w.heap.size w w'


end


set_option maxRecDepth 100000 in
set_option maxHeartbeats 4000000 in
theorem capd_got (a : Option Addr) (len cap : Nat) (w : World) (hl : len ≤ 1048576) (hy : Hid (Bytes w.heap.size w (.slice a len cap) len)) : Calls Tryd.prog 19 #[.slice a len cap] w (GotTLI (fun x => -1 ≤ x ∧ x ≤ 4) w) := by
  have HW := Lib.hid (St.start w)
  obtain ⟨q, hq, hq6⟩ : ∃ q : Nat, (len : Int) % 6 = (q : Int) ∧ q < 6 := ⟨len % 6, by omega, by omega⟩
  have htm : (len : Int).tmod 6 = (q : Int) := by rw [Int.tmod_eq_emod_of_nonneg (by omega)]; exact hq
  have hwq : IntKind.i64.wrap ((q : Int) - 1) = (q : Int) - 1 := IntWalk.i64_in _ (by omega)
  have hwq0 : IntKind.i64.wrap (q : Int) = (q : Int) := IntWalk.i64_in _ (by omega)
  clear hq
  go_enter Tryd.func19, Tryd.ntmps19
  go_wp2_with fail
  refine St.use (w0 := w) (by exact HW.out.alloc _ _) ?_
  intro hS
  refine (both8_got _ len _ hl (Lib.hid (hy.out.later hS.base))).mono ?_
  rintro e w1 ⟨u, n, xs, D, d, ys, rfl, h5, ht, ⟨A, c, rfl, ho, hlx⟩, ho2, hb⟩
  have hS1 := (hS.newI hb ho).alloc [.int .i64 n, .slice A xs.length c] 26
  have hS2 := (hS.newI hb ho2).alloc [.int .i64 n, .slice A xs.length c] 26
  obtain ⟨r1, rf⟩ := hS1.box (i := 2) rfl
  have r10 := r1 0 _ rfl
  have r11 := r1 1 _ rfl
  have rf0 := rf 0
  have rf1 := rf 1
  have hz0 := (hS.lt (i := 0) rfl).2
  have hz1 := hb.size
  have hne : ¬ w.heap.size = w1.heap.size := by omega
  have hne2 : ¬ w1.heap.size = w.heap.size := by omega
  have HS1 := Lib.hid hS1
  have HS2 := Lib.hid hS2
  have HX := Lib.hid (show ys.length ≤ 5 from h5)
  clear hS hS1 hS2 hb ho ho2 r1 rf h5 ht
  go_wp2
  have hZ := (HS1.out.store (i := 2) rfl 0 (.int .i64 n)).store (i := 2) rfl 1 (.slice A xs.length c)
  have hZ2 := (HS2.out.store (i := 2) rfl 0 (.int .i64 n)).store (i := 2) rfl 1 (.slice A xs.length c)
  exact bodyPost_ret (v := .tuple #[.agg #[.int .i64 n, .slice A xs.length c], .slice D ys.length d, .int .i64 ((q : Int) - 1)]) (by simp [results, Tryd.results19, go_sem, r10, r11, rf0, rf1, hne, hne2]) rfl ⟨_, n, xs, D, d, ys, _, rfl, HX.out, by omega, ⟨A, c, rfl, hZ.ownI (i := 1) rfl, hlx⟩, hZ2.ownI (i := 1) rfl, hZ.base⟩

set_option maxRecDepth 100000 in
set_option maxHeartbeats 4000000 in
theorem excd_got (a : Option Addr) (len cap : Nat) (w : World) (hl : len ≤ 1048576) (hy : Hid (Bytes w.heap.size w (.slice a len cap) len)) : Calls Tryd.prog 22 #[.slice a len cap] w (GotTLII (fun x y => 0 ≤ x ∧ x ≤ 4 ∧ 0 ≤ y ∧ y ≤ 3) w) := by
  have HW := Lib.hid (St.start w)
  obtain ⟨q, hq, hq6⟩ : ∃ q : Nat, (len : Int) % 5 = (q : Int) ∧ q < 5 := ⟨len % 5, by omega, by omega⟩
  obtain ⟨r, hr, hr6⟩ : ∃ r : Nat, (len : Int) % 3 = (r : Int) ∧ r < 3 := ⟨len % 3, by omega, by omega⟩
  obtain ⟨t, ht', ht6⟩ : ∃ t : Nat, (len : Int) % 2 = (t : Int) ∧ t < 2 := ⟨len % 2, by omega, by omega⟩
  have htm : (len : Int).tmod 5 = (q : Int) := by rw [Int.tmod_eq_emod_of_nonneg (by omega)]; exact hq
  have htm2 : (len : Int).tmod 3 = (r : Int) := by rw [Int.tmod_eq_emod_of_nonneg (by omega)]; exact hr
  have htm3 : (len : Int).tmod 2 = (t : Int) := by rw [Int.tmod_eq_emod_of_nonneg (by omega)]; exact ht'
  have hwq : IntKind.i64.wrap ((r : Int) + (t : Int)) = (r : Int) + (t : Int) := IntWalk.i64_in _ (by omega)
  have hwq0 : IntKind.i64.wrap (q : Int) = (q : Int) := IntWalk.i64_in _ (by omega)
  have hwq1 : IntKind.i64.wrap (r : Int) = (r : Int) := IntWalk.i64_in _ (by omega)
  have hwq2 : IntKind.i64.wrap (t : Int) = (t : Int) := IntWalk.i64_in _ (by omega)
  clear hq hr ht'
  go_enter Tryd.func22, Tryd.ntmps22
  go_wp2_with fail
  refine St.use (w0 := w) (by exact HW.out.alloc _ _) ?_
  intro hS
  refine (both8_got _ len _ hl (Lib.hid (hy.out.later hS.base))).mono ?_
  rintro e w1 ⟨u, n, xs, D, d, ys, rfl, h5, ht, ⟨A, c, rfl, ho, hlx⟩, ho2, hb⟩
  have hS1 := (hS.newI hb ho).alloc [.int .i64 n, .slice A xs.length c] 26
  have hS2 := (hS.newI hb ho2).alloc [.int .i64 n, .slice A xs.length c] 26
  obtain ⟨r1, rf⟩ := hS1.box (i := 2) rfl
  have r10 := r1 0 _ rfl
  have r11 := r1 1 _ rfl
  have rf0 := rf 0
  have rf1 := rf 1
  have hz0 := (hS.lt (i := 0) rfl).2
  have hz1 := hb.size
  have hne : ¬ w.heap.size = w1.heap.size := by omega
  have hne2 : ¬ w1.heap.size = w.heap.size := by omega
  have HS1 := Lib.hid hS1
  have HS2 := Lib.hid hS2
  have HX := Lib.hid (show ys.length ≤ 5 from h5)
  clear hS hS1 hS2 hb ho ho2 r1 rf h5 ht
  go_wp2
  have hZ := (HS1.out.store (i := 2) rfl 0 (.int .i64 n)).store (i := 2) rfl 1 (.slice A xs.length c)
  have hZ2 := (HS2.out.store (i := 2) rfl 0 (.int .i64 n)).store (i := 2) rfl 1 (.slice A xs.length c)
  exact bodyPost_ret (v := .tuple #[.agg #[.int .i64 n, .slice A xs.length c], .slice D ys.length d, .int .i64 (q : Int), .int .i64 ((r : Int) + (t : Int))]) (by simp [results, Tryd.results22, go_sem, r10, r11, rf0, rf1, hne, hne2]) rfl ⟨_, n, xs, D, d, ys, _, _, rfl, HX.out, by omega, ⟨A, c, rfl, hZ.ownI (i := 1) rfl, hlx⟩, hZ2.ownI (i := 1) rfl, hZ.base⟩

set_option maxHeartbeats 1600000 in
theorem negd_got (v : Value) (len : Nat) (w : World) (hl : len ≤ 1048576) (hy : Hid (Bytes w.heap.size w v len)) : Calls Tryd.prog 35 #[v] w (GotL6 w) := by
  have HW := Lib.hid (St.start w)
  go_enter Tryd.func35, Tryd.ntmps35
  go_wp2_with fail
  refine (both7_got v len _ hl hy).mono ?_
  rintro e w1 ⟨A, c, us, D, d, ws, rfl, h6, h6', ho, ho2, hb⟩
  have HO := Lib.hid ho
  have HB := Lib.hid hb
  clear ho ho2 hb
  go_wp2
  go_ret
  exact ⟨A, c, us, rfl, h6, HO.out, HB.out⟩

set_option maxRecDepth 100000 in
set_option maxHeartbeats 8000000 in
theorem raised_got (v : Value) (len : Nat) (w : World) (hl : len ≤ 1048576) (hy : Hid (Bytes w.heap.size w v len)) : Calls Tryd.prog 28 #[v] w (GotFLL w) := by
  have HW := Lib.hid (St.start w)
  go_enter Tryd.func28, Tryd.ntmps28
  go_wp2_with fail
  refine (new_st (HW.out.alloc [.int .i64 0, .slice none 0 0] 26) hy.out hl).mono ?_
  rintro e w1 ⟨rfl, hd⟩
  have HD := Lib.hid hd
  have hz0' : w.heap.size < w1.heap.size := hd.lt_of (i := 0) rfl rfl
  simp only [World.size_alloc] at HD
  clear hd
  go_wp2_with fail
  refine (base_dr HD).mono ?_
  rintro e w2 ⟨nn, V, d, xs, U, ud, us, rfl, hx, hd⟩
  have HX := Lib.hid hx
  have hz2' : w.heap.size < w2.heap.size := hd.lt_of (i := 2) rfl rfl
  have HD2 := Lib.hid (hd.alloc [.int .i64 nn, .slice V xs.length d] 26)
  obtain ⟨p, hp⟩ : ∃ p, xs.length = p := ⟨_, rfl⟩
  have HP := Lib.hid hp
  rw [hp] at HD2 ⊢
  obtain ⟨q, hq⟩ : ∃ q, us.length = q := ⟨_, rfl⟩
  have HQ := Lib.hid hq
  rw [hq] at HD2 ⊢
  have hq5 : q ≤ 5 := by have := hx.2.2.2; omega
  clear hd hx HD hp hq
  have hne : ¬ w.heap.size = w2.heap.size := by omega
  have hne2 : ¬ w2.heap.size = w.heap.size := by omega
  go_wp2
  generalize World.alloc _ _ = w5 at HD2 ⊢
  obtain ⟨q0, qf⟩ := HD2.out.rest.box (i := 0) rfl
  have B0 := q0 0 _ rfl
  have B1 := q0 1 _ rfl
  clear q0 qf
  go_region_held3 (fun w' => w'.cell? ⟨w2.heap.size, 0, none⟩ = some (.int .i64 nn) ∧ w'.cell? ⟨w2.heap.size, 1, none⟩ = some (.slice V p d)) (first | (refine ⟨?_, ?_⟩ <;> assumption) | assumption | go_keep) ((go_at_call 79; refine (vec_dr q (by first | exact Lib.hid HD2.out.drew | exact HD2 | exact Lib.hid (HD2.out.drewN _)) (by omega)).mono ?_; rintro e w8 ⟨U2, d2, us2, rfl, hlu2, hd⟩; obtain ⟨q0, qf⟩ := hd.rest.box (i := 1) rfl; have B0' := q0 0 _ rfl; have B1' := q0 1 _ rfl; clear q0 qf; obtain ⟨q0, qf⟩ := hd.rest.box (i := 4) (g := w.heap.size) rfl; have R0 := q0 0 _ rfl; have R1 := q0 1 _ rfl; have Rf0 := qf 0; have Rf1 := qf 1; clear q0 qf; have HD8 := Lib.hid hd; have HU2 := Lib.hid hlu2; clear hd hlu2 B0 B1; rw [HU2.out]))
  all_goals
    go_wp2
    obtain ⟨hy, ci, cx, ca, cb, hS⟩ := HD8.out
    have hZ := (hS.store (i := 5) rfl 0 (.int .i64 nn)).store (i := 5) rfl 1 (.slice V p d)
    exact bodyPost_ret (v := .tuple #[.agg #[.int .i64 nn, .slice V p d], .slice U q ud, .slice U2 q d2]) (by simp [results, Tryd.results28, go_sem, R0, R1, Rf0, Rf1]) rfl ⟨_, nn, xs, U, ud, us, U2, d2, us2, by rw [HQ.out, HU2.out], by rw [HQ.out]; exact hq5, by rw [HQ.out, HU2.out], ⟨V, d, by rw [HP.out], by rw [HP.out]; exact hZ.ownI (i := 4) rfl, HX.out.1, HX.out.2.1⟩, by rw [HQ.out]; exact hZ.ownI (i := 3) rfl, hZ.ownI (i := 1) rfl, hZ.base⟩

end Go.Proofs.YtffbiflgmlabaaaDoor.C

namespace Go.Proofs.YtffbiflgmlabaaaDoor.C
open Go.RowKit K M
set_option linter.unusedVariables false
set_option linter.unusedSimpArgs false

theorem dual_le5 (n : Int) (xs : List Int) : (dualVec n xs).1.length ≤ 5 := by
  unfold dualVec
  split
  · rename_i h
    obtain ⟨h0, h5, -, -⟩ := isFn_yes (ground_fn h.1)
    rw [raise_len, List.length_replicate]
    omega
  · decide

set_option maxRecDepth 100000 in
set_option maxHeartbeats 4000000 in
theorem isdd_got (a : Option Addr) (len cap : Nat) (w : World) (hl : len ≤ 1048576) (hy : Hid (Bytes w.heap.size w (.slice a len cap) len)) : Calls Tryd.prog 31 #[.slice a len cap] w (GotTL w) := by
  have HW := Lib.hid (St.start w)
  obtain ⟨q, hq, hq3⟩ : ∃ q : Nat, (len : Int) % 3 = (q : Int) ∧ q < 3 := ⟨len % 3, by omega, by omega⟩
  have htm : (len : Int).tmod 3 = (q : Int) := by rw [Int.tmod_eq_emod_of_nonneg (by omega)]; exact hq
  have hwq0 : IntKind.i64.wrap (q : Int) = (q : Int) := IntWalk.i64_in _ (by omega)
  clear hq
  go_enter Tryd.func31, Tryd.ntmps31
  go_wp2_with fail
  refine St.use (w0 := w) (by exact HW.out.alloc _ _) ?_
  intro hS
  refine (both8_got _ len _ hl (Lib.hid (hy.out.later hS.base))).mono ?_
  rintro e w1 ⟨u, n, xs, D, d, ys, rfl, h5, ht, ⟨A, c, rfl, ho, hlx⟩, ho2, hb⟩
  have hS1 := (hS.newI hb ho).alloc [.int .i64 n, .slice A xs.length c] 26
  have hS2 := (hS.newI hb ho2).alloc [.int .i64 n, .slice A xs.length c] 26
  have HDU := Lib.hid (fun W h1 => dualS_any5 n A xs c W (Lib.hid h1))
  have HX := Lib.hid (show ys.length ≤ 5 ∧ Tm xs ∧ (dualVec n xs).1.length ≤ 5 from ⟨h5, ht, dual_le5 n xs⟩)
  generalize dualVec n xs = dv at HDU HX
  obtain ⟨du, is⟩ := dv
  dsimp only at HDU HX
  have hz0 := (hS.lt (i := 0) rfl).2
  have hz1 := hb.size
  have hne : ¬ w.heap.size = w1.heap.size := by omega
  have hne2 : ¬ w1.heap.size = w.heap.size := by omega
  obtain ⟨p1, -⟩ := hS1.box (i := 0) rfl
  have p10 := p1 0 _ rfl
  have p11 := p1 1 _ rfl
  have HS1 := Lib.hid hS1
  have HS2 := Lib.hid hS2
  clear hS hS1 hS2 hb ho ho2 h5 ht p1
  go_wp2_with fail
  refine (HDU.out _ (HS1.out.ints (i := 1) rfl)).mono ?_
  rintro e w2 ⟨V, vc, rfl, ho3, hb3⟩
  have hz2 := hb3.size
  rw [World.size_alloc] at hz2
  have hT1 := HS1.out.newI hb3 ho3
  have hT2 := HS2.out.below hb3
  obtain ⟨r1, rf⟩ := hT1.box (i := 3) (g := w.heap.size) rfl
  have r10 := r1 0 _ rfl
  have r11 := r1 1 _ rfl
  have rf0 := rf 0
  have rf1 := rf 1
  obtain ⟨p1, -⟩ := hT1.box (i := 1) (g := w1.heap.size) rfl
  have s10 := p1 0 _ rfl
  have s11 := p1 1 _ rfl
  have HT1 := Lib.hid hT1
  have HT2 := Lib.hid hT2
  clear hT1 hT2 ho3 hb3 r1 rf p1 p10 p11 HS1 HS2
  cases is
  · go_wp2
    have hZ := (HT1.out.store (i := 3) rfl 0 (.int .i64 n)).store (i := 3) rfl 1 (.slice A xs.length c)
    have hZ2 := (HT2.out.store (i := 2) rfl 0 (.int .i64 n)).store (i := 2) rfl 1 (.slice A xs.length c)
    exact bodyPost_ret (v := .tuple #[.agg #[.int .i64 n, .slice A xs.length c], .slice D ys.length d]) (by simp [results, Tryd.results31, go_sem, r10, r11, rf0, rf1, hne, hne2]) rfl ⟨_, n, xs, D, d, ys, rfl, HX.out.1, HX.out.2.1, ⟨A, c, rfl, hZ.ownI (i := 2) rfl, hlx⟩, hZ2.ownI (i := 1) rfl, hZ.base⟩
  · by_cases hq0 : q = 0
    · have hgt : ¬ (0 : Int) < (q : Int) := by omega
      go_wp2
      have hZ := (HT1.out.store (i := 3) rfl 0 (.int .i64 n)).store (i := 3) rfl 1 (.slice A xs.length c)
      have hZ2 := (HT2.out.store (i := 2) rfl 0 (.int .i64 n)).store (i := 2) rfl 1 (.slice A xs.length c)
      exact bodyPost_ret (v := .tuple #[.agg #[.int .i64 n, .slice A xs.length c], .slice D ys.length d]) (by simp [results, Tryd.results31, go_sem, r10, r11, rf0, rf1, hne, hne2]) rfl ⟨_, n, xs, D, d, ys, rfl, HX.out.1, HX.out.2.1, ⟨A, c, rfl, hZ.ownI (i := 2) rfl, hlx⟩, hZ2.ownI (i := 1) rfl, hZ.base⟩
    · have hgt : (0 : Int) < (q : Int) := by omega
      go_wp2
      have hZ := (HT1.out.store (i := 3) rfl 0 (.int .i64 n)).store (i := 3) rfl 1 (.slice A xs.length c)
      exact bodyPost_ret (v := .tuple #[.agg #[.int .i64 n, .slice A xs.length c], .slice V du.length vc]) (by simp [results, Tryd.results31, go_sem, r10, r11, rf0, rf1, hne, hne2]) rfl ⟨_, n, xs, V, vc, du, rfl, HX.out.2.2, HX.out.2.1, ⟨A, c, rfl, hZ.ownI (i := 2) rfl, hlx⟩, hZ.ownI (i := 0) rfl, hZ.base⟩

end Go.Proofs.YtffbiflgmlabaaaDoor.C

namespace Go.Proofs.YtffbiflgmlabaaaDoor.C
open Go.RowKit K M
set_option linter.unusedVariables false
set_option linter.unusedSimpArgs false

set_option maxRecDepth 100000 in
set_option maxHeartbeats 40000000 in
theorem cornd_got (v : Value) (len : Nat) (w : World) (hl : len ≤ 1048576) (hy : Hid (Bytes w.heap.size w v len)) : Calls Tryd.prog 25 #[v] w (GotTL w) := by
  have HW := Lib.hid (St.start w)
  go_enter Tryd.func25, Tryd.ntmps25
  go_wp2_with fail
  refine (new_st (HW.out.alloc [.int .i64 0, .slice none 0 0] 26) hy.out hl).mono ?_
  rintro e w1 ⟨rfl, hd⟩
  have HD := Lib.hid hd
  have hz0' : w.heap.size < w1.heap.size := hd.lt_of (i := 0) rfl rfl
  simp only [World.size_alloc] at HD
  clear hd
  go_wp2_with fail
  refine (any_tm HD).mono ?_
  rintro e w2 ⟨n, A, c, xs, rfl, ⟨x1, x2, x3⟩, hd⟩
  have htm := base_tm (n := n) (tm_near x3)
  unfold baseF at htm
  have hf := Lib.hid (fun W h1 => lowerS_any n A xs c W h1)
  have HX := Lib.hid (show 1 ≤ xs.length ∧ xs.length ≤ 32 ∧ Tm xs from ⟨x1, x2, tm_near x3⟩)
  have hz0 : w.heap.size < w2.heap.size := hd.lt_of (i := 1) rfl rfl
  have HD2 := Lib.hid (hd.alloc [.int .i64 n, .slice A xs.length c] 26)
  clear hd x1 x2 x3 HD
  have hn1 : ¬ w.heap.size = w2.heap.size := by omega
  have hn2 : ¬ w2.heap.size = w.heap.size := by omega
  cases hb : (lowerFn n xs).2.2
  · clear htm
    have HF := hf
    clear hf
    rw [hb] at HF
    clear hb
    go_wp2_with fail
    refine (HF.out _ (Lib.hid (HD2.out.rest.ints (i := 1) rfl))).mono ?_
    rintro e w3 ⟨A2, c2, rfl, ho, hb⟩
    have HD3 := Lib.hid ((HD2.out.newI hb ho).alloc [.int .i64 (lowerFn n xs).1, .slice A2 (lowerFn n xs).2.1.length c2] 26)
    obtain ⟨p, hp⟩ : ∃ p, xs.length = p := ⟨_, rfl⟩
    have HP := Lib.hid hp
    rw [hp] at HD3 ⊢
    have HD5 := Lib.hid (show Dr w v len _ _ [bx w2.heap.size 26 [.int .i64 n, .slice A p c], il (.slice A p c) p xs, bx w.heap.size 26 [.int .i64 0, .slice none 0 0]] from HD3.out.map fun c hS => (hS.drop 2).drop 1)
    clear HD3 ho hb HD2 hp HF
    go_wp2
    generalize World.alloc _ _ = w5 at HD5 ⊢
    have HT := HX
    obtain ⟨q, hq5, hm⟩ : ∃ q : Nat, q ≤ 5 ∧ (if (0 : Int) < if n < 5 then n else 5 then if n < 5 then n else 5 else 0) = (q : Int) := by
      by_cases c1 : n < 5
      · by_cases c2 : 0 < n
        · exact ⟨n.toNat, by omega, by rw [if_pos c1, if_pos c2]; omega⟩
        · exact ⟨0, by omega, by rw [if_pos c1, if_neg c2]; rfl⟩
      · exact ⟨5, by omega, by rw [if_neg c1]; rfl⟩
    have HM := Lib.hid hm
    clear hm
    obtain ⟨r, hr⟩ : ∃ r, (if n < 5 then n else 5) = r := ⟨_, rfl⟩
    have HN := Lib.hid hr
    clear hr
    obtain ⟨q0, qf⟩ := HD5.out.rest.box (i := 0) rfl
    have B0 := q0 0 _ rfl
    have B1 := q0 1 _ rfl
    clear q0 qf
    go_region_held3 (fun w' => w'.cell? ⟨w2.heap.size, 0, none⟩ = some (.int .i64 n) ∧ w'.cell? ⟨w2.heap.size, 1, none⟩ = some (.slice A p c)) (first | (refine ⟨?_, ?_⟩ <;> assumption) | assumption | go_keep) ((go_at_call 72; rw [HM.out]; (try rw [HN.out]); refine (order_dr q (by first | exact Lib.hid HD5.out.drew | exact HD5 | exact Lib.hid (HD5.out.drewN _)) (by omega)).mono ?_; rintro e w8 ⟨U2, d2, us2, rfl, hlu2, hd⟩; obtain ⟨q0, qf⟩ := hd.rest.box (i := 1) rfl; have B0' := q0 0 _ rfl; have B1' := q0 1 _ rfl; clear q0 qf; obtain ⟨q0, qf⟩ := hd.rest.box (i := 3) (g := w.heap.size) rfl; have R0 := q0 0 _ rfl; have R1 := q0 1 _ rfl; have Rf0 := qf 0; have Rf1 := qf 1; clear q0 qf; have HD8 := Lib.hid hd; have HU2 := Lib.hid hlu2; clear hd hlu2 B0 B1; rw [HU2.out]))
    all_goals
      go_wp2
      obtain ⟨hy, ci, cx, ca, cb, hS⟩ := HD8.out
      have hZ := (hS.store (i := 4) rfl 0 (.int .i64 n)).store (i := 4) rfl 1 (.slice A p c)
      exact bodyPost_ret (v := .tuple #[.agg #[.int .i64 n, .slice A p c], .slice U2 q d2]) (by simp [results, Tryd.results25, go_sem, R0, R1, Rf0, Rf1]) rfl ⟨_, n, xs, U2, d2, us2, by rw [HU2.out], by rw [HU2.out]; omega, HT.out.2.2, ⟨A, c, by rw [HP.out], by rw [HP.out]; exact hZ.ownI (i := 3) rfl, HT.out.1, HT.out.2.1⟩, hZ.ownI (i := 1) rfl, hZ.base⟩
  · have HF := hf
    clear hf
    rw [if_pos hb] at htm
    obtain ⟨hl1, hl2⟩ := lower_yes hb
    rw [hb, hl1] at HF
    rw [hl1] at htm
    clear hl1 hl2 hb
    generalize (lowerFn n xs).2.1 = gs at *
    have HTG := Lib.hid (show 1 ≤ gs.length ∧ gs.length ≤ 32 ∧ Tm gs from ⟨by rw [htm.2]; exact HX.out.1, by rw [htm.2]; exact HX.out.2.1, htm.1⟩)
    clear htm
    go_wp2_with fail
    refine (HF.out _ (Lib.hid (HD2.out.rest.ints (i := 1) rfl))).mono ?_
    rintro e w3 ⟨A2, c2, rfl, ho, hb⟩
    have hz1 : w2.heap.size < w3.heap.size := by have := (HD2.out.newI hb ho).lt_of (i := 1) rfl rfl; exact this
    have hne : ¬ w2.heap.size = w3.heap.size := by omega
    have hne' : ¬ w3.heap.size = w2.heap.size := by omega
    have HD3 := Lib.hid ((HD2.out.newI hb ho).alloc [.int .i64 n, .slice A2 gs.length c2] 26)
    clear ho hb HD2 HF
    go_wp2_with fail
    refine (once_dr 6 HD3 (by omega) (by omega)).mono ?_
    rintro e' w4 ⟨t, rfl, hd⟩
    have HD4 := Lib.hid hd
    clear hd HD3
    obtain ⟨q0, qf⟩ := HD4.out.rest.box (i := 0) rfl
    have G0 := q0 0 _ rfl
    have G1 := q0 1 _ rfl
    clear q0 qf
    obtain ⟨q0, qf⟩ := HD4.out.rest.box (i := 2) (g := w2.heap.size) rfl
    have B0 := q0 0 _ rfl
    have B1 := q0 1 _ rfl
    have Bf0 := qf 0
    have Bf1 := qf 1
    clear q0 qf
    cases t
    · obtain ⟨p, hp⟩ : ∃ p, gs.length = p := ⟨_, rfl⟩
      have HP := Lib.hid hp
      rw [hp] at HD4 G1 ⊢
      clear hp
      go_wp2
      have HD5 := Lib.hid (show Dr w v len _ _ [bx w2.heap.size 26 [.int .i64 n, .slice A2 p c2], il (.slice A2 p c2) p gs, bx w.heap.size 26 [.int .i64 0, .slice none 0 0]] from HD4.out.map fun c hS => (((((hS.store (i := 3) rfl 0 (.int .i64 n)).store (i := 3) rfl 1 (.slice A2 p c2)).drop 4).drop 1).sub _ [0, 2, 1, 3] rfl (by decide)))
      clear HD4 B0 B1 Bf0 Bf1 G0 G1
      generalize World.setCell _ _ _ = w5 at HD5 ⊢
      have HT := HTG
      obtain ⟨q, hq5, hm⟩ : ∃ q : Nat, q ≤ 5 ∧ (if (0 : Int) < if n < 5 then n else 5 then if n < 5 then n else 5 else 0) = (q : Int) := by
        by_cases c1 : n < 5
        · by_cases c2 : 0 < n
          · exact ⟨n.toNat, by omega, by rw [if_pos c1, if_pos c2]; omega⟩
          · exact ⟨0, by omega, by rw [if_pos c1, if_neg c2]; rfl⟩
        · exact ⟨5, by omega, by rw [if_neg c1]; rfl⟩
      have HM := Lib.hid hm
      clear hm
      obtain ⟨r, hr⟩ : ∃ r, (if n < 5 then n else 5) = r := ⟨_, rfl⟩
      have HN := Lib.hid hr
      clear hr
      obtain ⟨q0, qf⟩ := HD5.out.rest.box (i := 0) rfl
      have B0 := q0 0 _ rfl
      have B1 := q0 1 _ rfl
      clear q0 qf
      go_region_held3 (fun w' => w'.cell? ⟨w2.heap.size, 0, none⟩ = some (.int .i64 n) ∧ w'.cell? ⟨w2.heap.size, 1, none⟩ = some (.slice A2 p c2)) (first | (refine ⟨?_, ?_⟩ <;> assumption) | assumption | go_keep) ((go_at_call 72; rw [HM.out]; (try rw [HN.out]); refine (order_dr q (by first | exact Lib.hid HD5.out.drew | exact HD5 | exact Lib.hid (HD5.out.drewN _)) (by omega)).mono ?_; rintro e w8 ⟨U2, d2, us2, rfl, hlu2, hd⟩; obtain ⟨q0, qf⟩ := hd.rest.box (i := 1) rfl; have B0' := q0 0 _ rfl; have B1' := q0 1 _ rfl; clear q0 qf; obtain ⟨q0, qf⟩ := hd.rest.box (i := 3) (g := w.heap.size) rfl; have R0 := q0 0 _ rfl; have R1 := q0 1 _ rfl; have Rf0 := qf 0; have Rf1 := qf 1; clear q0 qf; have HD8 := Lib.hid hd; have HU2 := Lib.hid hlu2; clear hd hlu2 B0 B1; rw [HU2.out]))
      all_goals
        go_wp2
        obtain ⟨hy, ci, cx, ca, cb, hS⟩ := HD8.out
        have hZ := (hS.store (i := 4) rfl 0 (.int .i64 n)).store (i := 4) rfl 1 (.slice A2 p c2)
        exact bodyPost_ret (v := .tuple #[.agg #[.int .i64 n, .slice A2 p c2], .slice U2 q d2]) (by simp [results, Tryd.results25, go_sem, R0, R1, Rf0, Rf1]) rfl ⟨_, n, gs, U2, d2, us2, by rw [HU2.out], by rw [HU2.out]; omega, HT.out.2.2, ⟨A2, c2, by rw [HP.out], by rw [HP.out]; exact hZ.ownI (i := 3) rfl, HT.out.1, HT.out.2.1⟩, hZ.ownI (i := 1) rfl, hZ.base⟩
    · obtain ⟨p, hp⟩ : ∃ p, xs.length = p := ⟨_, rfl⟩
      have HP := Lib.hid hp
      rw [hp] at HD4 B1 ⊢
      clear hp
      have HD5 := Lib.hid (show Dr w v len _ _ [bx w2.heap.size 26 [.int .i64 n, .slice A p c], il (.slice A p c) p xs, bx w.heap.size 26 [.int .i64 0, .slice none 0 0]] from HD4.out.map fun c hS => (hS.drop 2).drop 1)
      clear HD4 B0 B1 Bf0 Bf1 G0 G1
      go_wp2
      have HT := HX
      obtain ⟨q, hq5, hm⟩ : ∃ q : Nat, q ≤ 5 ∧ (if (0 : Int) < if n < 5 then n else 5 then if n < 5 then n else 5 else 0) = (q : Int) := by
        by_cases c1 : n < 5
        · by_cases c2 : 0 < n
          · exact ⟨n.toNat, by omega, by rw [if_pos c1, if_pos c2]; omega⟩
          · exact ⟨0, by omega, by rw [if_pos c1, if_neg c2]; rfl⟩
        · exact ⟨5, by omega, by rw [if_neg c1]; rfl⟩
      have HM := Lib.hid hm
      clear hm
      obtain ⟨r, hr⟩ : ∃ r, (if n < 5 then n else 5) = r := ⟨_, rfl⟩
      have HN := Lib.hid hr
      clear hr
      obtain ⟨q0, qf⟩ := HD5.out.rest.box (i := 0) rfl
      have B0 := q0 0 _ rfl
      have B1 := q0 1 _ rfl
      clear q0 qf
      go_region_held3 (fun w' => w'.cell? ⟨w2.heap.size, 0, none⟩ = some (.int .i64 n) ∧ w'.cell? ⟨w2.heap.size, 1, none⟩ = some (.slice A p c)) (first | (refine ⟨?_, ?_⟩ <;> assumption) | assumption | go_keep) ((go_at_call 72; rw [HM.out]; (try rw [HN.out]); refine (order_dr q (by first | exact Lib.hid HD5.out.drew | exact HD5 | exact Lib.hid (HD5.out.drewN _)) (by omega)).mono ?_; rintro e w8 ⟨U2, d2, us2, rfl, hlu2, hd⟩; obtain ⟨q0, qf⟩ := hd.rest.box (i := 1) rfl; have B0' := q0 0 _ rfl; have B1' := q0 1 _ rfl; clear q0 qf; obtain ⟨q0, qf⟩ := hd.rest.box (i := 3) (g := w.heap.size) rfl; have R0 := q0 0 _ rfl; have R1 := q0 1 _ rfl; have Rf0 := qf 0; have Rf1 := qf 1; clear q0 qf; have HD8 := Lib.hid hd; have HU2 := Lib.hid hlu2; clear hd hlu2 B0 B1; rw [HU2.out]))
      all_goals
        go_wp2
        obtain ⟨hy, ci, cx, ca, cb, hS⟩ := HD8.out
        have hZ := (hS.store (i := 4) rfl 0 (.int .i64 n)).store (i := 4) rfl 1 (.slice A p c)
        exact bodyPost_ret (v := .tuple #[.agg #[.int .i64 n, .slice A p c], .slice U2 q d2]) (by simp [results, Tryd.results25, go_sem, R0, R1, Rf0, Rf1]) rfl ⟨_, n, xs, U2, d2, us2, by rw [HU2.out], by rw [HU2.out]; omega, HT.out.2.2, ⟨A, c, by rw [HP.out], by rw [HP.out]; exact hZ.ownI (i := 3) rfl, HT.out.1, HT.out.2.1⟩, hZ.ownI (i := 1) rfl, hZ.base⟩

end Go.Proofs.YtffbiflgmlabaaaDoor.C
