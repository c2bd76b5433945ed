/-
  The contracts of the draws of chapter 6: two functions, a set and two functions, a hull, a truncation, a reduction.
-/
import Derived.Test.YtfpoiiennlhphaaDoorDrawJ
import Derived.Test.YtfpoiiennlhphaaDoorDrawI
import Derived.Test.YtfpoiiennlhphaaDoorDrawL
namespace Go.Proofs.YtfpoiiennlhphaaDoor.C
open Go.RowKit M K
set_option linter.unusedVariables false
set_option linter.unusedSimpArgs false

def GotFFI (P : Int → Prop) (w : World) (e : Ending) (w' : World) : Prop := ∃ v n xs u m ys x, e = .returned (.tuple #[v, u, .int .i64 x]) ∧ P x ∧ IsF w w' v n xs ∧ IsF w w' u m ys ∧ Below w.heap.size w w'


section

variable (v : Value) (len : Nat) (w : World) (hl : len ≤ 1048576) (hy : Hid (Bytes w.heap.size w v len))
include hl hy

set_option maxRecDepth 100000 in
set_option maxHeartbeats 4000000 in
theorem conv_got : Calls Tryd.prog 34 #[v] w (GotFF w) := by
  have HW := Lib.hid (St.start w)
  go_enter Tryd.func34, Tryd.ntmps34
  go_wp2_with fail
  refine St.use (w0 := w) (by exact (HW.out.alloc _ _).alloc _ _) ?_
  intro hS
  refine (two_got v len _ hl (Lib.hid (hy.out.later hS.base))).mono ?_
  rintro e w1 ⟨u1, n, xs, u2, m, ys, rfl, ⟨A, c, rfl, ho, hlx⟩, ⟨A2, c2, rfl, ho2, hly⟩, hb⟩
  have hS1 := hS.below hb
  obtain ⟨o1, of⟩ := hS1.box (i := 1) rfl
  have o10 := o1 0 _ rfl
  have o11 := o1 1 _ rfl
  have of0 := of 0
  have of1 := of 1
  obtain ⟨p1, pf⟩ := hS1.box (i := 0) rfl
  have p10 := p1 0 _ rfl
  have p11 := p1 1 _ rfl
  have pf0 := pf 0
  have pf1 := pf 1
  have hz0 := (hS1.lt (i := 0) rfl).2
  have HA := Lib.hid (hS.newI hb ho)
  have HB := Lib.hid (hS.newI hb ho2)
  simp only [World.size_alloc] at p10 p11 pf0 pf1 hz0 HA HB
  have hz1 : w.heap.size < w1.heap.size := by omega
  have hne1 : ¬ w.heap.size = w1.heap.size := by omega
  have hne2 : ¬ w1.heap.size = w.heap.size := by omega
  have hne3 : ¬ w.heap.size + 1 = w1.heap.size := by omega
  have hne4 : ¬ w1.heap.size = w.heap.size + 1 := by omega
  clear hS hS1 hb ho ho2 o1 of p1 pf
  go_wp2
  go_region
  go_wp2
  have hZ := fun (r : Cel) (hS : St w w1 (r :: [bx (w.heap.size + 1) 26 [.int .i64 0, .slice none 0 0], bx w.heap.size 26 [.int .i64 0, .slice none 0 0]])) => ((((((hS.store (i := 2) rfl 0 (.int .i64 n)).store (i := 2) rfl 1 (.slice A xs.length c)).store (i := 1) rfl 0 (.int .i64 m)).store (i := 1) rfl 1 (.slice A2 ys.length c2)).alloc [.int .i64 n, .slice A xs.length c] 26).alloc [.int .i64 m, .slice A2 ys.length c2] 26).drew
  exact bodyPost_ret (v := .tuple #[.agg #[.int .i64 n, .slice A xs.length c], .agg #[.int .i64 m, .slice A2 ys.length c2]]) (by simp [results, Tryd.results34, go_sem, o10, o11, of0, of1, p10, p11, pf0, pf1, hz0, hz1, hne1, hne2, hne3, hne4]) rfl ⟨_, n, xs, _, m, ys, rfl, ⟨A, c, rfl, (hZ _ HA.out).ownI (i := 2) rfl, hlx⟩, ⟨A2, c2, rfl, (hZ _ HB.out).ownI (i := 2) rfl, hly⟩, (hZ _ HA.out).base⟩

set_option maxHeartbeats 1600000 in
theorem hull_got : Calls Tryd.prog 41 #[v] w (GotF w) := by
  have HW := Lib.hid (St.start w)
  go_enter Tryd.func41, Tryd.ntmps41
  go_wp2_with fail
  refine (new_st (HW.out.alloc [.int .i64 0, .slice none 0 0] 26) hy.out hl).mono ?_
  rintro e w1 ⟨rfl, hd⟩
  have HD := Lib.hid hd
  simp only [World.size_alloc] at HD
  clear hd
  go_wp2_with fail
  refine (any_dr HD).mono ?_
  rintro e w2 ⟨n, A, c, xs, rfl, hx, hd⟩
  have HX := Lib.hid hx
  obtain ⟨r1, rf⟩ := hd.rest.box (i := 1) rfl
  have r10 := r1 0 _ rfl
  have r11 := r1 1 _ rfl
  have rf0 := rf 0
  have rf1 := rf 1
  have HD2 := Lib.hid hd
  clear hd hx HD r1 rf
  go_wp2
  obtain ⟨hy, ci, cx, ca, cb, hS⟩ := HD2.out
  have hZ := (hS.store (i := 2) rfl 0 (.int .i64 n)).store (i := 2) rfl 1 (.slice A xs.length c)
  exact bodyPost_ret (v := .agg #[.int .i64 n, .slice A xs.length c]) (by simp [results, Tryd.results41, go_sem, r10, r11, rf0, rf1]) rfl ⟨_, n, xs, rfl, ⟨A, c, rfl, hZ.ownI (i := 1) rfl, HX.out⟩, hZ.base⟩

set_option maxHeartbeats 1600000 in
theorem reduce_got : Calls Tryd.prog 38 #[v] w (GotFL w) := by
  have HW := Lib.hid (St.start w)
  go_enter Tryd.func38, Tryd.ntmps38
  go_wp2_with fail
  refine St.use (w0 := w) (by exact HW.out.alloc _ _) ?_
  intro hS
  refine (ddraw_got v len _ hl (Lib.hid (hy.out.later hS.base))).mono ?_
  rintro e w1 ⟨u, n, xs, D, d, ws, rfl, hx, ⟨A, c, rfl, ho, hlx⟩, hod, hb⟩
  have hS1 := (hS.newI hb ho).alloc [.int .i64 n, .slice A xs.length c] 26
  obtain ⟨r1, rf⟩ := hS1.box (i := 2) rfl
  have r10 := r1 0 _ rfl
  have r11 := r1 1 _ rfl
  have rf0 := rf 0
  have rf1 := rf 1
  have hz0 := (hS.lt (i := 0) rfl).2
  have hz1 := hb.size
  have hne : ¬ w.heap.size = w1.heap.size := by omega
  have hne2 : ¬ w1.heap.size = w.heap.size := by omega
  have HS1 := Lib.hid hS1
  have HX := Lib.hid hx
  have HB1 := Lib.hid ((hS.newI hb hod).alloc [.int .i64 n, .slice A xs.length c] 26)
  clear hS hS1 hb ho hod r1 rf hx
  go_wp2
  have hZ := (HS1.out.store (i := 2) rfl 0 (.int .i64 n)).store (i := 2) rfl 1 (.slice A xs.length c)
  have hY := (HB1.out.store (i := 2) rfl 0 (.int .i64 n)).store (i := 2) rfl 1 (.slice A xs.length c)
  exact bodyPost_ret (v := .tuple #[.agg #[.int .i64 n, .slice A xs.length c], .slice D ws.length d]) (by simp [results, Tryd.results38, go_sem, r10, r11, rf0, rf1, hne, hne2]) rfl ⟨_, n, xs, D, d, ws, rfl, HX.out, ⟨A, c, rfl, hZ.ownI (i := 1) rfl, hlx⟩, hY.ownI (i := 1) rfl, hZ.base⟩

omit hl hy in
set_option maxRecDepth 100000 in
set_option maxHeartbeats 4000000 in
theorem split_got (a : Option Addr) (len cap : Nat) (w : World) (hl : len ≤ 1048576) (hy : Hid (Bytes w.heap.size w (.slice a len cap) len)) : Calls Tryd.prog 49 #[.slice a len cap] w (GotFFI (fun x => -1 ≤ x ∧ x ≤ 15) w) := by
  have HW := Lib.hid (St.start w)
  go_enter Tryd.func49, Tryd.ntmps49
  go_wp2_with fail
  refine St.use (w0 := w) (by exact (HW.out.alloc _ _).alloc _ _) ?_
  intro hS
  refine (two_got _ len _ hl (Lib.hid (hy.out.later hS.base))).mono ?_
  rintro e w1 ⟨u1, n, xs, u2, m, ys, rfl, ⟨A, c, rfl, ho, hlx⟩, ⟨A2, c2, rfl, ho2, hly⟩, hb⟩
  have hS1 := hS.below hb
  obtain ⟨o1, of⟩ := hS1.box (i := 1) rfl
  have o10 := o1 0 _ rfl
  have o11 := o1 1 _ rfl
  have of0 := of 0
  have of1 := of 1
  obtain ⟨p1, pf⟩ := hS1.box (i := 0) rfl
  have p10 := p1 0 _ rfl
  have p11 := p1 1 _ rfl
  have pf0 := pf 0
  have pf1 := pf 1
  have hz0 := (hS1.lt (i := 0) rfl).2
  have HA := Lib.hid (hS.newI hb ho)
  have HB := Lib.hid (hS.newI hb ho2)
  simp only [World.size_alloc] at p10 p11 pf0 pf1 hz0 HA HB
  have hz1 : w.heap.size < w1.heap.size := by omega
  have hne1 : ¬ w.heap.size = w1.heap.size := by omega
  have hne2 : ¬ w1.heap.size = w.heap.size := by omega
  have hne3 : ¬ w.heap.size + 1 = w1.heap.size := by omega
  have hne4 : ¬ w1.heap.size = w.heap.size + 1 := by omega
  clear hS hS1 hb ho ho2 o1 of p1 pf
  have hk : ∃ k : Nat, (len : Int).tmod 17 = (k : Int) ∧ k < 17 := ⟨len % 17, by rw [Int.tmod_eq_emod_of_nonneg (by omega)]; omega, by omega⟩
  obtain ⟨k, hk1, hk2⟩ := hk
  have hx1 : IntKind.i64.wrap ((k : Int) - 1) = (k : Int) - 1 := IntWalk.i64_in _ (by omega)
  go_wp2
  go_region
  go_wp2
  have hZ := fun (r : Cel) (hS : St w w1 (r :: [bx (w.heap.size + 1) 26 [.int .i64 0, .slice none 0 0], bx w.heap.size 26 [.int .i64 0, .slice none 0 0]])) => ((((((hS.store (i := 2) rfl 0 (.int .i64 n)).store (i := 2) rfl 1 (.slice A xs.length c)).store (i := 1) rfl 0 (.int .i64 m)).store (i := 1) rfl 1 (.slice A2 ys.length c2)).alloc [.int .i64 n, .slice A xs.length c] 26).alloc [.int .i64 m, .slice A2 ys.length c2] 26).drew
  exact bodyPost_ret (v := .tuple #[.agg #[.int .i64 n, .slice A xs.length c], .agg #[.int .i64 m, .slice A2 ys.length c2], .int .i64 ((k : Int) - 1)]) (by simp [results, Tryd.results49, go_sem, o10, o11, of0, of1, p10, p11, pf0, pf1, hz0, hz1, hne1, hne2, hne3, hne4]) rfl ⟨_, n, xs, _, m, ys, _, rfl, ⟨by omega, by omega⟩, ⟨A, c, rfl, (hZ _ HA.out).ownI (i := 2) rfl, hlx⟩, ⟨A2, c2, rfl, (hZ _ HB.out).ownI (i := 2) rfl, hly⟩, (hZ _ HA.out).base⟩

omit hl hy in
set_option maxHeartbeats 4000000 in
theorem trunc_got (a : Option Addr) (len cap : Nat) (w : World) (hl : len ≤ 1048576) (hy : Hid (Bytes w.heap.size w (.slice a len cap) len)) : Calls Tryd.prog 46 #[.slice a len cap] w (GotFI (fun x => -1 ≤ x ∧ x ≤ 1001) w) := by
  have HW := Lib.hid (St.start w)
  go_enter Tryd.func46, Tryd.ntmps46
  go_wp2_with fail
  refine St.use (w0 := w) (by exact HW.out.alloc _ _) ?_
  intro hS
  refine (set_got _ len _ hl (Lib.hid (hy.out.later hS.base))).mono ?_
  rintro e w1 ⟨u, n, xs, x, rfl, hx, ⟨A, c, rfl, ho, hlx⟩, hb⟩
  have hS0 := hS.newI hb ho
  obtain ⟨o1, of⟩ := hS0.box (i := 1) rfl
  have o10 := o1 0 _ rfl
  have o11 := o1 1 _ rfl
  have of0 := of 0
  have of1 := of 1
  have hzl : w.heap.size < w1.heap.size := (hS0.lt (i := 1) rfl).2
  have HS0 := Lib.hid hS0
  clear o1 of hS0
  have hS1 := (hS.newI hb ho).alloc [.int .i64 n, .slice A xs.length c] 26
  obtain ⟨r1, rf⟩ := hS1.box (i := 2) rfl
  have r10 := r1 0 _ rfl
  have r11 := r1 1 _ rfl
  have rf0 := rf 0
  have rf1 := rf 1
  have hz0 := (hS.lt (i := 0) rfl).2
  have hz1 := hb.size
  have hne : ¬ w.heap.size = w1.heap.size := by omega
  have hne2 : ¬ w1.heap.size = w.heap.size := by omega
  have HS1 := Lib.hid hS1
  have HX := Lib.hid hx
  clear hS hS1 hb ho r1 rf hx
  have hk : ∃ k : Nat, (len : Int).tmod 7 = (k : Int) ∧ k < 7 := ⟨len % 7, by rw [Int.tmod_eq_emod_of_nonneg (by omega)]; omega, by omega⟩
  obtain ⟨k, hk1, hk2⟩ := hk
  have key : ∀ (y : Int), -1 ≤ y ∧ y ≤ 1001 → ([0, 1, 2, 3, -1, 1000, 1001] : List Int)[k]? = some y → True := fun _ _ _ => trivial
  rcases (by omega : k = 0 ∨ k = 1 ∨ k = 2 ∨ k = 3 ∨ k = 4 ∨ k = 5 ∨ k = 6) with rfl | rfl | rfl | rfl | rfl | rfl | rfl
  · go_wp2
    go_region
    go_wp2
    have hZ := ((((HS0.out.store (i := 1) rfl 0 (.int .i64 n)).store (i := 1) rfl 1 (.slice A xs.length c)).alloc [.int .i64 n, .slice A xs.length c] 26).alloc [.int .i64 0, .int .i64 1, .int .i64 2, .int .i64 3, .int .i64 (-1), .int .i64 1000, .int .i64 1001] 3).drew
    refine bodyPost_ret (v := .tuple #[.agg #[.int .i64 n, .slice A xs.length c], .int .i64 (([0, 1, 2, 3, -1, 1000, 1001] : List Int).getD 0 0)]) (by simp [results, Tryd.results46, go_sem, o10, o11, of0, of1, hzl, hne, hne2]) rfl ⟨_, n, xs, _, rfl, by decide, ⟨A, c, rfl, hZ.ownI (i := 2) rfl, hlx⟩, hZ.base⟩
  · go_wp2
    go_region
    go_wp2
    have hZ := ((((HS0.out.store (i := 1) rfl 0 (.int .i64 n)).store (i := 1) rfl 1 (.slice A xs.length c)).alloc [.int .i64 n, .slice A xs.length c] 26).alloc [.int .i64 0, .int .i64 1, .int .i64 2, .int .i64 3, .int .i64 (-1), .int .i64 1000, .int .i64 1001] 3).drew
    refine bodyPost_ret (v := .tuple #[.agg #[.int .i64 n, .slice A xs.length c], .int .i64 (([0, 1, 2, 3, -1, 1000, 1001] : List Int).getD 1 0)]) (by simp [results, Tryd.results46, go_sem, o10, o11, of0, of1, hzl, hne, hne2]) rfl ⟨_, n, xs, _, rfl, by decide, ⟨A, c, rfl, hZ.ownI (i := 2) rfl, hlx⟩, hZ.base⟩
  · go_wp2
    go_region
    go_wp2
    have hZ := ((((HS0.out.store (i := 1) rfl 0 (.int .i64 n)).store (i := 1) rfl 1 (.slice A xs.length c)).alloc [.int .i64 n, .slice A xs.length c] 26).alloc [.int .i64 0, .int .i64 1, .int .i64 2, .int .i64 3, .int .i64 (-1), .int .i64 1000, .int .i64 1001] 3).drew
    refine bodyPost_ret (v := .tuple #[.agg #[.int .i64 n, .slice A xs.length c], .int .i64 (([0, 1, 2, 3, -1, 1000, 1001] : List Int).getD 2 0)]) (by simp [results, Tryd.results46, go_sem, o10, o11, of0, of1, hzl, hne, hne2]) rfl ⟨_, n, xs, _, rfl, by decide, ⟨A, c, rfl, hZ.ownI (i := 2) rfl, hlx⟩, hZ.base⟩
  · go_wp2
    go_region
    go_wp2
    have hZ := ((((HS0.out.store (i := 1) rfl 0 (.int .i64 n)).store (i := 1) rfl 1 (.slice A xs.length c)).alloc [.int .i64 n, .slice A xs.length c] 26).alloc [.int .i64 0, .int .i64 1, .int .i64 2, .int .i64 3, .int .i64 (-1), .int .i64 1000, .int .i64 1001] 3).drew
    refine bodyPost_ret (v := .tuple #[.agg #[.int .i64 n, .slice A xs.length c], .int .i64 (([0, 1, 2, 3, -1, 1000, 1001] : List Int).getD 3 0)]) (by simp [results, Tryd.results46, go_sem, o10, o11, of0, of1, hzl, hne, hne2]) rfl ⟨_, n, xs, _, rfl, by decide, ⟨A, c, rfl, hZ.ownI (i := 2) rfl, hlx⟩, hZ.base⟩
  · go_wp2
    go_region
    go_wp2
    have hZ := ((((HS0.out.store (i := 1) rfl 0 (.int .i64 n)).store (i := 1) rfl 1 (.slice A xs.length c)).alloc [.int .i64 n, .slice A xs.length c] 26).alloc [.int .i64 0, .int .i64 1, .int .i64 2, .int .i64 3, .int .i64 (-1), .int .i64 1000, .int .i64 1001] 3).drew
    refine bodyPost_ret (v := .tuple #[.agg #[.int .i64 n, .slice A xs.length c], .int .i64 (([0, 1, 2, 3, -1, 1000, 1001] : List Int).getD 4 0)]) (by simp [results, Tryd.results46, go_sem, o10, o11, of0, of1, hzl, hne, hne2]) rfl ⟨_, n, xs, _, rfl, by decide, ⟨A, c, rfl, hZ.ownI (i := 2) rfl, hlx⟩, hZ.base⟩
  · go_wp2
    go_region
    go_wp2
    have hZ := ((((HS0.out.store (i := 1) rfl 0 (.int .i64 n)).store (i := 1) rfl 1 (.slice A xs.length c)).alloc [.int .i64 n, .slice A xs.length c] 26).alloc [.int .i64 0, .int .i64 1, .int .i64 2, .int .i64 3, .int .i64 (-1), .int .i64 1000, .int .i64 1001] 3).drew
    refine bodyPost_ret (v := .tuple #[.agg #[.int .i64 n, .slice A xs.length c], .int .i64 (([0, 1, 2, 3, -1, 1000, 1001] : List Int).getD 5 0)]) (by simp [results, Tryd.results46, go_sem, o10, o11, of0, of1, hzl, hne, hne2]) rfl ⟨_, n, xs, _, rfl, by decide, ⟨A, c, rfl, hZ.ownI (i := 2) rfl, hlx⟩, hZ.base⟩
  · go_wp2
    go_region
    go_wp2
    have hZ := ((((HS0.out.store (i := 1) rfl 0 (.int .i64 n)).store (i := 1) rfl 1 (.slice A xs.length c)).alloc [.int .i64 n, .slice A xs.length c] 26).alloc [.int .i64 0, .int .i64 1, .int .i64 2, .int .i64 3, .int .i64 (-1), .int .i64 1000, .int .i64 1001] 3).drew
    refine bodyPost_ret (v := .tuple #[.agg #[.int .i64 n, .slice A xs.length c], .int .i64 (([0, 1, 2, 3, -1, 1000, 1001] : List Int).getD 6 0)]) (by simp [results, Tryd.results46, go_sem, o10, o11, of0, of1, hzl, hne, hne2]) rfl ⟨_, n, xs, _, rfl, by decide, ⟨A, c, rfl, hZ.ownI (i := 2) rfl, hlx⟩, hZ.base⟩

end


end Go.Proofs.YtfpoiiennlhphaaDoor.C
