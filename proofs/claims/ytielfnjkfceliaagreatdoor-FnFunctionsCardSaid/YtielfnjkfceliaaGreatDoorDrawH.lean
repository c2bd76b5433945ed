/-
  The contracts of the draws of chapter 2, as the laws call them.
-/
import Derived.Test.YtielfnjkfceliaaGreatDoorDrawG
import Derived.StillTailTactics
namespace Go.Proofs.YtielfnjkfceliaaGreatDoor.C
open Go.RowKit M K
set_option linter.unusedVariables false
set_option linter.unusedSimpArgs false

/-- Bytes as they stand in a later memory. -/
theorem Bytes.later {w0 w : World} {v : Value} {len : Nat} (h : Bytes w0.heap.size w0 v len) (hb : Below w0.heap.size w0 w) : Bytes w.heap.size w v len := by
  rcases h.below hb with h | ⟨x, off, cap, zs, hv, h1, h2, h3, h4, h5, h6⟩
  · exact .inl h
  · exact .inr ⟨x, off, cap, zs, hv, h1, h2, h3, Nat.lt_of_lt_of_le h4 hb.size, h5, h6⟩


section

variable {w0 w : World} {v : Value} {len : Nat} {L : List Cel}
theorem new_st (h : St w0 w L) (hy : Bytes w0.heap.size w0 v len) (hl : len ≤ 1048576) :
    Calls Tryz.prog 57 #[v] w fun e w' => e = .returned (.pointer (some ⟨w.heap.size, 0, none⟩)) ∧ Dr w0 v len w.heap.size w' L := by
  refine (new_cur v len w hl (hy.later h.base)).mono ?_
  rintro e w' ⟨rfl, i, x, a, b1, b2, hB, hb⟩
  exact ⟨rfl, hy, i, x, a, ⟨b1, b2⟩, h.new (t := 95) (s := 3) (n := 1) (v := .slice (some ⟨w.heap.size, 0, none⟩) 1 1) (cs := [v, .int .i64 i, .int .i64 x]) hb (bx_own hB (Nat.le_refl _))⟩

end


/-- A function whose values are new. -/
def IsF (w w' : World) (v : Value) (n : Int) (xs : List Int) : Prop := ∃ A c, v = .agg #[.int .i64 n, .slice A xs.length c] ∧ Own w' w.heap.size (.slice A xs.length c) xs ∧ 1 ≤ xs.length ∧ xs.length ≤ 32
def GotF (w : World) (e : Ending) (w' : World) : Prop := ∃ v n xs, e = .returned v ∧ IsF w w' v n xs ∧ Below w.heap.size w w'
def GotFI (P : Int → Prop) (w : World) (e : Ending) (w' : World) : Prop := ∃ v n xs x, e = .returned (.tuple #[v, .int .i64 x]) ∧ P x ∧ IsF w w' v n xs ∧ Below w.heap.size w w'
def GotFII (P : Int → Int → Prop) (w : World) (e : Ending) (w' : World) : Prop := ∃ v n xs x y, e = .returned (.tuple #[v, .int .i64 x, .int .i64 y]) ∧ P x y ∧ IsF w w' v n xs ∧ Below w.heap.size w w'
def GotFF (w : World) (e : Ending) (w' : World) : Prop := ∃ v n xs u m ys, e = .returned (.tuple #[v, u]) ∧ IsF w w' v n xs ∧ IsF w w' u m ys ∧ Below w.heap.size w w'


section

variable (v : Value) (len : Nat) (w : World) (hl : len ≤ 1048576) (hy : Hid (Bytes w.heap.size w v len))
include hl hy

set_option maxRecDepth 100000 in
set_option maxHeartbeats 4000000 in
theorem set_got : Calls Tryz.prog 51 #[v] w (GotFI (fun x => -1 ≤ x ∧ x ≤ 16) w) := by
  have HW := Lib.hid (St.start w)
  go_enter Tryz.func51, Tryz.ntmps51
  go_wp2_with fail
  refine (new_st (HW.out.alloc [.int .i64 0, .slice none 0 0] 26) hy.out hl).mono ?_
  rintro e w1 ⟨rfl, hd⟩
  have HD := Lib.hid hd
  have hz1 := hd.lt.2
  have hz0 : w.heap.size < w1.heap.size := hd.lt_of (i := 0) rfl rfl
  simp only [World.size_alloc] at HD hz1
  clear hd
  go_wp2_with fail
  refine (any_dr HD).mono ?_
  rintro e w2 ⟨n, A, c, xs, rfl, hx, hd⟩
  have HX := Lib.hid hx
  have hz2 : w.heap.size < w2.heap.size := hd.lt_of (i := 1) rfl rfl
  have HD2 := Lib.hid (hd.alloc [.int .i64 n, .slice A xs.length c] 26)
  have hne : ¬ w.heap.size = w2.heap.size := by omega
  have hne2 : ¬ w2.heap.size = w.heap.size := by omega
  clear hd hx HD
  go_wp2
  go_region_held3 (fun w' => w'.cell? ⟨w2.heap.size, 0, none⟩ = some (.int .i64 n) ∧ w'.cell? ⟨w2.heap.size, 1, none⟩ = some (.slice A xs.length c)) (first | assumption | go_keep) ((go_at_call 62; refine (below_dr 18 (Lib.hid HD2.out.drew) (by omega) (by omega)).mono ?_; rintro e w3 ⟨x, rfl, ⟨x0, x1⟩, hd⟩; obtain ⟨b0, -⟩ := hd.rest.box (i := 0) rfl; have b00 := b0 0 _ rfl; have b01 := b0 1 _ rfl; obtain ⟨r1, rf⟩ := hd.rest.box (i := 2) rfl; have r10 := r1 0 _ rfl; have r11 := r1 1 _ rfl; have rf0 := rf 0; have rf1 := rf 1; have hx1 : IntKind.i64.wrap (x - 1) = x - 1 := IntWalk.i64_in _ (by omega); have HD3 := Lib.hid hd; clear b0 r1 rf hd))
  rename_i hHeld
  clear hHeld
  go_wp2
  obtain ⟨hy, ci, cx, ca, cb, hS⟩ := HD3.out
  have hZ := (hS.store (i := 3) rfl 0 (.int .i64 n)).store (i := 3) rfl 1 (.slice A xs.length c)
  exact bodyPost_ret (v := .tuple #[.agg #[.int .i64 n, .slice A xs.length c], .int .i64 (x - 1)]) (by simp [results, Tryz.results51, go_sem, r10, r11, rf0, rf1, hne, hne2]) rfl ⟨_, n, xs, x - 1, rfl, ⟨by omega, by omega⟩, ⟨A, c, rfl, hZ.ownI (i := 2) rfl, HX.out⟩, hZ.base⟩

theorem value_got : Calls Tryz.prog 30 #[v] w (GotFI (fun x => -1 ≤ x ∧ x ≤ 16) w) := by
  have HW := Lib.hid (St.start w)
  go_enter Tryz.func30, Tryz.ntmps30
  go_wp2_with fail
  refine St.use (w0 := w) (by exact HW.out.alloc _ _) ?_
  intro hS
  refine (set_got v len _ hl (Lib.hid (hy.out.later hS.base))).mono ?_
  rintro e w1 ⟨u, n, xs, x, rfl, hx, ⟨A, c, rfl, ho, hlx⟩, hb⟩
  have hS1 := (hS.newI hb ho).alloc [.int .i64 n, .slice A xs.length c] 26
  obtain ⟨r1, rf⟩ := hS1.box (i := 2) rfl
  have r10 := r1 0 _ rfl
  have r11 := r1 1 _ rfl
  have rf0 := rf 0
  have rf1 := rf 1
  have hz0 := (hS.lt (i := 0) rfl).2
  have hz1 := hb.size
  have hne : ¬ w.heap.size = w1.heap.size := by omega
  have hne2 : ¬ w1.heap.size = w.heap.size := by omega
  have HS1 := Lib.hid hS1
  have HX := Lib.hid hx
  clear hS hS1 hb ho r1 rf hx
  go_wp2
  have hZ := (HS1.out.store (i := 2) rfl 0 (.int .i64 n)).store (i := 2) rfl 1 (.slice A xs.length c)
  exact bodyPost_ret (v := .tuple #[.agg #[.int .i64 n, .slice A xs.length c], .int .i64 x]) (by simp [results, Tryz.results30, go_sem, r10, r11, rf0, rf1, hne, hne2]) rfl ⟨_, n, xs, x, rfl, HX.out, ⟨A, c, rfl, hZ.ownI (i := 1) rfl, hlx⟩, hZ.base⟩


omit hl hy in
set_option maxHeartbeats 4000000 in
theorem gain_got (a : Option Addr) (len cap : Nat) (w : World) (hl : len ≤ 1048576) (hy : Hid (Bytes w.heap.size w (.slice a len cap) len)) : Calls Tryz.prog 16 #[.slice a len cap] w (GotFII (fun x y => -1 ≤ x ∧ x ≤ 16 ∧ -1 ≤ y ∧ y ≤ 4) w) := by
  have HW := Lib.hid (St.start w)
  go_enter Tryz.func16, Tryz.ntmps16
  go_wp2_with fail
  refine St.use (w0 := w) (by exact HW.out.alloc _ _) ?_
  intro hS
  refine (set_got _ len _ hl (Lib.hid (hy.out.later hS.base))).mono ?_
  rintro e w1 ⟨u, n, xs, x, rfl, hx, ⟨A, c, rfl, ho, hlx⟩, hb⟩
  have hS1 := (hS.newI hb ho).alloc [.int .i64 n, .slice A xs.length c] 26
  obtain ⟨r1, rf⟩ := hS1.box (i := 2) rfl
  have r10 := r1 0 _ rfl
  have r11 := r1 1 _ rfl
  have rf0 := rf 0
  have rf1 := rf 1
  have hz0 := (hS.lt (i := 0) rfl).2
  have hz1 := hb.size
  have hne : ¬ w.heap.size = w1.heap.size := by omega
  have hne2 : ¬ w1.heap.size = w.heap.size := by omega
  have HS1 := Lib.hid hS1
  have HX := Lib.hid hx
  clear hS hS1 hb ho r1 rf hx
  go_wp2
  have hZ := (HS1.out.store (i := 2) rfl 0 (.int .i64 n)).store (i := 2) rfl 1 (.slice A xs.length c)
  exact bodyPost_ret (v := .tuple #[.agg #[.int .i64 n, .slice A xs.length c], .int .i64 x, .int .i64 ((len : Int) % 6 - 1)]) (by simp [results, Tryz.results16, go_sem, r10, r11, rf0, rf1, hne, hne2]) rfl ⟨_, n, xs, x, _, rfl, by have := HX.out; omega, ⟨A, c, rfl, hZ.ownI (i := 1) rfl, hlx⟩, hZ.base⟩


omit hl hy in
set_option maxHeartbeats 4000000 in
theorem scale_got (a : Option Addr) (len cap : Nat) (w : World) (hl : len ≤ 1048576) (hy : Hid (Bytes w.heap.size w (.slice a len cap) len)) : Calls Tryz.prog 20 #[.slice a len cap] w (GotFI (fun x => -1 ≤ x ∧ x ≤ 1001) w) := by
  have HW := Lib.hid (St.start w)
  go_enter Tryz.func20, Tryz.ntmps20
  go_wp2_with fail
  refine St.use (w0 := w) (by exact HW.out.alloc _ _) ?_
  intro hS
  refine (set_got _ len _ hl (Lib.hid (hy.out.later hS.base))).mono ?_
  rintro e w1 ⟨u, n, xs, x, rfl, hx, ⟨A, c, rfl, ho, hlx⟩, hb⟩
  have hS0 := hS.newI hb ho
  obtain ⟨o1, of⟩ := hS0.box (i := 1) rfl
  have o10 := o1 0 _ rfl
  have o11 := o1 1 _ rfl
  have of0 := of 0
  have of1 := of 1
  have hzl : w.heap.size < w1.heap.size := (hS0.lt (i := 1) rfl).2
  have HS0 := Lib.hid hS0
  clear o1 of hS0
  have hS1 := (hS.newI hb ho).alloc [.int .i64 n, .slice A xs.length c] 26
  obtain ⟨r1, rf⟩ := hS1.box (i := 2) rfl
  have r10 := r1 0 _ rfl
  have r11 := r1 1 _ rfl
  have rf0 := rf 0
  have rf1 := rf 1
  have hz0 := (hS.lt (i := 0) rfl).2
  have hz1 := hb.size
  have hne : ¬ w.heap.size = w1.heap.size := by omega
  have hne2 : ¬ w1.heap.size = w.heap.size := by omega
  have HS1 := Lib.hid hS1
  have HX := Lib.hid hx
  clear hS hS1 hb ho r1 rf hx
  have hk : ∃ k : Nat, (len : Int).tmod 7 = (k : Int) ∧ k < 7 := ⟨len % 7, by rw [Int.tmod_eq_emod_of_nonneg (by omega)]; omega, by omega⟩
  obtain ⟨k, hk1, hk2⟩ := hk
  have key : ∀ (y : Int), -1 ≤ y ∧ y ≤ 1001 → ([0, 1, 2, -1, 1000, 1001, 3] : List Int)[k]? = some y → True := fun _ _ _ => trivial
  rcases (by omega : k = 0 ∨ k = 1 ∨ k = 2 ∨ k = 3 ∨ k = 4 ∨ k = 5 ∨ k = 6) with rfl | rfl | rfl | rfl | rfl | rfl | rfl
  · go_wp2
    go_region
    go_wp2
    have hZ := ((((HS0.out.store (i := 1) rfl 0 (.int .i64 n)).store (i := 1) rfl 1 (.slice A xs.length c)).alloc [.int .i64 n, .slice A xs.length c] 26).alloc [.int .i64 0, .int .i64 1, .int .i64 2, .int .i64 (-1), .int .i64 1000, .int .i64 1001, .int .i64 3] 3).drew
    refine bodyPost_ret (v := .tuple #[.agg #[.int .i64 n, .slice A xs.length c], .int .i64 (([0, 1, 2, -1, 1000, 1001, 3] : List Int).getD 0 0)]) (by simp [results, Tryz.results20, go_sem, o10, o11, of0, of1, hzl, hne, hne2]) rfl ⟨_, n, xs, _, rfl, by decide, ⟨A, c, rfl, hZ.ownI (i := 2) rfl, hlx⟩, hZ.base⟩
  · go_wp2
    go_region
    go_wp2
    have hZ := ((((HS0.out.store (i := 1) rfl 0 (.int .i64 n)).store (i := 1) rfl 1 (.slice A xs.length c)).alloc [.int .i64 n, .slice A xs.length c] 26).alloc [.int .i64 0, .int .i64 1, .int .i64 2, .int .i64 (-1), .int .i64 1000, .int .i64 1001, .int .i64 3] 3).drew
    refine bodyPost_ret (v := .tuple #[.agg #[.int .i64 n, .slice A xs.length c], .int .i64 (([0, 1, 2, -1, 1000, 1001, 3] : List Int).getD 1 0)]) (by simp [results, Tryz.results20, go_sem, o10, o11, of0, of1, hzl, hne, hne2]) rfl ⟨_, n, xs, _, rfl, by decide, ⟨A, c, rfl, hZ.ownI (i := 2) rfl, hlx⟩, hZ.base⟩
  · go_wp2
    go_region
    go_wp2
    have hZ := ((((HS0.out.store (i := 1) rfl 0 (.int .i64 n)).store (i := 1) rfl 1 (.slice A xs.length c)).alloc [.int .i64 n, .slice A xs.length c] 26).alloc [.int .i64 0, .int .i64 1, .int .i64 2, .int .i64 (-1), .int .i64 1000, .int .i64 1001, .int .i64 3] 3).drew
    refine bodyPost_ret (v := .tuple #[.agg #[.int .i64 n, .slice A xs.length c], .int .i64 (([0, 1, 2, -1, 1000, 1001, 3] : List Int).getD 2 0)]) (by simp [results, Tryz.results20, go_sem, o10, o11, of0, of1, hzl, hne, hne2]) rfl ⟨_, n, xs, _, rfl, by decide, ⟨A, c, rfl, hZ.ownI (i := 2) rfl, hlx⟩, hZ.base⟩
  · go_wp2
    go_region
    go_wp2
    have hZ := ((((HS0.out.store (i := 1) rfl 0 (.int .i64 n)).store (i := 1) rfl 1 (.slice A xs.length c)).alloc [.int .i64 n, .slice A xs.length c] 26).alloc [.int .i64 0, .int .i64 1, .int .i64 2, .int .i64 (-1), .int .i64 1000, .int .i64 1001, .int .i64 3] 3).drew
    refine bodyPost_ret (v := .tuple #[.agg #[.int .i64 n, .slice A xs.length c], .int .i64 (([0, 1, 2, -1, 1000, 1001, 3] : List Int).getD 3 0)]) (by simp [results, Tryz.results20, go_sem, o10, o11, of0, of1, hzl, hne, hne2]) rfl ⟨_, n, xs, _, rfl, by decide, ⟨A, c, rfl, hZ.ownI (i := 2) rfl, hlx⟩, hZ.base⟩
  · go_wp2
    go_region
    go_wp2
    have hZ := ((((HS0.out.store (i := 1) rfl 0 (.int .i64 n)).store (i := 1) rfl 1 (.slice A xs.length c)).alloc [.int .i64 n, .slice A xs.length c] 26).alloc [.int .i64 0, .int .i64 1, .int .i64 2, .int .i64 (-1), .int .i64 1000, .int .i64 1001, .int .i64 3] 3).drew
    refine bodyPost_ret (v := .tuple #[.agg #[.int .i64 n, .slice A xs.length c], .int .i64 (([0, 1, 2, -1, 1000, 1001, 3] : List Int).getD 4 0)]) (by simp [results, Tryz.results20, go_sem, o10, o11, of0, of1, hzl, hne, hne2]) rfl ⟨_, n, xs, _, rfl, by decide, ⟨A, c, rfl, hZ.ownI (i := 2) rfl, hlx⟩, hZ.base⟩
  · go_wp2
    go_region
    go_wp2
    have hZ := ((((HS0.out.store (i := 1) rfl 0 (.int .i64 n)).store (i := 1) rfl 1 (.slice A xs.length c)).alloc [.int .i64 n, .slice A xs.length c] 26).alloc [.int .i64 0, .int .i64 1, .int .i64 2, .int .i64 (-1), .int .i64 1000, .int .i64 1001, .int .i64 3] 3).drew
    refine bodyPost_ret (v := .tuple #[.agg #[.int .i64 n, .slice A xs.length c], .int .i64 (([0, 1, 2, -1, 1000, 1001, 3] : List Int).getD 5 0)]) (by simp [results, Tryz.results20, go_sem, o10, o11, of0, of1, hzl, hne, hne2]) rfl ⟨_, n, xs, _, rfl, by decide, ⟨A, c, rfl, hZ.ownI (i := 2) rfl, hlx⟩, hZ.base⟩
  · go_wp2
    go_region
    go_wp2
    have hZ := ((((HS0.out.store (i := 1) rfl 0 (.int .i64 n)).store (i := 1) rfl 1 (.slice A xs.length c)).alloc [.int .i64 n, .slice A xs.length c] 26).alloc [.int .i64 0, .int .i64 1, .int .i64 2, .int .i64 (-1), .int .i64 1000, .int .i64 1001, .int .i64 3] 3).drew
    refine bodyPost_ret (v := .tuple #[.agg #[.int .i64 n, .slice A xs.length c], .int .i64 (([0, 1, 2, -1, 1000, 1001, 3] : List Int).getD 6 0)]) (by simp [results, Tryz.results20, go_sem, o10, o11, of0, of1, hzl, hne, hne2]) rfl ⟨_, n, xs, _, rfl, by decide, ⟨A, c, rfl, hZ.ownI (i := 2) rfl, hlx⟩, hZ.base⟩


end


end Go.Proofs.YtielfnjkfceliaaGreatDoor.C
