/-
  The contracts of the draws of chapter 5.
-/
import Derived.Test.YtfpoiiennlhphaaDoorDrawH
import Derived.StillTailTactics
namespace Go.Proofs.YtfpoiiennlhphaaDoor.C
open Go.RowKit M K
set_option linter.unusedVariables false
set_option linter.unusedSimpArgs false


section

variable {w0 : World} {v : Value} {len B : Nat} {L : List Cel} {w : World}
set_option maxRecDepth 100000 in
set_option maxHeartbeats 8000000 in
theorem poly_dr (h : Hid (Dr w0 v len B w L)) :
    Calls Tryd.prog 68 #[.pointer (some ⟨B, 0, none⟩)] w (DrF w0 v len B L (fun m xs => 1 ≤ xs.length ∧ xs.length ≤ 32)) := by
  obtain ⟨i0, hi, hz0, hz1, hz2⟩ := info_parts info_int
  go_enter Tryd.func68, Tryd.ntmps68
  go_wp2_with fail
  refine (below_dr 5 (Lib.hid (h.out.alloc [.int .i64 0, .slice none 0 0] 26)) (by omega) (by omega)).mono ?_
  rintro e w1 ⟨x, rfl, ⟨x0, x1⟩, hd⟩
  obtain ⟨n, rfl⟩ := Int.eq_ofNat_of_zero_le x0
  have hn : n ≤ 5 := by omega
  obtain ⟨p, hp⟩ : ∃ p, p = 2 ^ n := ⟨_, rfl⟩
  obtain ⟨hp1, hp2⟩ := p2_nat hn
  have hsh := shl_one (n := (n : Int)) (m := p) (by omega) (by omega) (by rw [Int.toNat_natCast]; exact hp)
  rw [Int.toNat_natCast] at hsh
  rw [← hp] at hp1 hp2
  have HP := Lib.hid hp
  clear hp
  have HD := Lib.hid hd
  clear hd
  go_wp2_with fail
  refine (below_dr 6 (Lib.hid HD.out) (by omega) (by omega)).mono ?_
  rintro e w2 ⟨t, rfl, ⟨t0, t1⟩, hd⟩
  have HD2 := Lib.hid hd
  clear hd HD
  by_cases e0 : t = 0
  · subst e0
    clear hsh
    go_wp2_with fail
    refine (any_dr HD2).mono ?_
    rintro e w3 ⟨m, A, c, xs, rfl, hx, hd⟩
    have HX := Lib.hid hx
    obtain ⟨r1, rf⟩ := hd.rest.box (i := 1) rfl
    have r10 := r1 0 _ rfl
    have r11 := r1 1 _ rfl
    have rf0 := rf 0
    have rf1 := rf 1
    have HD3 := Lib.hid hd
    clear hd hx HD2 r1 rf
    go_wp2
    obtain ⟨hy, ci, cx, ca, cb, hS⟩ := HD3.out
    have hZ := (hS.store (i := 2) rfl 0 (.int .i64 m)).store (i := 2) rfl 1 (.slice A xs.length c)
    exact bodyPost_ret (v := .agg #[.int .i64 m, .slice A xs.length c]) (by simp [results, Tryd.results68, go_sem, r10, r11, rf0, rf1]) rfl ⟨m, A, c, xs, rfl, HX.out, ⟨hy, ci, cx, ca, cb, hZ.drop 2⟩⟩
  · have f0 : (t == 0) = false := by simpa using e0
    by_cases e1 : t = 1
    · subst e1
      clear e0 f0
      go_wp2_with fail
      refine (below_dr ((n : Int) + 1) HD2 (by omega) (by omega)).mono ?_
      rintro e w3 ⟨top, rfl, ⟨top0, top1⟩, hd⟩
      have HD3 := Lib.hid hd.empty
      clear hd HD2
      go_wp2
      go_loopw [5, 6] (fun a i wr => ∃ (j : Nat) (U : Option Addr) (d : Nat) (us : List Int), i = .int .i64 j ∧ j ≤ p ∧ a = .slice U j d ∧ Dr w0 v len B wr (il (.slice U j d) j us :: bx w.heap.size 26 [.int .i64 0, .slice none 0 0] :: L)) (fun _ i _ => p - (intOf i).toNat)
      case atStart => exact ⟨0, _, _, [], rfl, Nat.zero_le _, rfl, HD3.out⟩
      case round =>
        obtain ⟨j, U, d, us, rfl, hj, rfl, hD⟩ := hrel
        have HY := Lib.hid hD
        clear hD
        by_cases hlt : j < p
        · have hji : (j : Int) < (p : Int) := by omega
          go_wp2_with fail
          refine (size_dr j _ (by omega)).mono ?_
          rintro e' w6 ⟨x, rfl, hq⟩
          have HY2 := Lib.hid (show Dr w0 v len B w6 _ from by obtain ⟨q, rfl⟩ := hq; exact HY.out.drewN q)
          clear hq HY
          obtain ⟨m, hm2⟩ : ∃ m, (if x < top then x else top) = m := ⟨_, rfl⟩
          go_wp2_with (at_builtin; obtain ⟨hy, ci, cx, ca, cb, hS⟩ := HY2.out; refine wpList_app1 rfl (.tmp 28) (.tmp 33) 24 rfl m Tryd.underlying24 hi hz0 hz1 hz2 ((hS.alloc _ _).drop 0) (i := 1) rfl rfl rfl (by simp [← hm2]) (by omega) ?_; intro V' c' w3 hS3; have HD3 := Lib.hid (show Dr w0 v len B w3 _ from ⟨hy, ci, cx, ca, cb, hS3⟩); clear hS hS3 HY2 hy cb ca)
          go_roundw
          case rel => exact ⟨j + 1, V', c', us ++ [m], by go_num, by omega, rfl, HD3.out⟩
          case measure => simp [intOf]; omega
        · obtain rfl : j = p := by omega
          have hjp : ¬ (j : Int) < (j : Int) := by omega
          obtain ⟨r1, rf⟩ := HY.out.rest.box (i := 1) rfl
          have r10 := r1 0 _ rfl
          have r11 := r1 1 _ rfl
          have rf0 := rf 0
          have rf1 := rf 1
          clear r1 rf
          go_wp2
          obtain ⟨hy, ci, cx, ca, cb, hS⟩ := HY.out
          have hZ := (hS.store (i := 2) rfl 0 (.int .i64 n)).store (i := 2) rfl 1 (.slice U j d)
          have hl : us.length = j := OwnN.len (hZ.own (i := 1) rfl)
          exact bodyPost_ret (v := .agg #[.int .i64 n, .slice U j d]) (by simp [results, Tryd.results68, go_sem, r10, r11, rf0, rf1]) rfl ⟨n, U, d, us, by rw [hl], (show 1 ≤ us.length ∧ us.length ≤ 32 by rw [hl]; exact ⟨hp1, hp2⟩), by rw [hl]; exact ⟨hy, ci, cx, ca, cb, hZ.drop 2⟩⟩
    · have f1 : (t == 1) = false := by simpa using e1
      clear hsh
      go_wp2_with fail
      refine (cover_dr n HD2 hn).mono ?_
      rintro e w3 ⟨A, c, xs, rfl, hx, hd⟩
      have HX := Lib.hid hx
      obtain ⟨r1, rf⟩ := hd.rest.box (i := 1) rfl
      have r10 := r1 0 _ rfl
      have r11 := r1 1 _ rfl
      have rf0 := rf 0
      have rf1 := rf 1
      have HD3 := Lib.hid hd
      clear hd hx HD2 r1 rf
      go_wp2
      obtain ⟨hy, ci, cx, ca, cb, hS⟩ := HD3.out
      have hZ := (hS.store (i := 2) rfl 0 (.int .i64 n)).store (i := 2) rfl 1 (.slice A xs.length c)
      exact bodyPost_ret (v := .agg #[.int .i64 n, .slice A xs.length c]) (by simp [results, Tryd.results68, go_sem, r10, r11, rf0, rf1]) rfl ⟨n, A, c, xs, rfl, by have := HX.out; have := HP.out; omega, ⟨hy, ci, cx, ca, cb, hZ.drop 2⟩⟩

end


def GotFL (w : World) (e : Ending) (w' : World) : Prop := ∃ v n xs A c ys, e = .returned (.tuple #[v, .slice A (List.length ys) c]) ∧ ys.length ≤ 5 ∧ IsF w w' v n xs ∧ Own w' w.heap.size (.slice A (List.length ys) c) ys ∧ Below w.heap.size w w'


section

variable (v : Value) (len : Nat) (w : World) (hl : len ≤ 1048576) (hy : Hid (Bytes w.heap.size w v len))
include hl hy

set_option maxRecDepth 100000 in
set_option maxHeartbeats 4000000 in
theorem both_got : Calls Tryd.prog 60 #[v] w (GotFI (fun x => -1 ≤ x ∧ x ≤ 16) w) := by
  have HW := Lib.hid (St.start w)
  go_enter Tryd.func60, Tryd.ntmps60
  go_wp2_with fail
  refine (new_st (HW.out.alloc [.int .i64 0, .slice none 0 0] 26) hy.out hl).mono ?_
  rintro e w1 ⟨rfl, hd⟩
  have HD := Lib.hid hd
  have hz1 := hd.lt.2
  have hz0 : w.heap.size < w1.heap.size := hd.lt_of (i := 0) rfl rfl
  simp only [World.size_alloc] at HD hz1
  clear hd
  go_wp2_with fail
  refine (poly_dr HD).mono ?_
  rintro e w2 ⟨n, A, c, xs, rfl, hx, hd⟩
  have HX := Lib.hid hx
  have hz2 : w.heap.size < w2.heap.size := hd.lt_of (i := 1) rfl rfl
  have HD2 := Lib.hid (hd.alloc [.int .i64 n, .slice A xs.length c] 26)
  have hne : ¬ w.heap.size = w2.heap.size := by omega
  have hne2 : ¬ w2.heap.size = w.heap.size := by omega
  clear hd hx HD
  go_wp2
  go_region_held3 (fun w' => w'.cell? ⟨w2.heap.size, 0, none⟩ = some (.int .i64 n) ∧ w'.cell? ⟨w2.heap.size, 1, none⟩ = some (.slice A xs.length c)) (first | assumption | go_keep) ((go_at_call 86; refine (below_dr 18 (Lib.hid HD2.out.drew) (by omega) (by omega)).mono ?_; rintro e w3 ⟨x, rfl, ⟨x0, x1⟩, hd⟩; obtain ⟨b0, -⟩ := hd.rest.box (i := 0) rfl; have b00 := b0 0 _ rfl; have b01 := b0 1 _ rfl; obtain ⟨r1, rf⟩ := hd.rest.box (i := 2) rfl; have r10 := r1 0 _ rfl; have r11 := r1 1 _ rfl; have rf0 := rf 0; have rf1 := rf 1; have hx1 : IntKind.i64.wrap (x - 1) = x - 1 := IntWalk.i64_in _ (by omega); have HD3 := Lib.hid hd; clear b0 r1 rf hd))
  rename_i hHeld
  clear hHeld
  go_wp2
  obtain ⟨hy, ci, cx, ca, cb, hS⟩ := HD3.out
  have hZ := (hS.store (i := 3) rfl 0 (.int .i64 n)).store (i := 3) rfl 1 (.slice A xs.length c)
  exact bodyPost_ret (v := .tuple #[.agg #[.int .i64 n, .slice A xs.length c], .int .i64 (x - 1)]) (by simp [results, Tryd.results60, go_sem, r10, r11, rf0, rf1, hne, hne2]) rfl ⟨_, n, xs, x - 1, rfl, ⟨by omega, by omega⟩, ⟨A, c, rfl, hZ.ownI (i := 2) rfl, HX.out⟩, hZ.base⟩

set_option maxHeartbeats 1600000 in
theorem cdraw_got : Calls Tryd.prog 7 #[v] w (GotFI (fun x => -1 ≤ x ∧ x ≤ 16) w) := by
  have HW := Lib.hid (St.start w)
  go_enter Tryd.func7, Tryd.ntmps7
  go_wp2_with fail
  refine St.use (w0 := w) (by exact HW.out.alloc _ _) ?_
  intro hS
  refine (both_got v len _ hl (Lib.hid (hy.out.later hS.base))).mono ?_
  rintro e w1 ⟨u, n, xs, x, rfl, hx, ⟨A, c, rfl, ho, hlx⟩, hb⟩
  have hS1 := (hS.newI hb ho).alloc [.int .i64 n, .slice A xs.length c] 26
  obtain ⟨r1, rf⟩ := hS1.box (i := 2) rfl
  have r10 := r1 0 _ rfl
  have r11 := r1 1 _ rfl
  have rf0 := rf 0
  have rf1 := rf 1
  have hz0 := (hS.lt (i := 0) rfl).2
  have hz1 := hb.size
  have hne : ¬ w.heap.size = w1.heap.size := by omega
  have hne2 : ¬ w1.heap.size = w.heap.size := by omega
  have HS1 := Lib.hid hS1
  have HX := Lib.hid hx
  clear hS hS1 hb ho r1 rf hx
  go_wp2
  have hZ := (HS1.out.store (i := 2) rfl 0 (.int .i64 n)).store (i := 2) rfl 1 (.slice A xs.length c)
  exact bodyPost_ret (v := .tuple #[.agg #[.int .i64 n, .slice A xs.length c], .int .i64 x]) (by simp [results, Tryd.results7, go_sem, r10, r11, rf0, rf1, hne, hne2]) rfl ⟨_, n, xs, x, rfl, HX.out, ⟨A, c, rfl, hZ.ownI (i := 1) rfl, hlx⟩, hZ.base⟩

set_option maxHeartbeats 1600000 in
theorem fdraw_got : Calls Tryd.prog 32 #[v] w (GotFI (fun x => -1 ≤ x ∧ x ≤ 16) w) := by
  have HW := Lib.hid (St.start w)
  go_enter Tryd.func32, Tryd.ntmps32
  go_wp2_with fail
  refine St.use (w0 := w) (by exact HW.out.alloc _ _) ?_
  intro hS
  refine (both_got v len _ hl (Lib.hid (hy.out.later hS.base))).mono ?_
  rintro e w1 ⟨u, n, xs, x, rfl, hx, ⟨A, c, rfl, ho, hlx⟩, hb⟩
  have hS1 := (hS.newI hb ho).alloc [.int .i64 n, .slice A xs.length c] 26
  obtain ⟨r1, rf⟩ := hS1.box (i := 2) rfl
  have r10 := r1 0 _ rfl
  have r11 := r1 1 _ rfl
  have rf0 := rf 0
  have rf1 := rf 1
  have hz0 := (hS.lt (i := 0) rfl).2
  have hz1 := hb.size
  have hne : ¬ w.heap.size = w1.heap.size := by omega
  have hne2 : ¬ w1.heap.size = w.heap.size := by omega
  have HS1 := Lib.hid hS1
  have HX := Lib.hid hx
  clear hS hS1 hb ho r1 rf hx
  go_wp2
  have hZ := (HS1.out.store (i := 2) rfl 0 (.int .i64 n)).store (i := 2) rfl 1 (.slice A xs.length c)
  exact bodyPost_ret (v := .tuple #[.agg #[.int .i64 n, .slice A xs.length c], .int .i64 x]) (by simp [results, Tryd.results32, go_sem, r10, r11, rf0, rf1, hne, hne2]) rfl ⟨_, n, xs, x, rfl, HX.out, ⟨A, c, rfl, hZ.ownI (i := 1) rfl, hlx⟩, hZ.base⟩

set_option maxHeartbeats 1600000 in
theorem rdraw_got : Calls Tryd.prog 17 #[v] w (GotFI (fun x => -1 ≤ x ∧ x ≤ 16) w) := by
  have HW := Lib.hid (St.start w)
  go_enter Tryd.func17, Tryd.ntmps17
  go_wp2_with fail
  refine St.use (w0 := w) (by exact HW.out.alloc _ _) ?_
  intro hS
  refine (set_got v len _ hl (Lib.hid (hy.out.later hS.base))).mono ?_
  rintro e w1 ⟨u, n, xs, x, rfl, hx, ⟨A, c, rfl, ho, hlx⟩, hb⟩
  have hS1 := (hS.newI hb ho).alloc [.int .i64 n, .slice A xs.length c] 26
  obtain ⟨r1, rf⟩ := hS1.box (i := 2) rfl
  have r10 := r1 0 _ rfl
  have r11 := r1 1 _ rfl
  have rf0 := rf 0
  have rf1 := rf 1
  have hz0 := (hS.lt (i := 0) rfl).2
  have hz1 := hb.size
  have hne : ¬ w.heap.size = w1.heap.size := by omega
  have hne2 : ¬ w1.heap.size = w.heap.size := by omega
  have HS1 := Lib.hid hS1
  have HX := Lib.hid hx
  clear hS hS1 hb ho r1 rf hx
  go_wp2
  have hZ := (HS1.out.store (i := 2) rfl 0 (.int .i64 n)).store (i := 2) rfl 1 (.slice A xs.length c)
  exact bodyPost_ret (v := .tuple #[.agg #[.int .i64 n, .slice A xs.length c], .int .i64 x]) (by simp [results, Tryd.results17, go_sem, r10, r11, rf0, rf1, hne, hne2]) rfl ⟨_, n, xs, x, rfl, HX.out, ⟨A, c, rfl, hZ.ownI (i := 1) rfl, hlx⟩, hZ.base⟩

set_option maxHeartbeats 1600000 in
theorem ldraw_got : Calls Tryd.prog 12 #[v] w (GotF w) := by
  have HW := Lib.hid (St.start w)
  go_enter Tryd.func12, Tryd.ntmps12
  go_wp2_with fail
  refine (new_st (HW.out.alloc [.int .i64 0, .slice none 0 0] 26) hy.out hl).mono ?_
  rintro e w1 ⟨rfl, hd⟩
  have HD := Lib.hid hd
  simp only [World.size_alloc] at HD
  clear hd
  go_wp2_with fail
  refine (poly_dr HD).mono ?_
  rintro e w2 ⟨n, A, c, xs, rfl, hx, hd⟩
  have HX := Lib.hid hx
  obtain ⟨r1, rf⟩ := hd.rest.box (i := 1) rfl
  have r10 := r1 0 _ rfl
  have r11 := r1 1 _ rfl
  have rf0 := rf 0
  have rf1 := rf 1
  have HD2 := Lib.hid hd
  clear hd hx HD r1 rf
  go_wp2
  obtain ⟨hy, ci, cx, ca, cb, hS⟩ := HD2.out
  have hZ := (hS.store (i := 2) rfl 0 (.int .i64 n)).store (i := 2) rfl 1 (.slice A xs.length c)
  exact bodyPost_ret (v := .agg #[.int .i64 n, .slice A xs.length c]) (by simp [results, Tryd.results12, go_sem, r10, r11, rf0, rf1]) rfl ⟨_, n, xs, rfl, ⟨A, c, rfl, hZ.ownI (i := 1) rfl, HX.out⟩, hZ.base⟩

set_option maxHeartbeats 1600000 in
theorem odraw_got : Calls Tryd.prog 26 #[v] w (GotF w) := by
  have HW := Lib.hid (St.start w)
  go_enter Tryd.func26, Tryd.ntmps26
  go_wp2_with fail
  refine (new_st (HW.out.alloc [.int .i64 0, .slice none 0 0] 26) hy.out hl).mono ?_
  rintro e w1 ⟨rfl, hd⟩
  have HD := Lib.hid hd
  simp only [World.size_alloc] at HD
  clear hd
  go_wp2_with fail
  refine (any_dr HD).mono ?_
  rintro e w2 ⟨n, A, c, xs, rfl, hx, hd⟩
  have HX := Lib.hid hx
  obtain ⟨r1, rf⟩ := hd.rest.box (i := 1) rfl
  have r10 := r1 0 _ rfl
  have r11 := r1 1 _ rfl
  have rf0 := rf 0
  have rf1 := rf 1
  have HD2 := Lib.hid hd
  clear hd hx HD r1 rf
  go_wp2
  obtain ⟨hy, ci, cx, ca, cb, hS⟩ := HD2.out
  have hZ := (hS.store (i := 2) rfl 0 (.int .i64 n)).store (i := 2) rfl 1 (.slice A xs.length c)
  exact bodyPost_ret (v := .agg #[.int .i64 n, .slice A xs.length c]) (by simp [results, Tryd.results26, go_sem, r10, r11, rf0, rf1]) rfl ⟨_, n, xs, rfl, ⟨A, c, rfl, hZ.ownI (i := 1) rfl, HX.out⟩, hZ.base⟩

set_option maxRecDepth 100000 in
set_option maxHeartbeats 4000000 in
theorem ddraw_got : Calls Tryd.prog 29 #[v] w (GotFL w) := by
  have HW := Lib.hid (St.start w)
  obtain ⟨i0, hi, hz0, hz1, hz2⟩ := info_parts info_int
  go_enter Tryd.func29, Tryd.ntmps29
  go_wp2_with fail
  refine (new_st (HW.out.alloc [.int .i64 0, .slice none 0 0] 26) hy.out hl).mono ?_
  rintro e w1 ⟨rfl, hd⟩
  have HD := Lib.hid hd
  have hz0' : w.heap.size < w1.heap.size := hd.lt_of (i := 0) rfl rfl
  simp only [World.size_alloc] at HD
  clear hd
  go_wp2_with fail
  refine (any_dr HD).mono ?_
  rintro e w2 ⟨n, A, c, xs, rfl, hx, hd⟩
  have HX := Lib.hid hx
  have hz2' : w.heap.size < w2.heap.size := hd.lt_of (i := 1) rfl rfl
  have HD2 := Lib.hid (hd.alloc [.int .i64 n, .slice A xs.length c] 26).empty
  simp only [World.size_alloc] at HD2
  obtain ⟨p, hp⟩ : ∃ p, xs.length = p := ⟨_, rfl⟩
  have HPP := Lib.hid hp
  rw [hp] at HD2 ⊢
  clear hd hx HD hp
  obtain ⟨lim, hlim⟩ : ∃ lim, (if n < 5 then n else 5) = lim := ⟨_, rfl⟩
  have hlim5 : lim ≤ 5 := by rw [← hlim]; split <;> omega
  go_wp2
  go_loopw [6, 7] (fun a i wr => ∃ (j : Nat) (U : Option Addr) (d : Nat) (us : List Int), i = .int .i64 j ∧ j ≤ 5 ∧ a = .slice U j d ∧ Dr w v len (w.heap.size + 1) wr (il (.slice U j d) j us :: bx w2.heap.size 26 [.int .i64 n, .slice A p c] :: il (.slice A p c) p xs :: bx w.heap.size 26 [.int .i64 0, .slice none 0 0] :: [])) (fun _ i _ => 5 - (intOf i).toNat)
  case atStart => exact ⟨0, _, _, [], rfl, Nat.zero_le _, rfl, HD2.out⟩
  case round =>
    obtain ⟨j, U, d, us, rfl, hj, rfl, hD⟩ := hrel
    obtain ⟨b0, -⟩ := hD.rest.box (i := 1) rfl
    have b00 := b0 0 _ rfl
    have b01 := b0 1 _ rfl
    have bl := hD.lt_of (i := 1) rfl rfl
    have HY := Lib.hid hD
    clear hD b0
    by_cases hlt : (j : Int) < lim
    · have hj5 : j < 5 := by omega
      go_wp2_with fail
      refine (below_dr 5 HY (by omega) (by omega)).mono ?_
      rintro e' w6 ⟨x, rfl, ⟨y0, y1⟩, hd⟩
      have HY2 := Lib.hid hd
      clear hd HY b00 b01
      go_wp2_with (at_builtin; obtain ⟨hy, ci, cx, ca, cb, hS⟩ := HY2.out; refine wpList_app1 rfl (.tmp 20) (.tmp 23) 24 rfl x Tryd.underlying24 hi hz0 hz1 hz2 ((hS.alloc _ _).drop 0) (i := 1) rfl rfl rfl (by simp) (by omega) ?_; intro V' c' w3 hS3; have HD3 := Lib.hid (show Dr w v len (w.heap.size + 1) w3 _ from ⟨hy, ci, cx, ca, cb, hS3⟩); clear hS hS3 HY2 hy cb ca)
      go_roundw
      case rel => exact ⟨j + 1, V', c', us ++ [x], by go_num, by omega, rfl, HD3.out⟩
      case measure => simp [intOf]; omega
    · skip
      have hne : ¬ w.heap.size = w2.heap.size := by omega
      have hne2 : ¬ w2.heap.size = w.heap.size := by omega
      by_cases h0 : j = 0
      · subst h0
        clear b00 b01
        obtain ⟨r1, rf⟩ := HY.out.rest.box (i := 3) rfl
        have r10 := r1 0 _ rfl
        have r11 := r1 1 _ rfl
        have rf0 := rf 0
        have rf1 := rf 1
        obtain ⟨b0, -⟩ := HY.out.rest.box (i := 1) rfl
        have b00 := b0 0 _ rfl
        have b01 := b0 1 _ rfl
        clear r1 rf b0
        go_wp2
        obtain ⟨hy, ci, cx, ca, cb, hS⟩ := HY.out
        have hZ := (hS.store (i := 4) rfl 0 (.int .i64 n)).store (i := 4) rfl 1 (.slice A p c)
        have hlu : (us).length = 0 := OwnN.len (hZ.own (i := 1) rfl)
        have hlx : xs.length = p := OwnN.len (hZ.own (i := 3) rfl)
        exact bodyPost_ret (v := .tuple #[.agg #[.int .i64 n, .slice A p c], .slice U 0 d]) (by simp [results, Tryd.results29, go_sem, r10, r11, rf0, rf1, hne, hne2]) rfl ⟨_, n, xs, U, d, us, by rw [hlu], by rw [hlu]; exact hj, ⟨A, c, by rw [hlx], by rw [hlx]; exact hZ.ownI (i := 3) rfl, HX.out⟩, by rw [hlu]; exact hZ.ownI (i := 1) rfl, hZ.base⟩
      · have h0i : (0 : Int) < (j : Int) := by omega
        obtain ⟨g, cap, hV, -⟩ := World.ownsRow.form (HY.out.rest.own (i := 0) rfl) (by show 0 < j; omega)
        injection hV with hV1 hV2 hV3
        subst hV1 hV3
        clear hV2
        go_wp2_with fail
        refine (once_dr 8 HY (by omega) (by omega)).mono ?_
        rintro e' w5 ⟨bb, rfl, hd⟩
        have HQ := Lib.hid hd
        clear hd b00 b01 HY
        cases bb
        · have hg1 : ¬ g = w.heap.size := HQ.out.rest.apart (i := 0) (j := 3) rfl rfl (by omega) rfl rfl
          have hg2 : ¬ w.heap.size = g := fun e => hg1 e.symm
          have hg3 : ¬ g = w2.heap.size := HQ.out.rest.apart (i := 0) (j := 1) rfl rfl (by omega) rfl rfl
          have hg4 : ¬ w2.heap.size = g := fun e => hg3 e.symm
          obtain ⟨r1, rf⟩ := HQ.out.rest.box (i := 3) rfl
          have r10 := r1 0 _ rfl
          have r11 := r1 1 _ rfl
          have rf0 := rf 0
          have rf1 := rf 1
          obtain ⟨b0, -⟩ := HQ.out.rest.box (i := 1) rfl
          have b00 := b0 0 _ rfl
          have b01 := b0 1 _ rfl
          clear r1 rf b0
          go_wp2
          obtain ⟨hy, ci, cx, ca, cb, hS⟩ := HQ.out
          have hZ := (hS.store (i := 4) rfl 0 (.int .i64 n)).store (i := 4) rfl 1 (.slice A p c)
          have hlu : (us).length = j := OwnN.len (hZ.own (i := 1) rfl)
          have hlx : xs.length = p := OwnN.len (hZ.own (i := 3) rfl)
          exact bodyPost_ret (v := .tuple #[.agg #[.int .i64 n, .slice A p c], .slice (some ⟨g, 0, none⟩) j d]) (by simp [results, Tryd.results29, go_sem, r10, r11, rf0, rf1, hne, hne2, hg1, hg2, hg3, hg4]) rfl ⟨_, n, xs, some ⟨g, 0, none⟩, d, us, by rw [hlu], by rw [hlu]; exact hj, ⟨A, c, by rw [hlx], by rw [hlx]; exact hZ.ownI (i := 3) rfl, HX.out⟩, by rw [hlu]; exact hZ.ownI (i := 1) rfl, hZ.base⟩
        · go_wp2_with fail
          refine (pick_dr w5.heap.size 3 3 [1000, 1001, -9223372036854775808] (Lib.hid (HQ.out.lits 3 [1000, 1001, -9223372036854775808] rfl (by omega))) (by omega) (by omega)).mono ?_
          rintro e' w6 ⟨x, rfl, hx, hd⟩
          obtain ⟨c1, c2⟩ := hd.rest.cellI (i := 0) rfl (j := 0) (by omega)
          have hg1 : ¬ g = w.heap.size := hd.rest.apart (i := 0) (j := 3) rfl rfl (by omega) rfl rfl
          have hg2 : ¬ w.heap.size = g := fun e => hg1 e.symm
          have hg3 : ¬ g = w2.heap.size := hd.rest.apart (i := 0) (j := 1) rfl rfl (by omega) rfl rfl
          have hg4 : ¬ w2.heap.size = g := fun e => hg3 e.symm
          have HR := Lib.hid hd
          clear hd hx HQ
          obtain ⟨r1, rf⟩ := HR.out.rest.box (i := 3) rfl
          have r10 := r1 0 _ rfl
          have r11 := r1 1 _ rfl
          have rf0 := rf 0
          have rf1 := rf 1
          obtain ⟨b0, -⟩ := HR.out.rest.box (i := 1) rfl
          have b00 := b0 0 _ rfl
          have b01 := b0 1 _ rfl
          clear r1 rf b0
          go_wp2
          obtain ⟨hy, ci, cx, ca, cb, hS⟩ := HR.out
          have hZ := ((hS.setI (i := 1) rfl 0 x).store (i := 4) rfl 0 (.int .i64 n)).store (i := 4) rfl 1 (.slice A p c)
          have hlu : (us.set 0 x).length = j := OwnN.len (hZ.own (i := 1) rfl)
          have hlx : xs.length = p := OwnN.len (hZ.own (i := 3) rfl)
          exact bodyPost_ret (v := .tuple #[.agg #[.int .i64 n, .slice A p c], .slice (some ⟨g, 0, none⟩) j d]) (by simp [results, Tryd.results29, go_sem, r10, r11, rf0, rf1, hne, hne2, hg1, hg2, hg3, hg4]) rfl ⟨_, n, xs, some ⟨g, 0, none⟩, d, us.set 0 x, by rw [hlu], by rw [hlu]; exact hj, ⟨A, c, by rw [hlx], by rw [hlx]; exact hZ.ownI (i := 3) rfl, HX.out⟩, by rw [hlu]; exact hZ.ownI (i := 1) rfl, hZ.base⟩

end


end Go.Proofs.YtfpoiiennlhphaaDoor.C
