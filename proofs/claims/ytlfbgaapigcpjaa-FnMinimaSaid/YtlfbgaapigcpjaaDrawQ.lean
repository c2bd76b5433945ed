/-
  The contracts of the draws of chapter 10.
-/
import Derived.Test.YtlfbgaapigcpjaaDrA
import Derived.Test.YtlfbgaapigcpjaaMiA
namespace Go.Proofs.Ytlfbgaapigcpjaa.C
open Go.RowKit M K
set_option linter.unusedVariables false
set_option linter.unusedSimpArgs false

/-- A new list, not too long. -/
def GotL (w : World) (e : Ending) (w' : World) : Prop := ∃ A c xs, e = .returned (.slice A xs.length c) ∧ xs.length ≤ 1048576 ∧ Own w' w.heap.size (.slice A xs.length c) xs ∧ Below w.heap.size w w'


section

variable {v : Value} {len : Nat} {w : World} (hl : len ≤ 1048576) (hy : Hid (Bytes w.heap.size w v len))
include hl hy
set_option maxRecDepth 100000 in
set_option maxHeartbeats 4000000 in
theorem minz_got : Calls Try.prog 16 #[v] w (GotF w) := by
  have HW := Lib.hid (St.start w)
  go_enter Try.func16, Try.ntmps16
  go_wp2_with fail
  refine (new_st (HW.out.alloc [.int .i64 0, .slice none 0 0] 26) hy.out hl).mono ?_
  rintro e w1 ⟨rfl, hd⟩
  have HD := Lib.hid hd
  simp only [World.size_alloc] at HD
  clear hd
  go_wp2_with fail
  refine (any_dr HD).mono ?_
  rintro e w2 ⟨n, A, c, xs, rfl, hx, hd⟩
  have HX := Lib.hid hx
  obtain ⟨r1, rf⟩ := hd.rest.box (i := 1) rfl
  have r10 := r1 0 _ rfl
  have r11 := r1 1 _ rfl
  have rf0 := rf 0
  have rf1 := rf 1
  have HD2 := Lib.hid hd
  clear hd hx HD r1 rf
  go_wp2
  obtain ⟨hy, ci, cx, ca, cb, hS⟩ := HD2.out
  have hZ := (hS.store (i := 2) rfl 0 (.int .i64 n)).store (i := 2) rfl 1 (.slice A xs.length c)
  exact bodyPost_ret (v := .agg #[.int .i64 n, .slice A xs.length c]) (by simp [results, Try.results16, go_sem, r10, r11, rf0, rf1]) rfl ⟨_, n, xs, rfl, ⟨A, c, rfl, hZ.ownI (i := 1) rfl, HX.out⟩, hZ.base⟩

set_option maxRecDepth 100000 in
set_option maxHeartbeats 8000000 in
theorem latd_got : Calls Try.prog 24 #[v] w (GotL w) := by
  have HW := Lib.hid (St.start w)
  obtain ⟨i0, hi, hz0, hz1, hz2⟩ := info_parts info_int
  go_enter Try.func24, Try.ntmps24
  go_wp2_with fail
  refine (new_st HW.out hy.out hl).mono ?_
  rintro e w1 ⟨rfl, hd⟩
  have HD := Lib.hid hd
  clear hd
  go_wp2_with fail
  refine (any_dr HD).mono ?_
  rintro e w2 ⟨n, A, c, xs, rfl, hx, hd⟩
  have hml := minimizers_le n xs
  have HX := Lib.hid (fun W h1 => minsS_any n A xs c W (Lib.hid h1))
  have HD2 := Lib.hid hd
  clear hd hx HD
  generalize (minimizers n xs).1 = ls at *
  generalize (minimizers n xs).2 = b at *
  go_wp2_with fail
  refine (HX.out _ (HD2.out.rest.ints (i := 0) rfl)).mono ?_
  rintro e w3 ⟨V, d, rfl, ho, hb⟩
  have HD3 := Lib.hid (HD2.out.newI hb ho)
  clear ho hb HD2 HX
  cases b
  · go_wp2_with fail
    refine (below_dr 5 (Lib.hid HD3.out.empty) (by omega) (by omega)).mono ?_
    rintro e w5 ⟨x, rfl, ⟨x0, x1⟩, hd⟩
    obtain ⟨q, rfl⟩ := Int.eq_ofNat_of_zero_le x0
    have hq4 : q ≤ 4 := by omega
    have HD5 := Lib.hid hd
    clear hd x0 x1
    go_wp2
    go_loopw [6, 7] (fun a i wr => ∃ (j k : Nat) (U : Option Addr) (d' : Nat) (us : List Int), i = .int .i64 k ∧ j + k ≤ 4 ∧ a = .slice U j d' ∧ a ≠ .slice none 0 0 ∧ Dr w v len w.heap.size wr (il (.slice U j d') j us :: [il (.slice V ls.length d) ls.length ls, il (.slice A xs.length c) xs.length xs])) (fun _ i _ => (intOf i).toNat)
    case atStart => exact ⟨0, q, _, _, [], rfl, by omega, rfl, by simp, HD5.out⟩
    case round =>
      obtain ⟨j, k, U, d', us, rfl, hjk, rfl, hne, hD⟩ := hrel
      have HY := Lib.hid hD
      have HNE := Lib.hid hne
      clear hD hne
      by_cases hk : k = 0
      · subst hk
        have g1 : ¬ (0 : Int) < ((0 : Nat) : Int) := by decide
        go_wp2
        go_ret
        have hlen : us.length = j := OwnN.len (HY.out.rest.own (i := 0) rfl)
        exact ⟨U, d', us, by rw [hlen]; rfl, by omega, by rw [hlen]; exact HY.out.rest.ownI (i := 0) rfl, HY.out.base⟩
      · obtain ⟨p, rfl⟩ : ∃ p, k = p + 1 := ⟨k - 1, by omega⟩
        have g1 : (0 : Int) < ((p + 1 : Nat) : Int) := by omega
        have g2 : ((p + 1 : Nat) : Int) - 1 = (p : Int) := by omega
        go_wp2_with fail
        refine (below_dr 9 HY (by omega) (by omega)).mono ?_
        rintro e' w6 ⟨x, rfl, ⟨y0, y1⟩, hd⟩
        have HY2 := Lib.hid hd
        have hx4 : IntKind.i64.wrap (x - 1) = x - 1 := IntWalk.i64_in _ (by omega)
        clear hd HY
        go_wp2_with (at_builtin; obtain ⟨hy, ci, cx, ca, cb, hS⟩ := HY2.out; refine wpList_app1 rfl (.tmp 30) (.tmp 34) 24 rfl (x - 1) Try.underlying24 hi hz0 hz1 hz2 ((hS.alloc _ _).drop 0) (i := 1) rfl rfl rfl (by simp [hx4]) (by omega) ?_; intro V' c' w7 hS3; have HD7 := Lib.hid (show Dr w v len w.heap.size w7 _ from ⟨hy, ci, cx, ca, cb, hS3⟩); clear hS hS3 HY2 hy cb ca)
        go_roundw
        case rel => exact ⟨j + 1, p, V', c', us ++ [x - 1], by go_num, by omega, rfl, by simp, HD7.out⟩
        case measure => simp [intOf]
  · go_wp2_with fail
    refine (once_dr 4 HD3 (by omega) (by omega)).mono ?_
    rintro e w4 ⟨t, rfl, hd⟩
    have HD4 := Lib.hid hd
    clear hd HD3
    cases t
    · go_wp2
      go_ret
      exact ⟨V, d, ls, rfl, hml, HD4.out.rest.ownI (i := 0) rfl, HD4.out.base⟩
    · go_wp2_with fail
      refine (below_dr 5 (Lib.hid HD4.out.empty) (by omega) (by omega)).mono ?_
      rintro e w5 ⟨x, rfl, ⟨x0, x1⟩, hd⟩
      obtain ⟨q, rfl⟩ := Int.eq_ofNat_of_zero_le x0
      have hq4 : q ≤ 4 := by omega
      have HD5 := Lib.hid hd
      clear hd x0 x1
      go_wp2
      go_loopw [6, 7] (fun a i wr => ∃ (j k : Nat) (U : Option Addr) (d' : Nat) (us : List Int), i = .int .i64 k ∧ j + k ≤ 4 ∧ a = .slice U j d' ∧ a ≠ .slice none 0 0 ∧ Dr w v len w.heap.size wr (il (.slice U j d') j us :: [il (.slice V ls.length d) ls.length ls, il (.slice A xs.length c) xs.length xs])) (fun _ i _ => (intOf i).toNat)
      case atStart => exact ⟨0, q, _, _, [], rfl, by omega, rfl, by simp, HD5.out⟩
      case round =>
        obtain ⟨j, k, U, d', us, rfl, hjk, rfl, hne, hD⟩ := hrel
        have HY := Lib.hid hD
        have HNE := Lib.hid hne
        clear hD hne
        by_cases hk : k = 0
        · subst hk
          have g1 : ¬ (0 : Int) < ((0 : Nat) : Int) := by decide
          go_wp2
          go_ret
          have hlen : us.length = j := OwnN.len (HY.out.rest.own (i := 0) rfl)
          exact ⟨U, d', us, by rw [hlen]; rfl, by omega, by rw [hlen]; exact HY.out.rest.ownI (i := 0) rfl, HY.out.base⟩
        · obtain ⟨p, rfl⟩ : ∃ p, k = p + 1 := ⟨k - 1, by omega⟩
          have g1 : (0 : Int) < ((p + 1 : Nat) : Int) := by omega
          have g2 : ((p + 1 : Nat) : Int) - 1 = (p : Int) := by omega
          go_wp2_with fail
          refine (below_dr 9 HY (by omega) (by omega)).mono ?_
          rintro e' w6 ⟨x, rfl, ⟨y0, y1⟩, hd⟩
          have HY2 := Lib.hid hd
          have hx4 : IntKind.i64.wrap (x - 1) = x - 1 := IntWalk.i64_in _ (by omega)
          clear hd HY
          go_wp2_with (at_builtin; obtain ⟨hy, ci, cx, ca, cb, hS⟩ := HY2.out; refine wpList_app1 rfl (.tmp 30) (.tmp 34) 24 rfl (x - 1) Try.underlying24 hi hz0 hz1 hz2 ((hS.alloc _ _).drop 0) (i := 1) rfl rfl rfl (by simp [hx4]) (by omega) ?_; intro V' c' w7 hS3; have HD7 := Lib.hid (show Dr w v len w.heap.size w7 _ from ⟨hy, ci, cx, ca, cb, hS3⟩); clear hS hS3 HY2 hy cb ca)
          go_roundw
          case rel => exact ⟨j + 1, p, V', c', us ++ [x - 1], by go_num, by omega, rfl, by simp, HD7.out⟩
          case measure => simp [intOf]


end


def isPick (y : Int) : Prop := y = 0 ∨ y = 1 ∨ y = 2 ∨ y = 4 ∨ y = 8 ∨ y = -1

set_option maxRecDepth 100000 in
set_option maxHeartbeats 8000000 in
theorem minb_got (a : Option Addr) (len cap : Nat) (w : World) (hl : len ≤ 1048576) (hy : Hid (Bytes w.heap.size w (.slice a len cap) len)) : Calls Try.prog 11 #[.slice a len cap] w (GotFII (fun x y => -1 ≤ x ∧ x ≤ 16 ∧ -1 ≤ y ∧ y ≤ 8) w) := by
  have HW := Lib.hid (St.start w)
  obtain ⟨q, hq, hq6⟩ : ∃ q : Nat, (len : Int) % 6 = (q : Int) ∧ q < 6 := ⟨len % 6, by omega, by omega⟩
  go_enter Try.func11, Try.ntmps11
  go_wp2_with fail
  refine St.use (w0 := w) (by exact HW.out.alloc _ _) ?_
  intro hS
  refine (set_got _ len _ hl (Lib.hid (hy.out.later hS.base))).mono ?_
  rintro e w1 ⟨u, n, xs, x, rfl, hx, ⟨A, c, rfl, ho, hlx⟩, hb⟩
  have hS0 := hS.newI hb ho
  have hS1 := hS0.alloc [.int .i64 n, .slice A xs.length c] 26
  obtain ⟨p1, pf⟩ := hS1.box (i := 2) rfl
  have p10 := p1 0 _ rfl
  have p11 := p1 1 _ rfl
  have pf0 := pf 0
  have pf1 := pf 1
  have hS2 := hS1.alloc [.int .i64 0, .int .i64 1, .int .i64 2, .int .i64 4, .int .i64 8, .int .i64 (-1)] 3
  obtain ⟨r1, rf⟩ := hS2.box (i := 3) rfl
  have r10 := r1 0 _ rfl
  have r11 := r1 1 _ rfl
  have rf0 := rf 0
  have rf1 := rf 1
  have hz0 := (hS.lt (i := 0) rfl).2
  have hz1 := hb.size
  have hne : ¬ w.heap.size = w1.heap.size := by omega
  have hne2 : ¬ w1.heap.size = w.heap.size := by omega
  have hne3 : ¬ w.heap.size = w1.heap.size + 1 := by omega
  have hne4 : ¬ w1.heap.size + 1 = w.heap.size := by omega
  have HS1 := Lib.hid hS1
  have HS2 := Lib.hid hS2
  have HX := Lib.hid hx
  have htm : (len : Int).tmod 6 = (q : Int) := by rw [Int.tmod_eq_emod_of_nonneg (by omega)]; exact hq
  clear hS hS0 hS1 hS2 hb ho r1 rf hx p1 pf
  have hq' : q = 0 ∨ q = 1 ∨ q = 2 ∨ q = 3 ∨ q = 4 ∨ q = 5 := by omega
  clear hq6
  rcases hq' with rfl | rfl | rfl | rfl | rfl | rfl
  · go_wp2
    go_region
    · have hZ := (((HS1.out.store (i := 2) rfl 0 (.int .i64 n)).store (i := 2) rfl 1 (.slice A xs.length c)).alloc [.int .i64 0, .int .i64 1, .int .i64 2, .int .i64 4, .int .i64 8, .int .i64 (-1)] 3).drew
      obtain ⟨z1, -⟩ := hZ.box (i := 3) rfl
      have z10 := z1 0 _ rfl
      have z11 := z1 1 _ rfl
      have HZ := Lib.hid hZ
      clear z1 hZ p10 p11 pf0 pf1 r10 r11 rf0 rf1
      go_wp2
      exact bodyPost_ret (v := .tuple #[.agg #[.int .i64 n, .slice A xs.length c], .int .i64 x, .int .i64 (0)]) (by simp [results, Try.results11, go_sem, z10, z11]) rfl ⟨_, n, xs, x, (0), rfl, by have := HX.out; omega, ⟨A, c, rfl, HZ.out.ownI (i := 2) rfl, hlx⟩, HZ.out.base⟩
    · have hZ := ((HS2.out.store (i := 3) rfl 0 (.int .i64 n)).store (i := 3) rfl 1 (.slice A xs.length c)).drew
      obtain ⟨z1, -⟩ := hZ.box (i := 3) rfl
      have z10 := z1 0 _ rfl
      have z11 := z1 1 _ rfl
      have HZ := Lib.hid hZ
      clear z1 hZ p10 p11 pf0 pf1 r10 r11 rf0 rf1
      go_wp2
      exact bodyPost_ret (v := .tuple #[.agg #[.int .i64 n, .slice A xs.length c], .int .i64 x, .int .i64 (0)]) (by simp [results, Try.results11, go_sem, z10, z11]) rfl ⟨_, n, xs, x, (0), rfl, by have := HX.out; omega, ⟨A, c, rfl, HZ.out.ownI (i := 2) rfl, hlx⟩, HZ.out.base⟩
  · go_wp2
    go_region
    · have hZ := (((HS1.out.store (i := 2) rfl 0 (.int .i64 n)).store (i := 2) rfl 1 (.slice A xs.length c)).alloc [.int .i64 0, .int .i64 1, .int .i64 2, .int .i64 4, .int .i64 8, .int .i64 (-1)] 3).drew
      obtain ⟨z1, -⟩ := hZ.box (i := 3) rfl
      have z10 := z1 0 _ rfl
      have z11 := z1 1 _ rfl
      have HZ := Lib.hid hZ
      clear z1 hZ p10 p11 pf0 pf1 r10 r11 rf0 rf1
      go_wp2
      exact bodyPost_ret (v := .tuple #[.agg #[.int .i64 n, .slice A xs.length c], .int .i64 x, .int .i64 (1)]) (by simp [results, Try.results11, go_sem, z10, z11]) rfl ⟨_, n, xs, x, (1), rfl, by have := HX.out; omega, ⟨A, c, rfl, HZ.out.ownI (i := 2) rfl, hlx⟩, HZ.out.base⟩
    · have hZ := ((HS2.out.store (i := 3) rfl 0 (.int .i64 n)).store (i := 3) rfl 1 (.slice A xs.length c)).drew
      obtain ⟨z1, -⟩ := hZ.box (i := 3) rfl
      have z10 := z1 0 _ rfl
      have z11 := z1 1 _ rfl
      have HZ := Lib.hid hZ
      clear z1 hZ p10 p11 pf0 pf1 r10 r11 rf0 rf1
      go_wp2
      exact bodyPost_ret (v := .tuple #[.agg #[.int .i64 n, .slice A xs.length c], .int .i64 x, .int .i64 (1)]) (by simp [results, Try.results11, go_sem, z10, z11]) rfl ⟨_, n, xs, x, (1), rfl, by have := HX.out; omega, ⟨A, c, rfl, HZ.out.ownI (i := 2) rfl, hlx⟩, HZ.out.base⟩
  · go_wp2
    go_region
    · have hZ := (((HS1.out.store (i := 2) rfl 0 (.int .i64 n)).store (i := 2) rfl 1 (.slice A xs.length c)).alloc [.int .i64 0, .int .i64 1, .int .i64 2, .int .i64 4, .int .i64 8, .int .i64 (-1)] 3).drew
      obtain ⟨z1, -⟩ := hZ.box (i := 3) rfl
      have z10 := z1 0 _ rfl
      have z11 := z1 1 _ rfl
      have HZ := Lib.hid hZ
      clear z1 hZ p10 p11 pf0 pf1 r10 r11 rf0 rf1
      go_wp2
      exact bodyPost_ret (v := .tuple #[.agg #[.int .i64 n, .slice A xs.length c], .int .i64 x, .int .i64 (2)]) (by simp [results, Try.results11, go_sem, z10, z11]) rfl ⟨_, n, xs, x, (2), rfl, by have := HX.out; omega, ⟨A, c, rfl, HZ.out.ownI (i := 2) rfl, hlx⟩, HZ.out.base⟩
    · have hZ := ((HS2.out.store (i := 3) rfl 0 (.int .i64 n)).store (i := 3) rfl 1 (.slice A xs.length c)).drew
      obtain ⟨z1, -⟩ := hZ.box (i := 3) rfl
      have z10 := z1 0 _ rfl
      have z11 := z1 1 _ rfl
      have HZ := Lib.hid hZ
      clear z1 hZ p10 p11 pf0 pf1 r10 r11 rf0 rf1
      go_wp2
      exact bodyPost_ret (v := .tuple #[.agg #[.int .i64 n, .slice A xs.length c], .int .i64 x, .int .i64 (2)]) (by simp [results, Try.results11, go_sem, z10, z11]) rfl ⟨_, n, xs, x, (2), rfl, by have := HX.out; omega, ⟨A, c, rfl, HZ.out.ownI (i := 2) rfl, hlx⟩, HZ.out.base⟩
  · go_wp2
    go_region
    · have hZ := (((HS1.out.store (i := 2) rfl 0 (.int .i64 n)).store (i := 2) rfl 1 (.slice A xs.length c)).alloc [.int .i64 0, .int .i64 1, .int .i64 2, .int .i64 4, .int .i64 8, .int .i64 (-1)] 3).drew
      obtain ⟨z1, -⟩ := hZ.box (i := 3) rfl
      have z10 := z1 0 _ rfl
      have z11 := z1 1 _ rfl
      have HZ := Lib.hid hZ
      clear z1 hZ p10 p11 pf0 pf1 r10 r11 rf0 rf1
      go_wp2
      exact bodyPost_ret (v := .tuple #[.agg #[.int .i64 n, .slice A xs.length c], .int .i64 x, .int .i64 (4)]) (by simp [results, Try.results11, go_sem, z10, z11]) rfl ⟨_, n, xs, x, (4), rfl, by have := HX.out; omega, ⟨A, c, rfl, HZ.out.ownI (i := 2) rfl, hlx⟩, HZ.out.base⟩
    · have hZ := ((HS2.out.store (i := 3) rfl 0 (.int .i64 n)).store (i := 3) rfl 1 (.slice A xs.length c)).drew
      obtain ⟨z1, -⟩ := hZ.box (i := 3) rfl
      have z10 := z1 0 _ rfl
      have z11 := z1 1 _ rfl
      have HZ := Lib.hid hZ
      clear z1 hZ p10 p11 pf0 pf1 r10 r11 rf0 rf1
      go_wp2
      exact bodyPost_ret (v := .tuple #[.agg #[.int .i64 n, .slice A xs.length c], .int .i64 x, .int .i64 (4)]) (by simp [results, Try.results11, go_sem, z10, z11]) rfl ⟨_, n, xs, x, (4), rfl, by have := HX.out; omega, ⟨A, c, rfl, HZ.out.ownI (i := 2) rfl, hlx⟩, HZ.out.base⟩
  · go_wp2
    go_region
    · have hZ := (((HS1.out.store (i := 2) rfl 0 (.int .i64 n)).store (i := 2) rfl 1 (.slice A xs.length c)).alloc [.int .i64 0, .int .i64 1, .int .i64 2, .int .i64 4, .int .i64 8, .int .i64 (-1)] 3).drew
      obtain ⟨z1, -⟩ := hZ.box (i := 3) rfl
      have z10 := z1 0 _ rfl
      have z11 := z1 1 _ rfl
      have HZ := Lib.hid hZ
      clear z1 hZ p10 p11 pf0 pf1 r10 r11 rf0 rf1
      go_wp2
      exact bodyPost_ret (v := .tuple #[.agg #[.int .i64 n, .slice A xs.length c], .int .i64 x, .int .i64 (8)]) (by simp [results, Try.results11, go_sem, z10, z11]) rfl ⟨_, n, xs, x, (8), rfl, by have := HX.out; omega, ⟨A, c, rfl, HZ.out.ownI (i := 2) rfl, hlx⟩, HZ.out.base⟩
    · have hZ := ((HS2.out.store (i := 3) rfl 0 (.int .i64 n)).store (i := 3) rfl 1 (.slice A xs.length c)).drew
      obtain ⟨z1, -⟩ := hZ.box (i := 3) rfl
      have z10 := z1 0 _ rfl
      have z11 := z1 1 _ rfl
      have HZ := Lib.hid hZ
      clear z1 hZ p10 p11 pf0 pf1 r10 r11 rf0 rf1
      go_wp2
      exact bodyPost_ret (v := .tuple #[.agg #[.int .i64 n, .slice A xs.length c], .int .i64 x, .int .i64 (8)]) (by simp [results, Try.results11, go_sem, z10, z11]) rfl ⟨_, n, xs, x, (8), rfl, by have := HX.out; omega, ⟨A, c, rfl, HZ.out.ownI (i := 2) rfl, hlx⟩, HZ.out.base⟩
  · go_wp2
    go_region
    · have hZ := (((HS1.out.store (i := 2) rfl 0 (.int .i64 n)).store (i := 2) rfl 1 (.slice A xs.length c)).alloc [.int .i64 0, .int .i64 1, .int .i64 2, .int .i64 4, .int .i64 8, .int .i64 (-1)] 3).drew
      obtain ⟨z1, -⟩ := hZ.box (i := 3) rfl
      have z10 := z1 0 _ rfl
      have z11 := z1 1 _ rfl
      have HZ := Lib.hid hZ
      clear z1 hZ p10 p11 pf0 pf1 r10 r11 rf0 rf1
      go_wp2
      exact bodyPost_ret (v := .tuple #[.agg #[.int .i64 n, .slice A xs.length c], .int .i64 x, .int .i64 (-1)]) (by simp [results, Try.results11, go_sem, z10, z11]) rfl ⟨_, n, xs, x, (-1), rfl, by have := HX.out; omega, ⟨A, c, rfl, HZ.out.ownI (i := 2) rfl, hlx⟩, HZ.out.base⟩
    · have hZ := ((HS2.out.store (i := 3) rfl 0 (.int .i64 n)).store (i := 3) rfl 1 (.slice A xs.length c)).drew
      obtain ⟨z1, -⟩ := hZ.box (i := 3) rfl
      have z10 := z1 0 _ rfl
      have z11 := z1 1 _ rfl
      have HZ := Lib.hid hZ
      clear z1 hZ p10 p11 pf0 pf1 r10 r11 rf0 rf1
      go_wp2
      exact bodyPost_ret (v := .tuple #[.agg #[.int .i64 n, .slice A xs.length c], .int .i64 x, .int .i64 (-1)]) (by simp [results, Try.results11, go_sem, z10, z11]) rfl ⟨_, n, xs, x, (-1), rfl, by have := HX.out; omega, ⟨A, c, rfl, HZ.out.ownI (i := 2) rfl, hlx⟩, HZ.out.base⟩

end Go.Proofs.Ytlfbgaapigcpjaa.C
