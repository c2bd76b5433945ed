/-
  The contracts of the draws of chapter 5.
-/
import Derived.Test.YtelihjanjlklpaaDoorDrawH
import Derived.StillTailTactics
namespace Go.Proofs.YtelihjanjlklpaaDoor.C
open Go.RowKit M K
set_option linter.unusedVariables false
set_option linter.unusedSimpArgs false


section

end


def GotFL (w : World) (e : Ending) (w' : World) : Prop := ∃ v n xs A c ys, e = .returned (.tuple #[v, .slice A (List.length ys) c]) ∧ ys.length ≤ 5 ∧ IsF w w' v n xs ∧ Own w' w.heap.size (.slice A (List.length ys) c) ys ∧ Below w.heap.size w w'


section

variable (v : Value) (len : Nat) (w : World) (hl : len ≤ 1048576) (hy : Hid (Bytes w.heap.size w v len))
include hl hy

set_option maxRecDepth 100000 in
set_option maxHeartbeats 4000000 in
theorem ddraw_got : Calls Tryd.prog 47 #[v] w (GotFL w) := by
  have HW := Lib.hid (St.start w)
  obtain ⟨i0, hi, hz0, hz1, hz2⟩ := info_parts info_int
  go_enter Tryd.func47, Tryd.ntmps47
  go_wp2_with fail
  refine (new_st (HW.out.alloc [.int .i64 0, .slice none 0 0] 26) hy.out hl).mono ?_
  rintro e w1 ⟨rfl, hd⟩
  have HD := Lib.hid hd
  have hz0' : w.heap.size < w1.heap.size := hd.lt_of (i := 0) rfl rfl
  simp only [World.size_alloc] at HD
  clear hd
  go_wp2_with fail
  refine (any_dr HD).mono ?_
  rintro e w2 ⟨n, A, c, xs, rfl, hx, hd⟩
  have HX := Lib.hid hx
  have hz2' : w.heap.size < w2.heap.size := hd.lt_of (i := 1) rfl rfl
  have HD2 := Lib.hid (hd.alloc [.int .i64 n, .slice A xs.length c] 26).empty
  simp only [World.size_alloc] at HD2
  obtain ⟨p, hp⟩ : ∃ p, xs.length = p := ⟨_, rfl⟩
  have HPP := Lib.hid hp
  rw [hp] at HD2 ⊢
  clear hd hx HD hp
  obtain ⟨lim, hlim⟩ : ∃ lim, (if n < 5 then n else 5) = lim := ⟨_, rfl⟩
  have hlim5 : lim ≤ 5 := by rw [← hlim]; split <;> omega
  go_wp2
  go_loopw [6, 7] (fun a i wr => ∃ (j : Nat) (U : Option Addr) (d : Nat) (us : List Int), i = .int .i64 j ∧ j ≤ 5 ∧ a = .slice U j d ∧ Dr w v len (w.heap.size + 1) wr (il (.slice U j d) j us :: bx w2.heap.size 26 [.int .i64 n, .slice A p c] :: il (.slice A p c) p xs :: bx w.heap.size 26 [.int .i64 0, .slice none 0 0] :: [])) (fun _ i _ => 5 - (intOf i).toNat)
  case atStart => exact ⟨0, _, _, [], rfl, Nat.zero_le _, rfl, HD2.out⟩
  case round =>
    obtain ⟨j, U, d, us, rfl, hj, rfl, hD⟩ := hrel
    obtain ⟨b0, -⟩ := hD.rest.box (i := 1) rfl
    have b00 := b0 0 _ rfl
    have b01 := b0 1 _ rfl
    have bl := hD.lt_of (i := 1) rfl rfl
    have HY := Lib.hid hD
    clear hD b0
    by_cases hlt : (j : Int) < lim
    · have hj5 : j < 5 := by omega
      go_wp2_with fail
      refine (below_dr 5 HY (by omega) (by omega)).mono ?_
      rintro e' w6 ⟨x, rfl, ⟨y0, y1⟩, hd⟩
      have HY2 := Lib.hid hd
      clear hd HY b00 b01
      go_wp2_with (at_builtin; obtain ⟨hy, ci, cx, ca, cb, hS⟩ := HY2.out; refine wpList_app1 rfl (.tmp 20) (.tmp 23) 24 rfl x Tryd.underlying24 hi hz0 hz1 hz2 ((hS.alloc _ _).drop 0) (i := 1) rfl rfl rfl (by simp) (by omega) ?_; intro V' c' w3 hS3; have HD3 := Lib.hid (show Dr w v len (w.heap.size + 1) w3 _ from ⟨hy, ci, cx, ca, cb, hS3⟩); clear hS hS3 HY2 hy cb ca)
      go_roundw
      case rel => exact ⟨j + 1, V', c', us ++ [x], by go_num, by omega, rfl, HD3.out⟩
      case measure => simp [intOf]; omega
    · skip
      have hne : ¬ w.heap.size = w2.heap.size := by omega
      have hne2 : ¬ w2.heap.size = w.heap.size := by omega
      by_cases h0 : j = 0
      · subst h0
        clear b00 b01
        obtain ⟨r1, rf⟩ := HY.out.rest.box (i := 3) rfl
        have r10 := r1 0 _ rfl
        have r11 := r1 1 _ rfl
        have rf0 := rf 0
        have rf1 := rf 1
        obtain ⟨b0, -⟩ := HY.out.rest.box (i := 1) rfl
        have b00 := b0 0 _ rfl
        have b01 := b0 1 _ rfl
        clear r1 rf b0
        go_wp2
        obtain ⟨hy, ci, cx, ca, cb, hS⟩ := HY.out
        have hZ := (hS.store (i := 4) rfl 0 (.int .i64 n)).store (i := 4) rfl 1 (.slice A p c)
        have hlu : (us).length = 0 := OwnN.len (hZ.own (i := 1) rfl)
        have hlx : xs.length = p := OwnN.len (hZ.own (i := 3) rfl)
        exact bodyPost_ret (v := .tuple #[.agg #[.int .i64 n, .slice A p c], .slice U 0 d]) (by simp [results, Tryd.results47, go_sem, r10, r11, rf0, rf1, hne, hne2]) rfl ⟨_, n, xs, U, d, us, by rw [hlu], by rw [hlu]; exact hj, ⟨A, c, by rw [hlx], by rw [hlx]; exact hZ.ownI (i := 3) rfl, HX.out⟩, by rw [hlu]; exact hZ.ownI (i := 1) rfl, hZ.base⟩
      · have h0i : (0 : Int) < (j : Int) := by omega
        obtain ⟨g, cap, hV, -⟩ := World.ownsRow.form (HY.out.rest.own (i := 0) rfl) (by show 0 < j; omega)
        injection hV with hV1 hV2 hV3
        subst hV1 hV3
        clear hV2
        go_wp2_with fail
        refine (once_dr 8 HY (by omega) (by omega)).mono ?_
        rintro e' w5 ⟨bb, rfl, hd⟩
        have HQ := Lib.hid hd
        clear hd b00 b01 HY
        cases bb
        · have hg1 : ¬ g = w.heap.size := HQ.out.rest.apart (i := 0) (j := 3) rfl rfl (by omega) rfl rfl
          have hg2 : ¬ w.heap.size = g := fun e => hg1 e.symm
          have hg3 : ¬ g = w2.heap.size := HQ.out.rest.apart (i := 0) (j := 1) rfl rfl (by omega) rfl rfl
          have hg4 : ¬ w2.heap.size = g := fun e => hg3 e.symm
          obtain ⟨r1, rf⟩ := HQ.out.rest.box (i := 3) rfl
          have r10 := r1 0 _ rfl
          have r11 := r1 1 _ rfl
          have rf0 := rf 0
          have rf1 := rf 1
          obtain ⟨b0, -⟩ := HQ.out.rest.box (i := 1) rfl
          have b00 := b0 0 _ rfl
          have b01 := b0 1 _ rfl
          clear r1 rf b0
          go_wp2
          obtain ⟨hy, ci, cx, ca, cb, hS⟩ := HQ.out
          have hZ := (hS.store (i := 4) rfl 0 (.int .i64 n)).store (i := 4) rfl 1 (.slice A p c)
          have hlu : (us).length = j := OwnN.len (hZ.own (i := 1) rfl)
          have hlx : xs.length = p := OwnN.len (hZ.own (i := 3) rfl)
          exact bodyPost_ret (v := .tuple #[.agg #[.int .i64 n, .slice A p c], .slice (some ⟨g, 0, none⟩) j d]) (by simp [results, Tryd.results47, go_sem, r10, r11, rf0, rf1, hne, hne2, hg1, hg2, hg3, hg4]) rfl ⟨_, n, xs, some ⟨g, 0, none⟩, d, us, by rw [hlu], by rw [hlu]; exact hj, ⟨A, c, by rw [hlx], by rw [hlx]; exact hZ.ownI (i := 3) rfl, HX.out⟩, by rw [hlu]; exact hZ.ownI (i := 1) rfl, hZ.base⟩
        · go_wp2_with fail
          refine (pick_dr w5.heap.size 3 3 [1000, 1001, -9223372036854775808] (Lib.hid (HQ.out.lits 3 [1000, 1001, -9223372036854775808] rfl (by omega))) (by omega) (by omega)).mono ?_
          rintro e' w6 ⟨x, rfl, hx, hd⟩
          obtain ⟨c1, c2⟩ := hd.rest.cellI (i := 0) rfl (j := 0) (by omega)
          have hg1 : ¬ g = w.heap.size := hd.rest.apart (i := 0) (j := 3) rfl rfl (by omega) rfl rfl
          have hg2 : ¬ w.heap.size = g := fun e => hg1 e.symm
          have hg3 : ¬ g = w2.heap.size := hd.rest.apart (i := 0) (j := 1) rfl rfl (by omega) rfl rfl
          have hg4 : ¬ w2.heap.size = g := fun e => hg3 e.symm
          have HR := Lib.hid hd
          clear hd hx HQ
          obtain ⟨r1, rf⟩ := HR.out.rest.box (i := 3) rfl
          have r10 := r1 0 _ rfl
          have r11 := r1 1 _ rfl
          have rf0 := rf 0
          have rf1 := rf 1
          obtain ⟨b0, -⟩ := HR.out.rest.box (i := 1) rfl
          have b00 := b0 0 _ rfl
          have b01 := b0 1 _ rfl
          clear r1 rf b0
          go_wp2
          obtain ⟨hy, ci, cx, ca, cb, hS⟩ := HR.out
          have hZ := ((hS.setI (i := 1) rfl 0 x).store (i := 4) rfl 0 (.int .i64 n)).store (i := 4) rfl 1 (.slice A p c)
          have hlu : (us.set 0 x).length = j := OwnN.len (hZ.own (i := 1) rfl)
          have hlx : xs.length = p := OwnN.len (hZ.own (i := 3) rfl)
          exact bodyPost_ret (v := .tuple #[.agg #[.int .i64 n, .slice A p c], .slice (some ⟨g, 0, none⟩) j d]) (by simp [results, Tryd.results47, go_sem, r10, r11, rf0, rf1, hne, hne2, hg1, hg2, hg3, hg4]) rfl ⟨_, n, xs, some ⟨g, 0, none⟩, d, us.set 0 x, by rw [hlu], by rw [hlu]; exact hj, ⟨A, c, by rw [hlx], by rw [hlx]; exact hZ.ownI (i := 3) rfl, HX.out⟩, by rw [hlu]; exact hZ.ownI (i := 1) rfl, hZ.base⟩

end


end Go.Proofs.YtelihjanjlklpaaDoor.C
