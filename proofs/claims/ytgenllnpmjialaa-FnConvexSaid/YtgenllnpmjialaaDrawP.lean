/-
  The contracts of the draws of chapter 7: a vector, a function with two vectors.
-/
import Derived.Test.YtgenllnpmjialaaDrawH
namespace Go.Proofs.Ytgenllnpmjialaa.C
open Go.RowKit M K
set_option linter.unusedVariables false
set_option linter.unusedSimpArgs false


section

variable {w0 : World} {v : Value} {len B : Nat} {L : List Cel} {w : World}
set_option maxRecDepth 100000 in
set_option maxHeartbeats 4000000 in
theorem vec_dr (n : Nat) (h : Hid (Dr w0 v len B w L)) (hn : n ≤ 5) :
    Calls Try.prog 34 #[.pointer (some ⟨B, 0, none⟩), .int .i64 n] w (DrL w0 v len B L (fun xs => xs.length = n)) := by
  obtain ⟨i0, hi, hz0, hz1, hz2⟩ := info_parts info_int
  go_enter Try.func34, Try.ntmps34
  have HD := Lib.hid h.out.empty
  go_wp2
  go_loopw [5, 6] (fun a i wr => ∃ (j : Nat) (U : Option Addr) (d : Nat) (us : List Int), i = .int .i64 j ∧ j ≤ n ∧ a = .slice U j d ∧ Dr w0 v len B wr (il (.slice U j d) j us :: L)) (fun _ i _ => n - (intOf i).toNat)
  case atStart => exact ⟨0, _, _, [], rfl, Nat.zero_le _, rfl, HD.out⟩
  case round =>
    obtain ⟨j, U, d, us, rfl, hj, rfl, hD⟩ := hrel
    have HY := Lib.hid hD
    clear hD HD
    by_cases hlt : j < n
    · have hlti : (j : Int) < (n : Int) := by omega
      go_wp2_with fail
      refine (below_dr 9 HY (by omega) (by omega)).mono ?_
      rintro e' w6 ⟨x, rfl, ⟨y0, y1⟩, hd⟩
      have HY2 := Lib.hid hd
      have hx4 : IntKind.i64.wrap (x - 4) = x - 4 := IntWalk.i64_in _ (by omega)
      clear hd HY
      go_wp2_with (at_builtin; obtain ⟨hy, ci, cx, ca, cb, hS⟩ := HY2.out; refine wpList_app1 rfl (.tmp 13) (.tmp 17) 24 rfl (x - 4) Try.underlying24 hi hz0 hz1 hz2 ((hS.alloc _ _).drop 0) (i := 1) rfl rfl rfl (by simp [hx4]) (by omega) ?_; intro V' c' w3 hS3; have HD3 := Lib.hid (show Dr w0 v len B w3 _ from ⟨hy, ci, cx, ca, cb, hS3⟩); clear hS hS3 HY2 hy cb ca)
      go_roundw
      case rel => exact ⟨j + 1, V', c', us ++ [x - 4], by go_num, by omega, rfl, HD3.out⟩
      case measure => simp [intOf]; omega
    · obtain rfl : j = n := by omega
      have hlti : ¬ (j : Int) < (j : Int) := by omega
      by_cases h0 : 0 < j
      · have h0i : (0 : Int) < (j : Int) := by omega
        obtain ⟨g, cap, hV, -⟩ := World.ownsRow.form (HY.out.rest.own (i := 0) rfl) (by show 0 < j; omega)
        injection hV with hV1 hV2 hV3
        subst hV1 hV3
        clear hV2
        go_wp2_with fail
        refine (once_dr 12 HY (by omega) (by omega)).mono ?_
        rintro e' w6 ⟨t, rfl, hd⟩
        have HY2 := Lib.hid hd
        clear hd HY
        cases t
        · go_wp2
          go_ret
          have hl : us.length = j := OwnN.len (HY2.out.rest.own (i := 0) rfl)
          exact ⟨some ⟨g, 0, none⟩, d, us, by rw [hl]; rfl, hl, by rw [hl]; exact HY2.out⟩
        · go_wp2_with fail
          refine (pick_dr w6.heap.size 4 4 [1000, 1001, 101, -9223372036854775808] (Lib.hid (HY2.out.lits 4 [1000, 1001, 101, -9223372036854775808] rfl (by omega))) (by omega) (by omega)).mono ?_
          rintro e w7 ⟨y, rfl, hy, hd⟩
          obtain ⟨c1, c2⟩ := hd.rest.cellI (i := 0) rfl h0
          have HY3 := Lib.hid hd
          clear hd HY2
          go_wp2
          go_ret
          have hl : us.length = j := OwnN.len (HY3.out.rest.own (i := 0) rfl)
          have hl2 : (us.set 0 y).length = j := by rw [List.length_set]; exact hl
          have hZ := HY3.out.map fun c hS => hS.setI (i := 1) rfl 0 y
          exact ⟨some ⟨g, 0, none⟩, d, us.set 0 y, by rw [hl2]; rfl, hl2, by rw [hl2]; exact hZ⟩
      · have h0i : ¬ (0 : Int) < (j : Int) := by omega
        go_wp2
        go_ret
        have hl : us.length = j := OwnN.len (HY.out.rest.own (i := 0) rfl)
        exact ⟨U, d, us, by rw [hl]; rfl, hl, by rw [hl]; exact HY.out⟩

end


/-- A function and two vectors of one length, all new. -/
def GotFLL (w : World) (e : Ending) (w' : World) : Prop := ∃ v n xs A c us D d ws, e = .returned (.tuple #[v, .slice A us.length c, .slice D ws.length d]) ∧ us.length ≤ 5 ∧ ws.length = us.length ∧ IsF w w' v n xs ∧ Own w' w.heap.size (.slice A us.length c) us ∧ Own w' w.heap.size (.slice D ws.length d) ws ∧ Below w.heap.size w w'


section

variable (v : Value) (len : Nat) (w : World) (hl : len ≤ 1048576) (hy : Hid (Bytes w.heap.size w v len))
include hl hy
set_option maxRecDepth 100000 in
set_option maxHeartbeats 4000000 in
theorem convex_got : Calls Try.prog 11 #[v] w (GotFLL w) := by
  have HW := Lib.hid (St.start w)
  go_enter Try.func11, Try.ntmps11
  go_wp2_with fail
  refine (new_st (HW.out.alloc [.int .i64 0, .slice none 0 0] 26) hy.out hl).mono ?_
  rintro e w1 ⟨rfl, hd⟩
  have HD := Lib.hid hd
  have hz0' : w.heap.size < w1.heap.size := hd.lt_of (i := 0) rfl rfl
  simp only [World.size_alloc] at HD
  clear hd
  go_wp2_with fail
  refine (any_dr HD).mono ?_
  rintro e w2 ⟨n, A, c, xs, rfl, hx, hd⟩
  have HX := Lib.hid hx
  have hz2' : w.heap.size < w2.heap.size := hd.lt_of (i := 1) rfl rfl
  have HD2 := Lib.hid (hd.alloc [.int .i64 n, .slice A xs.length c] 26)
  obtain ⟨p, hp⟩ : ∃ p, xs.length = p := ⟨_, rfl⟩
  have HPP := Lib.hid hp
  rw [hp] at HD2 ⊢
  clear hd hx HD hp
  have hne : ¬ w.heap.size = w2.heap.size := by omega
  have hne2 : ¬ w2.heap.size = w.heap.size := by omega
  rcases (by omega : 5 ≤ n ∨ n ≤ 0 ∨ (0 < n ∧ n < 5)) with hn | hn | ⟨hk0, hk5⟩
  · skip
    go_wp2_with fail
    refine (vec_dr 5 HD2 (by omega)).mono ?_
    rintro e w3 ⟨U, d, us, rfl, hlu, hd⟩
    rw [hlu] at hd ⊢
    obtain ⟨b0, -⟩ := hd.rest.box (i := 1) rfl
    have b00 := b0 0 _ rfl
    have b01 := b0 1 _ rfl
    obtain ⟨r1, rf⟩ := hd.rest.box (i := 3) rfl
    have r10 := r1 0 _ rfl
    have r11 := r1 1 _ rfl
    have rf0 := rf 0
    have rf1 := rf 1
    have HD3 := Lib.hid hd
    have HU := Lib.hid hlu
    clear hd b0 r1 rf hlu HD2
    go_wp2
    go_region_held3 (fun w' => w'.cell? ⟨w2.heap.size, 0, none⟩ = some (.int .i64 n) ∧ w'.cell? ⟨w2.heap.size, 1, none⟩ = some (.slice A p c)) (first | (refine ⟨?_, ?_⟩ <;> assumption) | assumption | go_keep) ((go_at_call 34; refine (vec_dr 5 (by first | exact HD3 | exact Lib.hid HD3.out.drew) (by omega)).mono ?_; rintro e w4 ⟨U2, d2, us2, rfl, hlu2, hd⟩; rw [hlu2] at hd; obtain ⟨b0, -⟩ := hd.rest.box (i := 2) rfl; have b00' := b0 0 _ rfl; have b01' := b0 1 _ rfl; obtain ⟨r1, rf⟩ := hd.rest.box (i := 4) rfl; have r10' := r1 0 _ rfl; have r11' := r1 1 _ rfl; have rf0' := rf 0; have rf1' := rf 1; have HD4 := Lib.hid hd; have HU2 := Lib.hid hlu2; clear hd b0 r1 rf b00 b01 r10 r11 rf0 rf1; rw [HU2.out]))
    all_goals
      (go_wp2
       obtain ⟨hy, ci, cx, ca, cb, hS⟩ := HD4.out
       have hZ := (hS.store (i := 5) rfl 0 (.int .i64 n)).store (i := 5) rfl 1 (.slice A p c)
       exact bodyPost_ret (v := .tuple #[.agg #[.int .i64 n, .slice A p c], .slice U 5 d, .slice U2 5 d2]) (by simp [results, Try.results11, go_sem, r10', r11', rf0', rf1']) rfl ⟨_, n, xs, U, d, us, U2, d2, us2, by rw [HU.out, HU2.out], by rw [HU.out]; omega, by rw [HU.out, HU2.out], ⟨A, c, by rw [HPP.out], by rw [HPP.out]; exact hZ.ownI (i := 4) rfl, HX.out⟩, by rw [HU.out]; exact hZ.ownI (i := 2) rfl, by rw [HU2.out]; exact hZ.ownI (i := 1) rfl, hZ.base⟩)
  · skip
    go_wp2_with fail
    refine (vec_dr 0 HD2 (by omega)).mono ?_
    rintro e w3 ⟨U, d, us, rfl, hlu, hd⟩
    rw [hlu] at hd ⊢
    obtain ⟨b0, -⟩ := hd.rest.box (i := 1) rfl
    have b00 := b0 0 _ rfl
    have b01 := b0 1 _ rfl
    obtain ⟨r1, rf⟩ := hd.rest.box (i := 3) rfl
    have r10 := r1 0 _ rfl
    have r11 := r1 1 _ rfl
    have rf0 := rf 0
    have rf1 := rf 1
    have HD3 := Lib.hid hd
    have HU := Lib.hid hlu
    clear hd b0 r1 rf hlu HD2
    go_wp2
    go_region_held3 (fun w' => w'.cell? ⟨w2.heap.size, 0, none⟩ = some (.int .i64 n) ∧ w'.cell? ⟨w2.heap.size, 1, none⟩ = some (.slice A p c)) (first | (refine ⟨?_, ?_⟩ <;> assumption) | assumption | go_keep) ((go_at_call 34; refine (vec_dr 0 (by first | exact HD3 | exact Lib.hid HD3.out.drew) (by omega)).mono ?_; rintro e w4 ⟨U2, d2, us2, rfl, hlu2, hd⟩; rw [hlu2] at hd; obtain ⟨b0, -⟩ := hd.rest.box (i := 2) rfl; have b00' := b0 0 _ rfl; have b01' := b0 1 _ rfl; obtain ⟨r1, rf⟩ := hd.rest.box (i := 4) rfl; have r10' := r1 0 _ rfl; have r11' := r1 1 _ rfl; have rf0' := rf 0; have rf1' := rf 1; have HD4 := Lib.hid hd; have HU2 := Lib.hid hlu2; clear hd b0 r1 rf b00 b01 r10 r11 rf0 rf1; rw [HU2.out]))
    all_goals
      (go_wp2
       obtain ⟨hy, ci, cx, ca, cb, hS⟩ := HD4.out
       have hZ := (hS.store (i := 5) rfl 0 (.int .i64 n)).store (i := 5) rfl 1 (.slice A p c)
       exact bodyPost_ret (v := .tuple #[.agg #[.int .i64 n, .slice A p c], .slice U 0 d, .slice U2 0 d2]) (by simp [results, Try.results11, go_sem, r10', r11', rf0', rf1']) rfl ⟨_, n, xs, U, d, us, U2, d2, us2, by rw [HU.out, HU2.out], by rw [HU.out]; omega, by rw [HU.out, HU2.out], ⟨A, c, by rw [HPP.out], by rw [HPP.out]; exact hZ.ownI (i := 4) rfl, HX.out⟩, by rw [HU.out]; exact hZ.ownI (i := 2) rfl, by rw [HU2.out]; exact hZ.ownI (i := 1) rfl, hZ.base⟩)
  · skip
    obtain ⟨k, rfl⟩ := Int.eq_ofNat_of_zero_le (Int.le_of_lt hk0)
    have hk : k ≤ 5 := by omega
    go_wp2_with fail
    refine (vec_dr k HD2 (by omega)).mono ?_
    rintro e w3 ⟨U, d, us, rfl, hlu, hd⟩
    rw [hlu] at hd ⊢
    obtain ⟨b0, -⟩ := hd.rest.box (i := 1) rfl
    have b00 := b0 0 _ rfl
    have b01 := b0 1 _ rfl
    obtain ⟨r1, rf⟩ := hd.rest.box (i := 3) rfl
    have r10 := r1 0 _ rfl
    have r11 := r1 1 _ rfl
    have rf0 := rf 0
    have rf1 := rf 1
    have HD3 := Lib.hid hd
    have HU := Lib.hid hlu
    clear hd b0 r1 rf hlu HD2
    go_wp2
    go_region_held3 (fun w' => w'.cell? ⟨w2.heap.size, 0, none⟩ = some (.int .i64 k) ∧ w'.cell? ⟨w2.heap.size, 1, none⟩ = some (.slice A p c)) (first | (refine ⟨?_, ?_⟩ <;> assumption) | assumption | go_keep) ((go_at_call 34; refine (vec_dr k (by first | exact HD3 | exact Lib.hid HD3.out.drew) (by omega)).mono ?_; rintro e w4 ⟨U2, d2, us2, rfl, hlu2, hd⟩; rw [hlu2] at hd; obtain ⟨b0, -⟩ := hd.rest.box (i := 2) rfl; have b00' := b0 0 _ rfl; have b01' := b0 1 _ rfl; obtain ⟨r1, rf⟩ := hd.rest.box (i := 4) rfl; have r10' := r1 0 _ rfl; have r11' := r1 1 _ rfl; have rf0' := rf 0; have rf1' := rf 1; have HD4 := Lib.hid hd; have HU2 := Lib.hid hlu2; clear hd b0 r1 rf b00 b01 r10 r11 rf0 rf1; rw [HU2.out]))
    all_goals
      (go_wp2
       obtain ⟨hy, ci, cx, ca, cb, hS⟩ := HD4.out
       have hZ := (hS.store (i := 5) rfl 0 (.int .i64 k)).store (i := 5) rfl 1 (.slice A p c)
       exact bodyPost_ret (v := .tuple #[.agg #[.int .i64 k, .slice A p c], .slice U k d, .slice U2 k d2]) (by simp [results, Try.results11, go_sem, r10', r11', rf0', rf1']) rfl ⟨_, k, xs, U, d, us, U2, d2, us2, by rw [HU.out, HU2.out], by rw [HU.out]; omega, by rw [HU.out, HU2.out], ⟨A, c, by rw [HPP.out], by rw [HPP.out]; exact hZ.ownI (i := 4) rfl, HX.out⟩, by rw [HU.out]; exact hZ.ownI (i := 2) rfl, by rw [HU2.out]; exact hZ.ownI (i := 1) rfl, hZ.base⟩)

end


end Go.Proofs.Ytgenllnpmjialaa.C
