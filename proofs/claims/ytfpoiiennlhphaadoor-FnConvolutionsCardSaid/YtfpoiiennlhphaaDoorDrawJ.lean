/-
  The contracts of the draws of chapter 2, as the laws call them: two functions.
-/
import Derived.Test.YtfpoiiennlhphaaDoorDrawI
namespace Go.Proofs.YtfpoiiennlhphaaDoor.C
open Go.RowKit M K
set_option linter.unusedVariables false
set_option linter.unusedSimpArgs false

theorem isF_of {w w' : World} {A : Option Addr} {p c : Nat} {n : Int} {xs : List Int} (h : w'.ownsRow w.heap.size 3 1 (.slice A p c) p (K.ints xs)) (h1 : 1 ≤ p) (h2 : p ≤ 32) : IsF w w' (.agg #[.int .i64 n, .slice A p c]) n xs := by
  have hl : xs.length = p := OwnN.len h
  subst hl
  exact ⟨A, c, rfl, h, h1, h2⟩


section

variable (v : Value) (len : Nat) (w : World) (hl : len ≤ 1048576) (hy : Hid (Bytes w.heap.size w v len))
include hl hy

set_option maxRecDepth 100000 in
set_option maxHeartbeats 16000000 in
theorem two_got : Calls Tryd.prog 94 #[v] w (GotFF w) := by
  have HW := Lib.hid (St.start w)
  obtain ⟨i0, hi, hz0, hz1, hz2⟩ := info_parts info_int
  go_enter Tryd.func94, Tryd.ntmps94
  go_wp2_with fail
  refine (new_st ((HW.out.alloc [.int .i64 0, .slice none 0 0] 26).alloc [.int .i64 0, .slice none 0 0] 26) hy.out hl).mono ?_
  rintro e w1 ⟨rfl, hd⟩
  have HD := Lib.hid hd
  simp only [World.size_alloc] at HD
  clear hd
  go_wp2_with fail
  refine (any_dr HD).mono ?_
  rintro e w2 ⟨n, A, c, xs, rfl, ⟨hx1, hx2⟩, hd⟩
  obtain ⟨p, hp⟩ : ∃ p, xs.length = p := ⟨_, rfl⟩
  have HP := Lib.hid hp
  rw [hp] at hx1 hx2 hd
  rw [hp]
  have hzz2 : w.heap.size + 1 < w2.heap.size := hd.lt_of (i := 1) rfl rfl
  have HD2 := Lib.hid (hd.alloc [.int .i64 n, .slice A p c] 26)
  clear hd HD hp
  go_wp2_with fail
  refine (any_dr HD2).mono ?_
  rintro e w3 ⟨m, A2, c2, ys, rfl, ⟨hy1, hy2⟩, hd⟩
  obtain ⟨q, hq⟩ : ∃ q, ys.length = q := ⟨_, rfl⟩
  have HQ := Lib.hid hq
  rw [hq] at hy1 hy2 hd
  rw [hq]
  have hzz3 : w2.heap.size < w3.heap.size := hd.lt_of (i := 1) rfl rfl
  have HD3 := Lib.hid (hd.alloc [.int .i64 m, .slice A2 q c2] 26)
  clear hd HD2 hq
  have hne1 : ¬ w.heap.size = w2.heap.size := by omega
  have hne2 : ¬ w2.heap.size = w.heap.size := by omega
  have hne3 : ¬ w.heap.size + 1 = w2.heap.size := by omega
  have hne4 : ¬ w2.heap.size = w.heap.size + 1 := by omega
  have hne5 : ¬ w.heap.size = w3.heap.size := by omega
  have hne6 : ¬ w3.heap.size = w.heap.size := by omega
  have hne7 : ¬ w.heap.size + 1 = w3.heap.size := by omega
  have hne8 : ¬ w3.heap.size = w.heap.size + 1 := by omega
  obtain ⟨b0, -⟩ := HD3.out.rest.box (i := 2) rfl
  have b00 := b0 0 _ rfl
  have b01 := b0 1 _ rfl
  clear b0
  obtain ⟨bf, hbf⟩ : ∃ b, isFn n xs = b := ⟨_, rfl⟩
  obtain ⟨bg, hbg⟩ : ∃ b, isFn m ys = b := ⟨_, rfl⟩
  have hcf : ∀ W, Ints W W.heap.size A xs → Calls Tryd.prog 81 #[.agg #[.int .i64 n, .slice A p c]] W (RetV W (.bool bf)) := fun W hW => by rw [← HP.out, ← hbf]; exact isFnS_any n A xs c W (Lib.hid hW)
  have hcg : ∀ W, Ints W W.heap.size A2 ys → Calls Tryd.prog 81 #[.agg #[.int .i64 m, .slice A2 q c2]] W (RetV W (.bool bg)) := fun W hW => by rw [← HQ.out, ← hbg]; exact isFnS_any m A2 ys c2 W (Lib.hid hW)
  have HCF := Lib.hid hcf
  have HCG := Lib.hid hcg
  clear hcf hcg hbf hbg
  go_wp2_with fail
  refine (HCF.out _ (HD3.out.rest.ints (i := 3) rfl)).mono ?_
  rintro e w4 ⟨rfl, hb⟩
  have HD4 := Lib.hid (HD3.out.below hb)
  clear hb b00 b01
  obtain ⟨b0, -⟩ := HD4.out.rest.box (i := 2) rfl
  have b00 := b0 0 _ rfl
  have b01 := b0 1 _ rfl
  obtain ⟨d0, -⟩ := HD4.out.rest.box (i := 0) rfl
  have d00 := d0 0 _ rfl
  have d01 := d0 1 _ rfl
  clear b0 d0
  cases bf
  · obtain ⟨r1, rf⟩ := HD4.out.rest.box (i := 5) rfl
    have r10 := r1 0 _ rfl
    have r11 := r1 1 _ rfl
    have rf0 := rf 0
    have rf1 := rf 1
    obtain ⟨q1, qf⟩ := HD4.out.rest.box (i := 4) rfl
    have q10 := q1 0 _ rfl
    have q11 := q1 1 _ rfl
    have qf0 := qf 0
    have qf1 := qf 1
    clear r1 rf q1 qf
    go_wp2
    go_region
    go_wp2
    obtain ⟨hy, ci, cx, ca, cb, hS⟩ := HD4.out
    have hZ := ((((hS.drew.store (i := 6) rfl 0 (.int .i64 n)).store (i := 6) rfl 1 (.slice A p c)).store (i := 5) rfl 0 (.int .i64 m)).store (i := 5) rfl 1 (.slice A2 q c2))
    exact bodyPost_ret (v := .tuple #[.agg #[.int .i64 n, .slice A p c], .agg #[.int .i64 m, .slice A2 q c2]]) (by simp [results, Tryd.results94, go_sem, r10, r11, rf0, rf1, q10, q11, qf0, qf1, hne1, hne2, hne3, hne4, hne5, hne6, hne7, hne8]) rfl ⟨_, n, xs, _, m, ys, rfl, isF_of (hZ.own (i := 4) rfl) hx1 hx2, isF_of (hZ.own (i := 2) rfl) hy1 hy2, hZ.base⟩
  · go_wp2_with fail
    refine (HCG.out _ (HD4.out.rest.ints (i := 1) rfl)).mono ?_
    rintro e w5 ⟨rfl, hb⟩
    have HD5 := Lib.hid (HD4.out.below hb)
    clear hb b00 b01 d00 d01
    obtain ⟨b0, -⟩ := HD5.out.rest.box (i := 2) rfl
    have b00 := b0 0 _ rfl
    have b01 := b0 1 _ rfl
    obtain ⟨d0, -⟩ := HD5.out.rest.box (i := 0) rfl
    have d00 := d0 0 _ rfl
    have d01 := d0 1 _ rfl
    clear b0 d0
    cases bg
    · obtain ⟨r1, rf⟩ := HD5.out.rest.box (i := 5) rfl
      have r10 := r1 0 _ rfl
      have r11 := r1 1 _ rfl
      have rf0 := rf 0
      have rf1 := rf 1
      obtain ⟨q1, qf⟩ := HD5.out.rest.box (i := 4) rfl
      have q10 := q1 0 _ rfl
      have q11 := q1 1 _ rfl
      have qf0 := qf 0
      have qf1 := qf 1
      clear r1 rf q1 qf
      go_wp2
      go_region
      go_wp2
      obtain ⟨hy, ci, cx, ca, cb, hS⟩ := HD5.out
      have hZ := ((((hS.drew.store (i := 6) rfl 0 (.int .i64 n)).store (i := 6) rfl 1 (.slice A p c)).store (i := 5) rfl 0 (.int .i64 m)).store (i := 5) rfl 1 (.slice A2 q c2))
      exact bodyPost_ret (v := .tuple #[.agg #[.int .i64 n, .slice A p c], .agg #[.int .i64 m, .slice A2 q c2]]) (by simp [results, Tryd.results94, go_sem, r10, r11, rf0, rf1, q10, q11, qf0, qf1, hne1, hne2, hne3, hne4, hne5, hne6, hne7, hne8]) rfl ⟨_, n, xs, _, m, ys, rfl, isF_of (hZ.own (i := 4) rfl) hx1 hx2, isF_of (hZ.own (i := 2) rfl) hy1 hy2, hZ.base⟩
    · go_wp2_with fail
      refine (once_dr 5 HD5 (by omega) (by omega)).mono ?_
      rintro e w6 ⟨b, rfl, hd⟩
      have HD6 := Lib.hid hd
      clear hd b00 b01 d00 d01
      obtain ⟨b0, -⟩ := HD6.out.rest.box (i := 2) rfl
      have b00 := b0 0 _ rfl
      have b01 := b0 1 _ rfl
      obtain ⟨d0, -⟩ := HD6.out.rest.box (i := 0) rfl
      have d00 := d0 0 _ rfl
      have d01 := d0 1 _ rfl
      clear b0 d0
      cases b
      · go_wp2
        clear b00 b01 d00 d01
        go_loopw [7, 8] (fun a s wr => ∃ (j : Nat) (V : Option Addr) (e : Nat) (zs : List Int), s = .int .i64 j ∧ j ≤ p ∧ a = .slice V j e ∧ Dr w v len (w.heap.size + 1 + 1) wr (il (.slice V j e) j zs :: [bx w3.heap.size 26 [.int .i64 m, .slice A2 q c2], il (.slice A2 q c2) q ys, bx w2.heap.size 26 [.int .i64 n, .slice A p c], il (.slice A p c) p xs, bx (w.heap.size + 1) 26 [.int .i64 0, .slice none 0 0], bx w.heap.size 26 [.int .i64 0, .slice none 0 0]])) (fun _ s _ => p - (intOf s).toNat)
        case atStart => exact ⟨0, _, _, [], rfl, Nat.zero_le _, rfl, HD6.out.empty⟩
        case round =>
          obtain ⟨j, V, e, zs, rfl, hj, rfl, hD⟩ := hrel
          have HE := Lib.hid hD
          clear hD
          obtain ⟨b0, -⟩ := HE.out.rest.box (i := 3) rfl
          have b00 := b0 0 _ rfl
          have b01 := b0 1 _ rfl
          obtain ⟨d0, -⟩ := HE.out.rest.box (i := 1) rfl
          have d00 := d0 0 _ rfl
          have d01 := d0 1 _ rfl
          clear b0 d0
          by_cases hlt : j < p
          · have hji : (j : Int) < (p : Int) := by omega
            have hrem : (j : Int).tmod (q : Int) = ((j % q : Nat) : Int) := by rw [Int.tmod_eq_emod_of_nonneg (by omega)]; omega
            have hrl : j % q < q := Nat.mod_lt _ (by omega)
            have hq0 : ¬ (q : Int) = 0 := by omega
            have hqn : ¬ q = 0 := by omega
            have hqb : ((q : Int) == 0) = false := by simpa using hqn
            obtain ⟨g, cap, hV, -⟩ := World.ownsRow.form (HE.out.rest.own (i := 2) rfl) (by show 0 < q; omega)
            injection hV with hV1 hV2 hV3
            subst hV1 hV3
            clear hV2
            generalize j % q = r at hrem hrl
            have g1 := (HE.out.rest.cellI (i := 2) rfl hrl).1
            have hr0 : (0 : Int) ≤ (r : Int) := by omega
            have hri : (r : Int) < (q : Int) := by omega
            obtain ⟨y1, hy1'⟩ : ∃ y1, ys.getD r 0 = y1 := ⟨_, rfl⟩
            rw [hy1'] at g1
            have HYY := Lib.hid hy1'
            clear hy1'
            go_wp2
            obtain ⟨hy, ci, cx, ca, cb, hS⟩ := HE.out
            have HS := Lib.hid hS
            have HY := Lib.hid hy
            clear hS hy
            go_region_held3 (fun w' => w'.cell? ⟨w3.heap.size, 1, none⟩ = some (.slice (some ⟨g, 0, none⟩) q c2) ∧ w'.cell? ⟨g, r, none⟩ = some (.int .i64 y1)) (first | (refine ⟨?_, ?_⟩ <;> assumption) | go_keep) ((refine step_app1 (by rfl) (.tmp 34) (.tmp 44) 24 (by rfl) y1 Tryd.underlying24 hi hz0 hz1 hz2 ((HS.out.alloc _ _).drop 0).drew (i := 1) (by rfl) (by rfl) (by rfl) (by simp) (by omega) ?_; intro V' c' w7 hS7; have e20 := (hS7.box (i := 2) rfl).1 1 _ rfl; have e21 := (hS7.cellI (i := 3) rfl hrl).1; rw [HYY.out] at e21; have HE3 := Lib.hid (show Dr w v len (w.heap.size + 1 + 1) w7 _ from ⟨HY.out, ci, cx, ca, cb, hS7⟩); clear hS7))
            rename_i hHeld
            clear hHeld
            go_wp2
            go_roundw
            case rel => exact ⟨j + 1, V', c', zs ++ [y1], by go_num, by omega, rfl, HE3.out⟩
            case measure => simp [intOf]; omega
          · obtain rfl : j = p := by omega
            have hjp : ¬ (j : Int) < (j : Int) := by omega
            obtain ⟨r1, rf⟩ := HE.out.rest.box (i := 6) rfl
            have r10 := r1 0 _ rfl
            have r11 := r1 1 _ rfl
            have rf0 := rf 0
            have rf1 := rf 1
            obtain ⟨q1, qf⟩ := HE.out.rest.box (i := 5) rfl
            have q10 := q1 0 _ rfl
            have q11 := q1 1 _ rfl
            have qf0 := qf 0
            have qf1 := qf 1
            clear r1 rf q1 qf
            go_wp2
            go_region
            go_wp2
            obtain ⟨hy, ci, cx, ca, cb, hS⟩ := HE.out
            have hZ := ((((hS.drew.store (i := 7) rfl 0 (.int .i64 n)).store (i := 7) rfl 1 (.slice A j c)).store (i := 6) rfl 0 (.int .i64 n)).store (i := 6) rfl 1 (.slice V j e))
            exact bodyPost_ret (v := .tuple #[.agg #[.int .i64 n, .slice A j c], .agg #[.int .i64 n, .slice V j e]]) (by simp [results, Tryd.results94, go_sem, r10, r11, rf0, rf1, q10, q11, qf0, qf1, hne1, hne2, hne3, hne4, hne5, hne6, hne7, hne8]) rfl ⟨_, n, xs, _, n, zs, rfl, isF_of (hZ.own (i := 5) rfl) hx1 hx2, isF_of (hZ.own (i := 1) rfl) hx1 hx2, hZ.base⟩
      · obtain ⟨r1, rf⟩ := HD6.out.rest.box (i := 5) rfl
        have r10 := r1 0 _ rfl
        have r11 := r1 1 _ rfl
        have rf0 := rf 0
        have rf1 := rf 1
        obtain ⟨q1, qf⟩ := HD6.out.rest.box (i := 4) rfl
        have q10 := q1 0 _ rfl
        have q11 := q1 1 _ rfl
        have qf0 := qf 0
        have qf1 := qf 1
        clear r1 rf q1 qf
        go_wp2
        go_region
        go_wp2
        obtain ⟨hy, ci, cx, ca, cb, hS⟩ := HD6.out
        have hZ := ((((hS.drew.store (i := 6) rfl 0 (.int .i64 n)).store (i := 6) rfl 1 (.slice A p c)).store (i := 5) rfl 0 (.int .i64 m)).store (i := 5) rfl 1 (.slice A2 q c2))
        exact bodyPost_ret (v := .tuple #[.agg #[.int .i64 n, .slice A p c], .agg #[.int .i64 m, .slice A2 q c2]]) (by simp [results, Tryd.results94, go_sem, r10, r11, rf0, rf1, q10, q11, qf0, qf1, hne1, hne2, hne3, hne4, hne5, hne6, hne7, hne8]) rfl ⟨_, n, xs, _, m, ys, rfl, isF_of (hZ.own (i := 4) rfl) hx1 hx2, isF_of (hZ.own (i := 2) rfl) hy1 hy2, hZ.base⟩

end


end Go.Proofs.YtfpoiiennlhphaaDoor.C
