/-
  The contracts of the draws of chapter 2: any function, two, one with a set.
-/
import Derived.Test.YtfpoiiennlhphaaDoorDrawF
namespace Go.Proofs.YtfpoiiennlhphaaDoor.C
open Go.RowKit M K
set_option linter.unusedVariables false
set_option linter.unusedSimpArgs false

theorem _root_.Go.Proofs.YtfpoiiennlhphaaDoor.K.St.lits {w0 w : World} {L : List Cel} (h : St w0 w L) (n : Nat) (xs : List Int) (hn : xs.length = n) (hm : n ≤ 1048576) : St w0 (w.alloc (.cells ⟨K.ints xs⟩ 3)) (il (.slice (some ⟨w.heap.size, 0, none⟩) n n) n xs :: L) := by
  refine h.new ((Below.refl _ _).alloc (Nat.le_refl _) _) ?_
  exact World.ownsRow_lit w ⟨K.ints xs⟩ n (Nat.le_refl _) (by unfold maxLen; omega) (by simp [K.ints, hn])


section

variable {w0 : World} {v : Value} {len B : Nat} {L : List Cel} {w : World}
theorem Dr.lits (h : Dr w0 v len B w L) (n : Nat) (xs : List Int) (hn : xs.length = n) (hm : n ≤ 1048576) : Dr w0 v len B (w.alloc (.cells ⟨K.ints xs⟩ 3)) (il (.slice (some ⟨w.heap.size, 0, none⟩) n n) n xs :: L) := h.map fun c hS => St.swap (hS.lits n xs hn hm)
theorem Dr.lt_of {A : Nat} {r : Cel} {i : Nat} (h : Dr w0 v len B w L) (hi : L[i]? = some r) (hA : r.v.ownBlock = some A) : A < w.heap.size := ((h.rest.own hi).lt A hA).2

set_option maxRecDepth 100000 in
set_option maxHeartbeats 4000000 in
theorem any_dr (h : Hid (Dr w0 v len B w L)) :
    Calls Tryd.prog 83 #[.pointer (some ⟨B, 0, none⟩)] w (DrF w0 v len B L (fun _ xs => 1 ≤ xs.length ∧ xs.length ≤ 32)) := by
  obtain ⟨i0, hi, hz0, hz1, hz2⟩ := info_parts info_int
  go_enter Tryd.func83, Tryd.ntmps83
  go_wp2_with fail
  refine (draw_dr 4 (Lib.hid (h.out.alloc [.int .i64 0, .slice none 0 0] 26)) (by omega)).mono ?_
  rintro e w1 ⟨_, V, cc, xs, rfl, ⟨n, rfl, hn, hl⟩, hd⟩
  obtain ⟨p1, p2⟩ := p2_nat hn
  rw [← hl] at p1 p2
  have HP := Lib.hid (show 1 ≤ xs.length ∧ xs.length ≤ 32 from ⟨p1, p2⟩)
  clear hl
  obtain ⟨p, hp⟩ : ∃ p, xs.length = p := ⟨_, rfl⟩
  rw [hp] at p1 p2 hd ⊢
  obtain ⟨g, cap, hV, -⟩ := World.ownsRow.form (hd.rest.own (i := 0) rfl) (by show 0 < p; omega)
  injection hV with hV1 hV2 hV3
  subst hV1 hV3
  clear hV2
  have hgl : g < w1.heap.size := hd.lt_of (i := 0) rfl rfl
  have hg1 : ¬ g = w1.heap.size := by omega
  have hg2 : ¬ w1.heap.size = g := by omega
  have hp0 : 0 < p := by omega
  have hp0i : (0 : Int) < (p : Int) := by omega
  have HL := Lib.hid hp
  have HD := Lib.hid (hd.alloc [.int .i64 n, .slice (some ⟨g, 0, none⟩) p cc] 26)
  have hzw := hd.lt.2
  have hzr : w.heap.size < w1.heap.size := hd.lt_of (i := 1) rfl rfl
  clear hd hp
  go_wp2_with fail
  refine (below_dr 16 HD (by omega) (by omega)).mono ?_
  rintro e w2 ⟨t, rfl, ⟨t0, t1⟩, hd⟩
  have HD2 := Lib.hid hd
  clear HD
  by_cases e0 : t = 0
  · subst e0
    clear hd
    go_wp2_with fail
    refine (pick_dr w2.heap.size 5 5 [-1, 6, 5, 0, 9223372036854775807] (Lib.hid (HD2.out.lits 5 [-1, 6, 5, 0, 9223372036854775807] rfl (by omega))) (by omega) (by omega)).mono ?_
    rintro e w3 ⟨x, rfl, hx, hd⟩
    obtain ⟨b0, f0⟩ := hd.rest.box (i := 0) rfl
    have b00 := b0 0 _ rfl
    have b01 := b0 1 _ rfl
    have f00 := f0 0
    have f01 := f0 1
    obtain ⟨r1, rf⟩ := hd.rest.box (i := 2) rfl
    have r10 := r1 0 _ rfl
    have r11 := r1 1 _ rfl
    have rf0 := rf 0
    have rf1 := rf 1
    have HD3 := Lib.hid hd
    have hne : ¬ w.heap.size = w1.heap.size := by omega
    have hne2 : ¬ w1.heap.size = w.heap.size := by omega
    clear b0 f0 r1 rf hd hx
    go_wp2
    obtain ⟨hy, ci, cx, ca, cb, hS⟩ := HD3.out
    have hZ := ((hS.store (i := 1) rfl 0 (.int .i64 x)).store (i := 3) rfl 0 (.int .i64 x)).store (i := 3) rfl 1 (.slice (some ⟨g, 0, none⟩) p cc)
    exact bodyPost_ret (v := .agg #[.int .i64 x, .slice (some ⟨g, 0, none⟩) p cc]) (by simp [results, Tryd.results83, go_sem, r10, r11, rf0, rf1, hne, hne2]) rfl ⟨x, _, cc, xs, by rw [HL.out], HP.out, by rw [HL.out]; exact ⟨hy, ci, cx, ca, cb, (hZ.drop 3).drop 1⟩⟩
  · have f0 : (t == 0) = false := by simpa using e0
    by_cases e1 : t = 1
    · subst e1
      clear e0 f0
      obtain ⟨b0, f0⟩ := hd.rest.box (i := 0) rfl
      have b01 := b0 1 _ rfl
      clear b0 f0 hd
      go_wp2
      go_region_held3 (fun w' => w'.cell? ⟨w1.heap.size, 1, none⟩ = some (.slice (some ⟨g, 0, none⟩) p cc)) (first | assumption | go_keep) ((go_at_call 88; refine (pick_dr w2.heap.size 5 5 [1, -1, 1001, -9223372036854775808, 1000] (Lib.hid (HD2.out.drew.lits 5 [1, -1, 1001, -9223372036854775808, 1000] rfl (by omega))) (by omega) (by omega)).mono ?_; rintro e w3 ⟨x, rfl, hx, hd⟩; obtain ⟨b0', -⟩ := hd.rest.box (i := 0) rfl; have b01' := b0' 1 _ rfl; obtain ⟨c1, c2⟩ := hd.rest.cellI (i := 1) rfl (j := 0) (by omega); have HD3 := Lib.hid hd; clear hd b0' b01 hx))
      have HD4 := Lib.hid (HD3.out.map fun c hS => hS.setI (i := 2) rfl 0 x)
      clear HD3 c1 c2 b01'
      rename_i hHeld
      clear hHeld
      generalize w3.setCell ⟨g, 0, none⟩ (.int .i64 x) = w4 at HD4 ⊢
      obtain ⟨b0, f0⟩ := HD4.out.rest.box (i := 0) rfl
      have b00 := b0 0 _ rfl
      have b01 := b0 1 _ rfl
      have f00 := f0 0
      have f01 := f0 1
      obtain ⟨r1, rf⟩ := HD4.out.rest.box (i := 2) rfl
      have r10 := r1 0 _ rfl
      have r11 := r1 1 _ rfl
      have rf0 := rf 0
      have rf1 := rf 1
      have hne : ¬ w.heap.size = w1.heap.size := by omega
      have hne2 : ¬ w1.heap.size = w.heap.size := by omega
      clear b0 f0 r1 rf 
      go_wp2
      obtain ⟨hy, ci, cx, ca, cb, hS⟩ := HD4.out
      have hZ := (hS.store (i := 3) rfl 0 (.int .i64 n)).store (i := 3) rfl 1 (.slice (some ⟨g, 0, none⟩) p cc)
      have hl : (xs.set 0 x).length = p := OwnN.len (hZ.own (i := 2) rfl)
      exact bodyPost_ret (v := .agg #[.int .i64 n, .slice (some ⟨g, 0, none⟩) p cc]) (by simp [results, Tryd.results83, go_sem, r10, r11, rf0, rf1, hne, hne2]) rfl ⟨n, _, cc, xs.set 0 x, by rw [hl], (show 1 ≤ (xs.set 0 x).length ∧ (xs.set 0 x).length ≤ 32 by rw [List.length_set]; exact HP.out), by rw [hl]; exact ⟨hy, ci, cx, ca, cb, (hZ.drop 3).drop 1⟩⟩
    · have f1 : (t == 1) = false := by simpa using e1
      clear e0 e1
      obtain ⟨b0, f0⟩ := HD2.out.rest.box (i := 0) rfl
      have b00 := b0 0 _ rfl
      have b01 := b0 1 _ rfl
      have f00 := f0 0
      have f01 := f0 1
      obtain ⟨r1, rf⟩ := HD2.out.rest.box (i := 2) rfl
      have r10 := r1 0 _ rfl
      have r11 := r1 1 _ rfl
      have rf0 := rf 0
      have rf1 := rf 1
      have hne : ¬ w.heap.size = w1.heap.size := by omega
      have hne2 : ¬ w1.heap.size = w.heap.size := by omega
      clear b0 f0 r1 rf hd
      go_wp2
      obtain ⟨hy, ci, cx, ca, cb, hS⟩ := HD2.out
      have hZ := (hS.store (i := 3) rfl 0 (.int .i64 n)).store (i := 3) rfl 1 (.slice (some ⟨g, 0, none⟩) p cc)
      have hl : (xs).length = p := OwnN.len (hZ.own (i := 2) rfl)
      exact bodyPost_ret (v := .agg #[.int .i64 n, .slice (some ⟨g, 0, none⟩) p cc]) (by simp [results, Tryd.results83, go_sem, r10, r11, rf0, rf1, hne, hne2]) rfl ⟨n, _, cc, xs, by rw [hl], HP.out, by rw [hl]; exact ⟨hy, ci, cx, ca, cb, (hZ.drop 3).drop 1⟩⟩

end


end Go.Proofs.YtfpoiiennlhphaaDoor.C
