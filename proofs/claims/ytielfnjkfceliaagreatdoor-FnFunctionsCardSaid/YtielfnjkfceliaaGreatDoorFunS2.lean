/-
  The contracts of spec.LowerFunction and spec.AddFunctions.
-/
import Derived.Test.YtielfnjkfceliaaGreatDoorFunS
namespace Go.Proofs.YtielfnjkfceliaaGreatDoor.C
open Go.RowKit K M
set_option linter.unusedVariables false
set_option linter.unusedSimpArgs false

set_option maxRecDepth 100000 in
set_option maxHeartbeats 1600000 in
theorem lowerS_bad (n : Int) (A : Option Addr) (xs : List Int) (cap : Nat) (w : World) (h : Hid (Ints w w.heap.size A xs)) (hf : isFn n xs = false) :
    Calls Tryz.prog 25 #[.agg #[.int .i64 n, .slice A xs.length cap]] w (RetFB w 0 [] false) := by
  have HW := Lib.hid (St.start w)
  have HF := Lib.hid hf
  clear hf
  go_enter Tryz.func25, Tryz.ntmps25
  go_wp2_with fail
  refine St.use (w0 := w) (by exact ((HW.out.alloc _ _).alloc _ _).empty) ?_
  intro hS
  simp only [World.size_alloc] at hS
  refine (isFnS_no n A xs cap _ (Lib.hid ((h.out.below hS.base).mono hS.size)) HF.out).mono ?_
  rintro e w1 ⟨rfl, hb⟩
  have hS1 := hS.below hb
  obtain ⟨r1, rf⟩ := hS1.box (i := 1) rfl
  have r10 := r1 0 _ rfl
  have r11 := r1 1 _ rfl
  have rf0 := rf 0
  have rf1 := rf 1
  clear r1 rf
  clear hS hb
  have HS1 := Lib.hid hS1
  clear hS1
  go_wp2
  have hZ := ((HS1.out.store (i := 1) rfl 0 (.int .i64 0)).store (i := 1) rfl 1 (.slice none 0 0))
  exact bodyPost_ret (v := .tuple #[.agg #[.int .i64 0, .slice none 0 0], .bool false]) (by simp [results, Tryz.results25, go_sem, r10, r11, rf0, rf1]) rfl ⟨none, 0, rfl, Own.nil _ _, hZ.base⟩


set_option maxRecDepth 100000 in
set_option maxHeartbeats 4000000 in
theorem lowerS_good (n : Int) (A : Option Addr) (xs : List Int) (cap : Nat) (w : World) (h : Hid (Ints w w.heap.size A xs)) (hf : isFn n xs = true) :
    Calls Tryz.prog 25 #[.agg #[.int .i64 n, .slice A xs.length cap]] w (RetFB w (made n (tab xs.length fun s => xs.getD s 0 - xs.getD 0 0)).1 (made n (tab xs.length fun s => xs.getD s 0 - xs.getD 0 0)).2.1 (made n (tab xs.length fun s => xs.getD s 0 - xs.getD 0 0)).2.2) := by
  obtain ⟨_, _, _, hv⟩ := isFn_yes hf
  have hl := (isFn_len hf).2
  have hl1 := (isFn_len hf).1
  have HW := Lib.hid (St.start w)
  have HV := Lib.hid hv
  obtain ⟨m, hxm⟩ : ∃ m, xs.length = m := ⟨_, rfl⟩
  have h' := Lib.hid (show ∀ W, Ints W W.heap.size A xs → Calls Tryz.prog 15 #[.agg #[.int .i64 n, .slice A m cap]] W (RetV W (.bool true)) from fun W hW => by rw [← hxm]; exact isFnS_yes n A xs cap W hW hf)
  rw [hxm] at hl hl1 ⊢
  have HX := Lib.hid hxm
  obtain ⟨rn, rx, rb, hr⟩ : ∃ rn rx rb, made n (tab m fun s => xs.getD s 0 - xs.getD 0 0) = (rn, rx, rb) := ⟨_, _, _, rfl⟩
  rw [hr]
  have HR := Lib.hid hr
  clear hf hv hxm hr
  obtain ⟨i0, hi, hz0, hz1, hz2⟩ := info_parts info_int
  go_enter Tryz.func25, Tryz.ntmps25
  go_wp2_with fail
  refine St.use (w0 := w) (by exact ((HW.out.alloc _ _).alloc _ _).empty) ?_
  intro hS
  simp only [World.size_alloc] at hS
  refine (h'.out _ ((h.out.below hS.base).mono hS.size)).mono ?_
  rintro e w1 ⟨rfl, hb⟩
  have HS1 := Lib.hid (hS.below hb)
  clear hS hb
  go_wp2
  go_loopw [4, 5] (fun v i wr => ∃ (j : Nat) (V : Option Addr) (c : Nat), i = .int .i64 j ∧ j ≤ m ∧ v = .slice V j c ∧ St w wr [il (.slice V j c) j (tab j fun s => xs.getD s 0 - xs.getD 0 0), bx (w.heap.size + 1) 26 [.int .i64 0, .slice none 0 0], bx w.heap.size 26 [.int .i64 n, .slice A m cap]]) (fun _ i _ => m - (intOf i).toNat)
  case atStart => exact ⟨0, _, _, rfl, Nat.zero_le _, rfl, HS1.out⟩
  case round =>
    obtain ⟨j, V, c, rfl, hj, rfl, hS⟩ := hrel
    obtain ⟨b0, -⟩ := hS.box (i := 2) rfl
    have b00 := b0 0 _ rfl
    have b01 := b0 1 _ rfl
    obtain ⟨b1, f1⟩ := hS.box (i := 1) rfl
    have b10 := b1 0 _ rfl
    have b11 := b1 1 _ rfl
    have f10 := f1 0
    have f11 := f1 1
    have bl := (hS.lt (i := 2) rfl).2
    have bl1 := (hS.lt (i := 1) rfl).2
    clear b0 b1 f1
    have HS := Lib.hid hS
    by_cases hlt : j < m
    · obtain ⟨b, off, rfl, hbl, hcc⟩ := h.out (by rw [HX.out]; omega)
      have hc := hcc j (by rw [HX.out]; exact hlt)
      have hc0 := hcc 0 (by rw [HX.out]; omega)
      rw [Nat.add_zero] at hc0
      clear hcc
      obtain ⟨v1, v2⟩ := HV.out j (by rw [HX.out]; exact hlt)
      obtain ⟨u1, u2⟩ := HV.out 0 (by rw [HX.out]; omega)
      generalize hx : xs.getD j 0 = x at hc v1 v2
      obtain ⟨y, hy⟩ : ∃ y, xs.getD 0 0 = y := ⟨_, rfl⟩
      rw [hy] at hc0 u1 u2
      have HXJ := Lib.hid hx
      have HYJ := Lib.hid hy
      have HC := Lib.hid hc
      have HC0 := Lib.hid hc0
      have d1 := (hS.base.cell (p := ⟨b, off + j, none⟩) hbl).trans HC.out
      have d0 := (hS.base.cell (p := ⟨b, off, none⟩) hbl).trans HC0.out
      clear hx hy hc hc0
      have hj0 : (0 : Int) ≤ (j : Int) := by omega
      have hjn : (j : Int) < (m : Int) := by omega
      have hm0 : (0 : Int) < (m : Int) := by omega
      have hm1 : 0 < m := by omega
      have hxy : IntKind.i64.wrap (x - y) = x - y := IntWalk.i64_in _ (by omega)
      have htab := Lib.hid (tab_succ j fun s => xs.getD s 0 - xs.getD 0 0)
      clear hS
      go_wp2
      go_region_held3 (fun w' => w'.cell? ⟨w.heap.size, 0, none⟩ = some (.int .i64 n) ∧ w'.cell? ⟨w.heap.size, 1, none⟩ = some (.slice (some ⟨b, off, none⟩) m cap) ∧ w'.cell? ⟨b, off + j, none⟩ = some (.int .i64 x) ∧ w'.cell? ⟨b, off, none⟩ = some (.int .i64 y)) (first | (refine ⟨?_, ?_, ?_, ?_⟩ <;> assumption) | go_keep) ((refine step_app1 (by rfl) (.tmp 20) (.tmp 31) 24 (by rfl) (x - y) Tryz.underlying24 hi hz0 hz1 hz2 ((HS.out.alloc _ _).drop 0).drew (i := 0) (by rfl) (by rfl) (by rfl) (by simp) (by omega) ?_; intro V' c' w2 hS2; have e2 := (hS2.box (i := 2) rfl).1; have e20 := e2 0 _ rfl; have e21 := e2 1 _ rfl; have e1 := (hS2.base.cell (p := ⟨b, off + j, none⟩) hbl).trans HC.out; have e0 := (hS2.base.cell (p := ⟨b, off, none⟩) hbl).trans HC0.out; have HS2 := Lib.hid hS2; clear hS2 e2))
      go_wp2
      go_roundw
      case rel => exact ⟨j + 1, V', c', by go_num, by omega, rfl, by have e := HS2.out; rw [← HXJ.out, ← HYJ.out] at e; rw [htab.out]; exact e⟩
      case measure => simp [intOf]; omega
    · obtain rfl : j = m := by omega
      have hjn : ¬ (j : Int) < (j : Int) := by omega
      obtain ⟨B, d, hcall, hend⟩ := made_any n V (tab j fun s => xs.getD s 0 - xs.getD 0 0) j c wr (tab_length _ _) (hS.ints (i := 0) rfl)
      rw [HR.out] at hcall hend
      have HC := Lib.hid hcall
      have HE := Lib.hid hend
      clear hcall hend hS
      go_wp2_with fail
      refine HC.out.mono ?_
      rintro e w2 ⟨rfl, hb⟩
      have hS2 := HS.out.below hb
      obtain ⟨p1, q1⟩ := hS2.box (i := 1) rfl
      have p10 := p1 0 _ rfl
      have p11 := p1 1 _ rfl
      have q10 := q1 0
      have q11 := q1 1
      have pl := (hS2.lt (i := 1) rfl).2
      clear p1 q1 hb b00 b01 b10 b11 f10 f11
      have HS2 := Lib.hid hS2
      clear hS2
      go_wp2
      have hS3 := ((HS2.out.store (i := 1) rfl 0 (.int .i64 rn)).store (i := 1) rfl 1 (.slice B rx.length d)).alloc [.int .i64 rn, .slice B rx.length d] 26
      exact bodyPost_ret (v := .tuple #[.agg #[.int .i64 rn, .slice B rx.length d], .bool rb]) (by simp [results, Tryz.results25, go_sem, p10, p11, q10, q11, pl]) rfl ⟨B, d, rfl, ends_own hS3 (i := 1) rfl HE.out, hS3.base⟩

set_option maxRecDepth 100000 in
set_option maxHeartbeats 1600000 in
theorem addS_bad1 (n : Int) (A : Option Addr) (xs : List Int) (cap : Nat) (n2 : Int) (A2 : Option Addr) (ys : List Int) (cap2 : Nat) (w : World) (h : Hid (Ints w w.heap.size A xs)) (g : Hid (Ints w w.heap.size A2 ys)) (hf : isFn n xs = false) :
    Calls Tryz.prog 7 #[.agg #[.int .i64 n, .slice A xs.length cap], .agg #[.int .i64 n2, .slice A2 ys.length cap2]] w (RetFB w 0 [] false) := by
  have HW := Lib.hid (St.start w)
  have HF := Lib.hid hf
  clear hf
  go_enter Tryz.func7, Tryz.ntmps7
  go_wp2_with fail
  refine St.use (w0 := w) (by exact (((HW.out.alloc _ _).alloc _ _).alloc _ _).empty) ?_
  intro hS
  simp only [World.size_alloc] at hS
  refine (isFnS_no n A xs cap _ (Lib.hid ((h.out.below hS.base).mono hS.size)) HF.out).mono ?_
  rintro e w1 ⟨rfl, hb⟩
  have hS1 := hS.below hb
  obtain ⟨r1, rf⟩ := hS1.box (i := 1) rfl
  have r10 := r1 0 _ rfl
  have r11 := r1 1 _ rfl
  have rf0 := rf 0
  have rf1 := rf 1
  clear r1 rf
  clear hS hb
  have HS1 := Lib.hid hS1
  clear hS1
  go_wp2
  have hZ := ((HS1.out.store (i := 1) rfl 0 (.int .i64 0)).store (i := 1) rfl 1 (.slice none 0 0))
  exact bodyPost_ret (v := .tuple #[.agg #[.int .i64 0, .slice none 0 0], .bool false]) (by simp [results, Tryz.results7, go_sem, r10, r11, rf0, rf1]) rfl ⟨none, 0, rfl, Own.nil _ _, hZ.base⟩


set_option maxRecDepth 100000 in
set_option maxHeartbeats 1600000 in
theorem addS_bad2 (n : Int) (A : Option Addr) (xs : List Int) (cap : Nat) (n2 : Int) (A2 : Option Addr) (ys : List Int) (cap2 : Nat) (w : World) (h : Hid (Ints w w.heap.size A xs)) (g : Hid (Ints w w.heap.size A2 ys)) (hf : isFn n xs = true) (hg : isFn n2 ys = false) :
    Calls Tryz.prog 7 #[.agg #[.int .i64 n, .slice A xs.length cap], .agg #[.int .i64 n2, .slice A2 ys.length cap2]] w (RetFB w 0 [] false) := by
  have HW := Lib.hid (St.start w)
  have HF := Lib.hid hf
  have HG := Lib.hid hg
  clear hf hg
  go_enter Tryz.func7, Tryz.ntmps7
  go_wp2_with fail
  refine St.use (w0 := w) (by exact (((HW.out.alloc _ _).alloc _ _).alloc _ _).empty) ?_
  intro hS
  simp only [World.size_alloc] at hS
  refine (isFnS_yes n A xs cap _ (Lib.hid ((h.out.below hS.base).mono hS.size)) HF.out).mono ?_
  rintro e w1 ⟨rfl, hb⟩
  have hS1 := hS.below hb
  obtain ⟨b2, -⟩ := hS1.box (i := 2) rfl
  have b20 := b2 0 _ rfl
  have b21 := b2 1 _ rfl
  obtain ⟨b3, -⟩ := hS1.box (i := 3) rfl
  have b30 := b3 0 _ rfl
  have b31 := b3 1 _ rfl
  clear b2 b3
  clear hS hb
  have HS1 := Lib.hid hS1
  clear hS1
  go_wp2_with fail
  have hS := HS1.out
  refine (isFnS_no n2 A2 ys cap2 _ (Lib.hid ((g.out.below hS.base).mono hS.size)) HG.out).mono ?_
  rintro e w2 ⟨rfl, hb⟩
  have hS1 := hS.below hb
  clear b20 b21 b30 b31
  obtain ⟨r1, rf⟩ := hS1.box (i := 1) rfl
  have r10 := r1 0 _ rfl
  have r11 := r1 1 _ rfl
  have rf0 := rf 0
  have rf1 := rf 1
  clear r1 rf
  clear hS hb
  have HS2 := Lib.hid hS1
  clear hS1
  go_wp2
  have hZ := ((HS2.out.store (i := 1) rfl 0 (.int .i64 0)).store (i := 1) rfl 1 (.slice none 0 0))
  exact bodyPost_ret (v := .tuple #[.agg #[.int .i64 0, .slice none 0 0], .bool false]) (by simp [results, Tryz.results7, go_sem, r10, r11, rf0, rf1]) rfl ⟨none, 0, rfl, Own.nil _ _, hZ.base⟩


set_option maxRecDepth 100000 in
set_option maxHeartbeats 1600000 in
theorem addS_ne (n : Int) (A : Option Addr) (xs : List Int) (cap : Nat) (n2 : Int) (A2 : Option Addr) (ys : List Int) (cap2 : Nat) (w : World) (h : Hid (Ints w w.heap.size A xs)) (g : Hid (Ints w w.heap.size A2 ys)) (hf : isFn n xs = true) (hg : isFn n2 ys = true) (hn : n ≠ n2) :
    Calls Tryz.prog 7 #[.agg #[.int .i64 n, .slice A xs.length cap], .agg #[.int .i64 n2, .slice A2 ys.length cap2]] w (RetFB w 0 [] false) := by
  have HW := Lib.hid (St.start w)
  have hb1 : (n == n2) = false := beq_eq_false_iff_ne.2 hn
  have hb2 : (n != n2) = true := bne_iff_ne.2 hn
  have HF := Lib.hid hf
  have HG := Lib.hid hg
  clear hf hg hn
  go_enter Tryz.func7, Tryz.ntmps7
  go_wp2_with fail
  refine St.use (w0 := w) (by exact (((HW.out.alloc _ _).alloc _ _).alloc _ _).empty) ?_
  intro hS
  simp only [World.size_alloc] at hS
  refine (isFnS_yes n A xs cap _ (Lib.hid ((h.out.below hS.base).mono hS.size)) HF.out).mono ?_
  rintro e w1 ⟨rfl, hb⟩
  have hS1 := hS.below hb
  obtain ⟨b2, -⟩ := hS1.box (i := 2) rfl
  have b20 := b2 0 _ rfl
  have b21 := b2 1 _ rfl
  obtain ⟨b3, -⟩ := hS1.box (i := 3) rfl
  have b30 := b3 0 _ rfl
  have b31 := b3 1 _ rfl
  clear b2 b3
  clear hS hb
  have HS1 := Lib.hid hS1
  clear hS1
  go_wp2_with fail
  have hS := HS1.out
  refine (isFnS_yes n2 A2 ys cap2 _ (Lib.hid ((g.out.below hS.base).mono hS.size)) HG.out).mono ?_
  rintro e w2 ⟨rfl, hb⟩
  have hS1 := hS.below hb
  clear b20 b21 b30 b31
  obtain ⟨b2, -⟩ := hS1.box (i := 2) rfl
  have b20 := b2 0 _ rfl
  have b21 := b2 1 _ rfl
  obtain ⟨b3, -⟩ := hS1.box (i := 3) rfl
  have b30 := b3 0 _ rfl
  have b31 := b3 1 _ rfl
  clear b2 b3
  obtain ⟨r1, rf⟩ := hS1.box (i := 1) rfl
  have r10 := r1 0 _ rfl
  have r11 := r1 1 _ rfl
  have rf0 := rf 0
  have rf1 := rf 1
  clear r1 rf
  clear hS hb
  have HS2 := Lib.hid hS1
  clear hS1
  go_wp2
  have hZ := ((HS2.out.store (i := 1) rfl 0 (.int .i64 0)).store (i := 1) rfl 1 (.slice none 0 0))
  exact bodyPost_ret (v := .tuple #[.agg #[.int .i64 0, .slice none 0 0], .bool false]) (by simp [results, Tryz.results7, go_sem, r10, r11, rf0, rf1]) rfl ⟨none, 0, rfl, Own.nil _ _, hZ.base⟩


set_option maxRecDepth 100000 in
set_option maxHeartbeats 4000000 in
theorem addS_good (n : Int) (A : Option Addr) (xs : List Int) (cap : Nat) (A2 : Option Addr) (ys : List Int) (cap2 : Nat) (w : World) (h : Hid (Ints w w.heap.size A xs)) (g : Hid (Ints w w.heap.size A2 ys)) (hf : isFn n xs = true) (hg : isFn n ys = true) :
    Calls Tryz.prog 7 #[.agg #[.int .i64 n, .slice A xs.length cap], .agg #[.int .i64 n, .slice A2 ys.length cap2]] w (RetFB w (made n (tab xs.length fun s => xs.getD s 0 + ys.getD s 0)).1 (made n (tab xs.length fun s => xs.getD s 0 + ys.getD s 0)).2.1 (made n (tab xs.length fun s => xs.getD s 0 + ys.getD s 0)).2.2) := by
  obtain ⟨_, _, hxl, hv⟩ := isFn_yes hf
  obtain ⟨_, _, hyl, hv2⟩ := isFn_yes hg
  rw [← hxl] at hyl
  have hl := (isFn_len hf).2
  have hl1 := (isFn_len hf).1
  have HW := Lib.hid (St.start w)
  have HV := Lib.hid hv
  have HV2 := Lib.hid hv2
  obtain ⟨m, hxm⟩ : ∃ m, xs.length = m := ⟨_, rfl⟩
  rw [hxm] at hyl
  have h' := Lib.hid (show ∀ W, Ints W W.heap.size A xs → Calls Tryz.prog 15 #[.agg #[.int .i64 n, .slice A m cap]] W (RetV W (.bool true)) from fun W hW => by rw [← hxm]; exact isFnS_yes n A xs cap W hW hf)
  have g' := Lib.hid (show ∀ W, Ints W W.heap.size A2 ys → Calls Tryz.prog 15 #[.agg #[.int .i64 n, .slice A2 m cap2]] W (RetV W (.bool true)) from fun W hW => by rw [← hyl]; exact isFnS_yes n A2 ys cap2 W hW hg)
  rw [hxm] at hl hl1 ⊢
  rw [hyl]
  have HX := Lib.hid hxm
  have HY := Lib.hid hyl
  obtain ⟨rn, rx, rb, hr⟩ : ∃ rn rx rb, made n (tab m fun s => xs.getD s 0 + ys.getD s 0) = (rn, rx, rb) := ⟨_, _, _, rfl⟩
  rw [hr]
  have HR := Lib.hid hr
  clear hf hg hv hv2 hxm hxl hyl hr
  obtain ⟨i0, hi, hz0, hz1, hz2⟩ := info_parts info_int
  go_enter Tryz.func7, Tryz.ntmps7
  go_wp2_with fail
  refine St.use (w0 := w) (by exact (((HW.out.alloc _ _).alloc _ _).alloc _ _).empty) ?_
  intro hS
  simp only [World.size_alloc] at hS
  refine (h'.out _ ((h.out.below hS.base).mono hS.size)).mono ?_
  rintro e w0 ⟨rfl, hb⟩
  have hS1 := hS.below hb
  obtain ⟨b2, -⟩ := hS1.box (i := 2) rfl
  have b20 := b2 0 _ rfl
  have b21 := b2 1 _ rfl
  obtain ⟨b3, -⟩ := hS1.box (i := 3) rfl
  have b30 := b3 0 _ rfl
  have b31 := b3 1 _ rfl
  clear b2 b3
  have HS0 := Lib.hid hS1
  clear hS hb hS1
  go_wp2_with fail
  have hS := HS0.out
  refine (g'.out _ ((g.out.below hS.base).mono hS.size)).mono ?_
  rintro e w1 ⟨rfl, hb⟩
  have hS1 := hS.below hb
  clear b20 b21 b30 b31
  obtain ⟨b2, -⟩ := hS1.box (i := 2) rfl
  have b20 := b2 0 _ rfl
  have b21 := b2 1 _ rfl
  obtain ⟨b3, -⟩ := hS1.box (i := 3) rfl
  have b30 := b3 0 _ rfl
  have b31 := b3 1 _ rfl
  clear b2 b3
  have HS1 := Lib.hid hS1
  clear hS hb hS1
  go_wp2
  clear b20 b21 b30 b31
  go_loopw [6, 7] (fun v i wr => ∃ (j : Nat) (V : Option Addr) (c : Nat), i = .int .i64 j ∧ j ≤ m ∧ v = .slice V j c ∧ St w wr [il (.slice V j c) j (tab j fun s => xs.getD s 0 + ys.getD s 0), bx (w.heap.size + 1 + 1) 26 [.int .i64 0, .slice none 0 0], bx (w.heap.size + 1) 26 [.int .i64 n, .slice A2 m cap2], bx w.heap.size 26 [.int .i64 n, .slice A m cap]]) (fun _ i _ => m - (intOf i).toNat)
  case atStart => exact ⟨0, _, _, rfl, Nat.zero_le _, rfl, HS1.out⟩
  case round =>
    obtain ⟨j, V, c, rfl, hj, rfl, hS⟩ := hrel
    obtain ⟨b0, -⟩ := hS.box (i := 3) rfl
    have b00 := b0 0 _ rfl
    have b01 := b0 1 _ rfl
    obtain ⟨b1, f1⟩ := hS.box (i := 1) rfl
    have b10 := b1 0 _ rfl
    have b11 := b1 1 _ rfl
    have f10 := f1 0
    have f11 := f1 1
    have bl := (hS.lt (i := 3) rfl).2
    have bl1 := (hS.lt (i := 1) rfl).2
    obtain ⟨b2, -⟩ := hS.box (i := 2) rfl
    have b20 := b2 0 _ rfl
    have b21 := b2 1 _ rfl
    have bl2 := (hS.lt (i := 2) rfl).2
    clear b0 b1 b2 f1
    have HS := Lib.hid hS
    by_cases hlt : j < m
    · obtain ⟨b, off, rfl, hbl, hcc⟩ := h.out (by rw [HX.out]; omega)
      obtain ⟨b', off', rfl, hbl', hcc'⟩ := g.out (by rw [HY.out]; omega)
      have hc := hcc j (by rw [HX.out]; exact hlt)
      have hc0 := hcc' j (by rw [HY.out]; exact hlt)
      clear hcc hcc'
      obtain ⟨v1, v2⟩ := HV.out j (by rw [HX.out]; exact hlt)
      obtain ⟨u1, u2⟩ := HV2.out j (by rw [HY.out]; exact hlt)
      generalize hx : xs.getD j 0 = x at hc v1 v2
      generalize hy : ys.getD j 0 = y at hc0 u1 u2
      have HXJ := Lib.hid hx
      have HYJ := Lib.hid hy
      have HC := Lib.hid hc
      have HC0 := Lib.hid hc0
      have d1 := (hS.base.cell (p := ⟨b, off + j, none⟩) hbl).trans HC.out
      have d0 := (hS.base.cell (p := ⟨b', off' + j, none⟩) hbl').trans HC0.out
      clear hx hy hc hc0
      have hj0 : (0 : Int) ≤ (j : Int) := by omega
      have hjn : (j : Int) < (m : Int) := by omega
      have hxy : IntKind.i64.wrap (x + y) = x + y := IntWalk.i64_in _ (by omega)
      have htab := Lib.hid (tab_succ j fun s => xs.getD s 0 + ys.getD s 0)
      clear hS
      go_wp2
      go_region_held3 (fun w' => w'.cell? ⟨w.heap.size, 0, none⟩ = some (.int .i64 n) ∧ w'.cell? ⟨w.heap.size, 1, none⟩ = some (.slice (some ⟨b, off, none⟩) m cap) ∧ w'.cell? ⟨w.heap.size + 1, 0, none⟩ = some (.int .i64 n) ∧ w'.cell? ⟨w.heap.size + 1, 1, none⟩ = some (.slice (some ⟨b', off', none⟩) m cap2) ∧ w'.cell? ⟨b, off + j, none⟩ = some (.int .i64 x) ∧ w'.cell? ⟨b', off' + j, none⟩ = some (.int .i64 y)) (first | (refine ⟨?_, ?_, ?_, ?_, ?_, ?_⟩ <;> assumption) | go_keep) ((refine step_app1 (by rfl) (.tmp 34) (.tmp 46) 24 (by rfl) (x + y) Tryz.underlying24 hi hz0 hz1 hz2 ((HS.out.alloc _ _).drop 0).drew (i := 0) (by rfl) (by rfl) (by rfl) (by simp) (by omega) ?_; intro V' c' w2 hS2; have e2 := (hS2.box (i := 3) rfl).1; have e20 := e2 0 _ rfl; have e21 := e2 1 _ rfl; have e3 := (hS2.box (i := 2) rfl).1; have e30 := e3 0 _ rfl; have e31 := e3 1 _ rfl; have e1 := (hS2.base.cell (p := ⟨b, off + j, none⟩) hbl).trans HC.out; have e0 := (hS2.base.cell (p := ⟨b', off' + j, none⟩) hbl').trans HC0.out; have HS2 := Lib.hid hS2; clear hS2 e2 e3))
      go_wp2
      go_roundw
      case rel => exact ⟨j + 1, V', c', by go_num, by omega, rfl, by have e := HS2.out; rw [← HXJ.out, ← HYJ.out] at e; rw [htab.out]; exact e⟩
      case measure => simp [intOf]; omega
    · obtain rfl : j = m := by omega
      have hjn : ¬ (j : Int) < (j : Int) := by omega
      obtain ⟨B, d, hcall, hend⟩ := made_any n V (tab j fun s => xs.getD s 0 + ys.getD s 0) j c wr (tab_length _ _) (hS.ints (i := 0) rfl)
      rw [HR.out] at hcall hend
      have HC := Lib.hid hcall
      have HE := Lib.hid hend
      clear hcall hend hS
      go_wp2_with fail
      refine HC.out.mono ?_
      rintro e w2 ⟨rfl, hb⟩
      have hS2 := HS.out.below hb
      obtain ⟨p1, q1⟩ := hS2.box (i := 1) rfl
      have p10 := p1 0 _ rfl
      have p11 := p1 1 _ rfl
      have q10 := q1 0
      have q11 := q1 1
      have pl := (hS2.lt (i := 1) rfl).2
      clear p1 q1 hb b00 b01 b20 b21 bl2 b10 b11 f10 f11
      have HS2 := Lib.hid hS2
      clear hS2
      go_wp2
      have hS3 := ((HS2.out.store (i := 1) rfl 0 (.int .i64 rn)).store (i := 1) rfl 1 (.slice B rx.length d)).alloc [.int .i64 rn, .slice B rx.length d] 26
      exact bodyPost_ret (v := .tuple #[.agg #[.int .i64 rn, .slice B rx.length d], .bool rb]) (by simp [results, Tryz.results7, go_sem, p10, p11, q10, q11, pl]) rfl ⟨B, d, rfl, ends_own hS3 (i := 1) rfl HE.out, hS3.base⟩

theorem lowerS_any (n : Int) (A : Option Addr) (xs : List Int) (cap : Nat) (w : World) (h : Hid (Ints w w.heap.size A xs)) : Calls Tryz.prog 25 #[.agg #[.int .i64 n, .slice A xs.length cap]] w (RetFB w (lowerFn n xs).1 (lowerFn n xs).2.1 (lowerFn n xs).2.2) := by
  cases hf : isFn n xs
  · simpa [lowerFn, hf] using lowerS_bad n A xs cap w h hf
  · simpa [lowerFn, hf] using lowerS_good n A xs cap w h hf

theorem scaleS_any (n : Int) (A : Option Addr) (xs : List Int) (cap : Nat) (k : Int) (w : World) (h : Hid (Ints w w.heap.size A xs)) : Calls Tryz.prog 22 #[.agg #[.int .i64 n, .slice A xs.length cap], .int .i64 k] w (RetFB w (scaleFn n xs k).1 (scaleFn n xs k).2.1 (scaleFn n xs k).2.2) := by
  unfold scaleFn
  split
  · rename_i hh
    exact scaleS_good n A xs cap k w h hh.1 hh.2.1 hh.2.2
  · rename_i hh
    cases hf : isFn n xs
    · exact scaleS_bad n A xs cap k w h hf
    · exact scaleS_out n A xs cap k w h hf (by rw [hf] at hh; simp at hh; omega)

theorem addS_any (n : Int) (A : Option Addr) (xs : List Int) (cap : Nat) (n2 : Int) (A2 : Option Addr) (ys : List Int) (cap2 : Nat) (w : World) (h : Hid (Ints w w.heap.size A xs)) (g : Hid (Ints w w.heap.size A2 ys)) : Calls Tryz.prog 7 #[.agg #[.int .i64 n, .slice A xs.length cap], .agg #[.int .i64 n2, .slice A2 ys.length cap2]] w (RetFB w (addFn n xs n2 ys).1 (addFn n xs n2 ys).2.1 (addFn n xs n2 ys).2.2) := by
  unfold addFn
  split
  · rename_i hh
    obtain ⟨h1, h2, rfl⟩ := hh
    exact addS_good n A xs cap A2 ys cap2 w h g h1 h2
  · rename_i hh
    cases hf : isFn n xs
    · exact addS_bad1 n A xs cap n2 A2 ys cap2 w h g hf
    · cases hg : isFn n2 ys
      · exact addS_bad2 n A xs cap n2 A2 ys cap2 w h g hf hg
      · exact addS_ne n A xs cap n2 A2 ys cap2 w h g hf hg (fun e => hh ⟨hf, hg, e⟩)


end Go.Proofs.YtielfnjkfceliaaGreatDoor.C
