/-
  The contracts of impl.AddFunctions, impl.ScaleFunction, impl.LowerFunction: the ways that build a function, and all.
-/
import Derived.Test.YtielfnjkfceliaaGreatDoorFunI
namespace Go.Proofs.YtielfnjkfceliaaGreatDoor.C
open Go.RowKit K M
set_option linter.unusedVariables false
set_option linter.unusedSimpArgs false


set_option maxRecDepth 100000 in
set_option maxHeartbeats 1600000 in
theorem scaleI_good (n : Int) (A : Option Addr) (xs : List Int) (cap : Nat) (k : Int) (w : World) (h : Hid (Ints w w.heap.size A xs)) (hf : isFn n xs = true) (k1 : -1000 ≤ k) (k2 : k ≤ 1000) :
    Calls Tryz.prog 21 #[.agg #[.int .i64 n, .slice A xs.length cap], .int .i64 k] w (RetFB w (made n (tab xs.length fun s => k * xs.getD s 0)).1 (made n (tab xs.length fun s => k * xs.getD s 0)).2.1 (made n (tab xs.length fun s => k * xs.getD s 0)).2.2) := by
  obtain ⟨h0, h5, hl, hv⟩ := isFn_yes hf
  have hm := (isFn_len hf).2
  have hm1 := (isFn_len hf).1
  have HF := Lib.hid hf
  have HV := Lib.hid hv
  have HL := Lib.hid hl
  have t1 : decide (k < -1000) = false := by simp; omega
  have t2 : decide (1000 < k) = false := by simp; omega
  obtain ⟨rn, rx, rb, hr⟩ : ∃ rn rx rb, made n (tab xs.length fun s => k * xs.getD s 0) = (rn, rx, rb) := ⟨_, _, _, rfl⟩
  rw [hr]
  have HR := Lib.hid hr
  clear hf hv hr hl
  have HW := Lib.hid (St.start w)
  have hmf : ∀ (fn : Fn) (first cap : Array Value) (w : World), (Instr.makeFunc fn first cap).run Tryz.prog w = .ok (.func fn first cap) w := fun _ _ _ _ => rfl
  go_enter Tryz.func21, Tryz.ntmps21
  go_wp2_with fail
  refine St.use (w0 := w) (by exact ((HW.out.alloc _ _).alloc _ _).alloc _ _) ?_
  intro hS
  simp only [World.size_alloc] at hS
  refine (isFnI_yes n A xs cap _ (Lib.hid ((h.out.below hS.base).mono hS.size)) HF.out).mono ?_
  rintro e w1 ⟨rfl, hb⟩
  have hS1 := hS.below hb
  obtain ⟨b, -⟩ := hS1.box (i := 2) rfl
  have b0 := b 0 _ rfl
  have b1 := b 1 _ rfl
  clear b
  have kb0 := (hS1.box (i := 1) rfl).1 0 _ rfl
  clear hS hb
  have HS1 := Lib.hid hS1
  clear hS1
  go_wp2_with fail
  refine (make_scale n xs.length (fun s => k * xs.getD s 0) ⟨w.heap.size + 1, 0, none⟩ ⟨w.heap.size, 0, none⟩ _ h0 h5 HL.out rn rx rb HR ?_).mono ?_
  · refine Lib.hid ?_
    intro j hj W hW
    obtain ⟨b, off, rfl, hbl, hc⟩ := h.out (by omega)
    obtain ⟨v1, v2⟩ := HV.out j hj
    have hS3 := HS1.out.below hW
    exact scaleC k _ j _ _ b off _ cap (.int .i64 0) W k1 k2 v1 v2 hj hm ((hS3.box (i := 1) rfl).1 0 _ rfl) ((hS3.box (i := 2) rfl).1 1 _ rfl) ((hS3.base.cell (p := ⟨b, off + j, none⟩) hbl).trans (hc j hj))
  rintro e w2 ⟨B, d, rfl, ho, hb⟩
  have hS2 := HS1.out.below hb
  obtain ⟨r1, rf⟩ := hS2.box (i := 0) rfl
  have s10 := r1 0 _ rfl
  have s11 := r1 1 _ rfl
  have sf0 := rf 0
  have sf1 := rf 1
  have hS3 := HS1.out.newI hb ho
  clear r1 rf hb ho hS2
  have HS3 := Lib.hid hS3
  clear hS3
  go_wp2
  have hZ := (HS3.out.store (i := 1) rfl 0 (.int .i64 rn)).store (i := 1) rfl 1 (.slice B rx.length d)
  exact bodyPost_ret (v := .tuple #[.agg #[.int .i64 rn, .slice B rx.length d], .bool rb]) (by simp [results, Tryz.results21, go_sem, s10, s11, sf0, sf1]) rfl ⟨B, d, rfl, hZ.ownI (i := 0) rfl, hZ.base⟩


set_option maxRecDepth 100000 in
set_option maxHeartbeats 1600000 in
theorem lowerI_good (n : Int) (A : Option Addr) (xs : List Int) (cap : Nat) (w : World) (h : Hid (Ints w w.heap.size A xs)) (hf : isFn n xs = true) :
    Calls Tryz.prog 24 #[.agg #[.int .i64 n, .slice A xs.length cap]] w (RetFB w (made n (tab xs.length fun s => xs.getD s 0 - xs.getD 0 0)).1 (made n (tab xs.length fun s => xs.getD s 0 - xs.getD 0 0)).2.1 (made n (tab xs.length fun s => xs.getD s 0 - xs.getD 0 0)).2.2) := by
  obtain ⟨h0, h5, hl, hv⟩ := isFn_yes hf
  have hm := (isFn_len hf).2
  have hm1 := (isFn_len hf).1
  have HF := Lib.hid hf
  have HV := Lib.hid hv
  have HL := Lib.hid hl
  obtain ⟨rn, rx, rb, hr⟩ : ∃ rn rx rb, made n (tab xs.length fun s => xs.getD s 0 - xs.getD 0 0) = (rn, rx, rb) := ⟨_, _, _, rfl⟩
  rw [hr]
  have HR := Lib.hid hr
  clear hf hv hr hl
  have HW := Lib.hid (St.start w)
  have hmf : ∀ (fn : Fn) (first cap : Array Value) (w : World), (Instr.makeFunc fn first cap).run Tryz.prog w = .ok (.func fn first cap) w := fun _ _ _ _ => rfl
  go_enter Tryz.func24, Tryz.ntmps24
  go_wp2_with fail
  refine St.use (w0 := w) (by exact (HW.out.alloc _ _).alloc _ _) ?_
  intro hS
  simp only [World.size_alloc] at hS
  refine (isFnI_yes n A xs cap _ (Lib.hid ((h.out.below hS.base).mono hS.size)) HF.out).mono ?_
  rintro e w1 ⟨rfl, hb⟩
  have hS1 := hS.below hb
  obtain ⟨b, -⟩ := hS1.box (i := 1) rfl
  have b0 := b 0 _ rfl
  have b1 := b 1 _ rfl
  clear b
  clear hS hb
  have HS1 := Lib.hid hS1
  clear hS1
  go_wp2_with fail
  refine (make_lower n xs.length (fun s => xs.getD s 0 - xs.getD 0 0) ⟨w.heap.size, 0, none⟩ _ h0 h5 HL.out rn rx rb HR ?_).mono ?_
  · refine Lib.hid ?_
    intro j hj W hW
    obtain ⟨b, off, rfl, hbl, hc⟩ := h.out (by omega)
    obtain ⟨v1, v2⟩ := HV.out j hj
    obtain ⟨u1, u2⟩ := HV.out 0 (by omega)
    have hS3 := HS1.out.below hW
    have hc0 := hc 0 (by omega)
    rw [Nat.add_zero] at hc0
    exact lowerC _ _ j _ b off _ cap W v1 v2 u1 u2 hj hm ((hS3.box (i := 1) rfl).1 1 _ rfl) ((hS3.base.cell (p := ⟨b, off + j, none⟩) hbl).trans (hc j hj)) ((hS3.base.cell (p := ⟨b, off, none⟩) hbl).trans hc0)
  rintro e w2 ⟨B, d, rfl, ho, hb⟩
  have hS2 := HS1.out.below hb
  obtain ⟨r1, rf⟩ := hS2.box (i := 0) rfl
  have s10 := r1 0 _ rfl
  have s11 := r1 1 _ rfl
  have sf0 := rf 0
  have sf1 := rf 1
  have hS3 := HS1.out.newI hb ho
  clear r1 rf hb ho hS2
  have HS3 := Lib.hid hS3
  clear hS3
  go_wp2
  have hZ := (HS3.out.store (i := 1) rfl 0 (.int .i64 rn)).store (i := 1) rfl 1 (.slice B rx.length d)
  exact bodyPost_ret (v := .tuple #[.agg #[.int .i64 rn, .slice B rx.length d], .bool rb]) (by simp [results, Tryz.results24, go_sem, s10, s11, sf0, sf1]) rfl ⟨B, d, rfl, hZ.ownI (i := 0) rfl, hZ.base⟩


set_option maxRecDepth 100000 in
set_option maxHeartbeats 1600000 in
theorem addI_good (n : Int) (A : Option Addr) (xs : List Int) (cap : Nat) (A2 : Option Addr) (ys : List Int) (cap2 : Nat) (w : World) (h : Hid (Ints w w.heap.size A xs)) (g : Hid (Ints w w.heap.size A2 ys)) (hf : isFn n xs = true) (hg : isFn n ys = true) :
    Calls Tryz.prog 6 #[.agg #[.int .i64 n, .slice A xs.length cap], .agg #[.int .i64 n, .slice A2 ys.length cap2]] w (RetFB w (made n (tab xs.length fun s => xs.getD s 0 + ys.getD s 0)).1 (made n (tab xs.length fun s => xs.getD s 0 + ys.getD s 0)).2.1 (made n (tab xs.length fun s => xs.getD s 0 + ys.getD s 0)).2.2) := by
  obtain ⟨h0, h5, hl, hv⟩ := isFn_yes hf
  have hm := (isFn_len hf).2
  have hm1 := (isFn_len hf).1
  have HF := Lib.hid hf
  have HV := Lib.hid hv
  have HL := Lib.hid hl
  obtain ⟨_, _, hyl, hv2⟩ := isFn_yes hg
  rw [← hl] at hyl
  have HG := Lib.hid hg
  have HY := Lib.hid hyl
  have HV2 := Lib.hid hv2
  obtain ⟨rn, rx, rb, hr⟩ : ∃ rn rx rb, made n (tab xs.length fun s => xs.getD s 0 + ys.getD s 0) = (rn, rx, rb) := ⟨_, _, _, rfl⟩
  rw [hr]
  have HR := Lib.hid hr
  clear hf hv hr hl hg hyl hv2
  have HW := Lib.hid (St.start w)
  have hmf : ∀ (fn : Fn) (first cap : Array Value) (w : World), (Instr.makeFunc fn first cap).run Tryz.prog w = .ok (.func fn first cap) w := fun _ _ _ _ => rfl
  go_enter Tryz.func6, Tryz.ntmps6
  go_wp2_with fail
  refine St.use (w0 := w) (by exact ((HW.out.alloc _ _).alloc _ _).alloc _ _) ?_
  intro hS
  simp only [World.size_alloc] at hS
  refine (isFnI_yes n A xs cap _ (Lib.hid ((h.out.below hS.base).mono hS.size)) HF.out).mono ?_
  rintro e w1 ⟨rfl, hb⟩
  have hS1 := hS.below hb
  obtain ⟨b, -⟩ := hS1.box (i := 2) rfl
  have b0 := b 0 _ rfl
  have b1 := b 1 _ rfl
  clear b
  obtain ⟨c, -⟩ := hS1.box (i := 1) rfl
  have c0 := c 0 _ rfl
  have c1 := c 1 _ rfl
  clear c
  clear hS hb
  have HS1 := Lib.hid hS1
  clear hS1
  go_wp2_with fail
  have hS := HS1.out
  refine (isFnI_yes n A2 ys cap2 _ (Lib.hid ((g.out.below hS.base).mono hS.size)) HG.out).mono ?_
  rintro e w2 ⟨rfl, hb⟩
  have hS1 := hS.below hb
  clear b0 b1 c0 c1
  obtain ⟨b, -⟩ := hS1.box (i := 2) rfl
  have b0 := b 0 _ rfl
  have b1 := b 1 _ rfl
  clear b
  obtain ⟨c, -⟩ := hS1.box (i := 1) rfl
  have c0 := c 0 _ rfl
  have c1 := c 1 _ rfl
  clear c
  clear hS hb
  have HS1 := Lib.hid hS1
  clear hS1
  go_wp2_with fail
  refine (make_add n xs.length (fun s => xs.getD s 0 + ys.getD s 0) ⟨w.heap.size, 0, none⟩ ⟨w.heap.size + 1, 0, none⟩ _ h0 h5 HL.out rn rx rb HR ?_).mono ?_
  · refine Lib.hid ?_
    intro j hj W hW
    obtain ⟨b, off, rfl, hbl, hc⟩ := h.out (by omega)
    obtain ⟨b', off', rfl, hbl', hc'⟩ := g.out (by rw [HY.out]; omega)
    obtain ⟨v1, v2⟩ := HV.out j hj
    obtain ⟨u1, u2⟩ := HV2.out j (by rw [HY.out]; exact hj)
    have hS3 := HS1.out.below hW
    have hq := (hS3.box (i := 1) rfl).1 1 _ rfl
    rw [HY.out] at hq
    exact addC _ _ j _ b off _ cap _ b' off' cap2 W v1 v2 u1 u2 hj hm ((hS3.box (i := 2) rfl).1 1 _ rfl) hq ((hS3.base.cell (p := ⟨b, off + j, none⟩) hbl).trans (hc j hj)) ((hS3.base.cell (p := ⟨b', off' + j, none⟩) hbl').trans (hc' j (by rw [HY.out]; exact hj)))
  rintro e w2 ⟨B, d, rfl, ho, hb⟩
  have hS2 := HS1.out.below hb
  obtain ⟨r1, rf⟩ := hS2.box (i := 0) rfl
  have s10 := r1 0 _ rfl
  have s11 := r1 1 _ rfl
  have sf0 := rf 0
  have sf1 := rf 1
  have hS3 := HS1.out.newI hb ho
  clear r1 rf hb ho hS2
  have HS3 := Lib.hid hS3
  clear hS3
  go_wp2
  have hZ := (HS3.out.store (i := 1) rfl 0 (.int .i64 rn)).store (i := 1) rfl 1 (.slice B rx.length d)
  exact bodyPost_ret (v := .tuple #[.agg #[.int .i64 rn, .slice B rx.length d], .bool rb]) (by simp [results, Tryz.results6, go_sem, s10, s11, sf0, sf1]) rfl ⟨B, d, rfl, hZ.ownI (i := 0) rfl, hZ.base⟩


theorem lowerI_any (n : Int) (A : Option Addr) (xs : List Int) (cap : Nat) (w : World) (h : Hid (Ints w w.heap.size A xs)) : Calls Tryz.prog 24 #[.agg #[.int .i64 n, .slice A xs.length cap]] w (RetFB w (lowerFn n xs).1 (lowerFn n xs).2.1 (lowerFn n xs).2.2) := by
  cases hf : isFn n xs
  · simpa [lowerFn, hf] using lowerI_bad n A xs cap w h hf
  · simpa [lowerFn, hf] using lowerI_good n A xs cap w h hf

theorem scaleI_any (n : Int) (A : Option Addr) (xs : List Int) (cap : Nat) (k : Int) (w : World) (h : Hid (Ints w w.heap.size A xs)) : Calls Tryz.prog 21 #[.agg #[.int .i64 n, .slice A xs.length cap], .int .i64 k] w (RetFB w (scaleFn n xs k).1 (scaleFn n xs k).2.1 (scaleFn n xs k).2.2) := by
  unfold scaleFn
  split
  · rename_i hh
    exact scaleI_good n A xs cap k w h hh.1 hh.2.1 hh.2.2
  · rename_i hh
    cases hf : isFn n xs
    · exact scaleI_bad n A xs cap k w h hf
    · by_cases hk : k < -1000
      · exact scaleI_lo n A xs cap k w h hf hk
      · exact scaleI_hi n A xs cap k w h hf (by rw [hf] at hh; simp at hh; omega)

theorem addI_any (n : Int) (A : Option Addr) (xs : List Int) (cap : Nat) (n2 : Int) (A2 : Option Addr) (ys : List Int) (cap2 : Nat) (w : World) (h : Hid (Ints w w.heap.size A xs)) (g : Hid (Ints w w.heap.size A2 ys)) : Calls Tryz.prog 6 #[.agg #[.int .i64 n, .slice A xs.length cap], .agg #[.int .i64 n2, .slice A2 ys.length cap2]] w (RetFB w (addFn n xs n2 ys).1 (addFn n xs n2 ys).2.1 (addFn n xs n2 ys).2.2) := by
  unfold addFn
  split
  · rename_i hh
    obtain ⟨h1, h2, rfl⟩ := hh
    exact addI_good n A xs cap A2 ys cap2 w h g h1 h2
  · rename_i hh
    cases hf : isFn n xs
    · exact addI_bad1 n A xs cap n2 A2 ys cap2 w h g hf
    · cases hg : isFn n2 ys
      · exact addI_bad2 n A xs cap n2 A2 ys cap2 w h g hf hg
      · exact addI_ne n A xs cap n2 A2 ys cap2 w h g hf hg (fun e => hh ⟨hf, hg, e⟩)


end Go.Proofs.YtielfnjkfceliaaGreatDoor.C
