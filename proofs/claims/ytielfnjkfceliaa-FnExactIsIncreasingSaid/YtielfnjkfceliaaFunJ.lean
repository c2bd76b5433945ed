/-
  The contracts of impl.AddFunctions, impl.ScaleFunction, impl.LowerFunction: the ways that build a function, and all.
-/
import Derived.Test.YtielfnjkfceliaaFunI
namespace Go.Proofs.Ytielfnjkfceliaa.C
open Go.RowKit K M
set_option linter.unusedVariables false
set_option linter.unusedSimpArgs false


set_option maxRecDepth 100000 in
set_option maxHeartbeats 1600000 in
theorem scaleI_good (n : Int) (A : Option Addr) (xs : List Int) (cap : Nat) (k : Int) (w : World) (h : Hid (Ints w w.heap.size A xs)) (hf : isFn n xs = true) (k1 : -1000 ≤ k) (k2 : k ≤ 1000) :
    Calls Try.prog 39 #[.agg #[.int .i64 n, .slice A xs.length cap], .int .i64 k] w (RetFB w (made n (tab xs.length fun s => k * xs.getD s 0)).1 (made n (tab xs.length fun s => k * xs.getD s 0)).2.1 (made n (tab xs.length fun s => k * xs.getD s 0)).2.2) := by
  obtain ⟨h0, h5, hl, hv⟩ := isFn_yes hf
  have hm := (isFn_len hf).2
  have hm1 := (isFn_len hf).1
  have HF := Lib.hid hf
  have HV := Lib.hid hv
  have HL := Lib.hid hl
  have t1 : decide (k < -1000) = false := by simp; omega
  have t2 : decide (1000 < k) = false := by simp; omega
  obtain ⟨rn, rx, rb, hr⟩ : ∃ rn rx rb, made n (tab xs.length fun s => k * xs.getD s 0) = (rn, rx, rb) := ⟨_, _, _, rfl⟩
  rw [hr]
  have HR := Lib.hid hr
  clear hf hv hr hl
  have HW := Lib.hid (St.start w)
  have hmf : ∀ (fn : Fn) (first cap : Array Value) (w : World), (Instr.makeFunc fn first cap).run Try.prog w = .ok (.func fn first cap) w := fun _ _ _ _ => rfl
  go_enter Try.func39, Try.ntmps39
  go_wp2_with fail
  refine St.use (w0 := w) (by exact ((HW.out.alloc _ _).alloc _ _).alloc _ _) ?_
  intro hS
  simp only [World.size_alloc] at hS
  refine (isFnI_yes n A xs cap _ (Lib.hid ((h.out.below hS.base).mono hS.size)) HF.out).mono ?_
  rintro e w1 ⟨rfl, hb⟩
  have hS1 := hS.below hb
  obtain ⟨b, -⟩ := hS1.box (i := 2) rfl
  have b0 := b 0 _ rfl
  have b1 := b 1 _ rfl
  clear b
  have kb0 := (hS1.box (i := 1) rfl).1 0 _ rfl
  clear hS hb
  have HS1 := Lib.hid hS1
  clear hS1
  go_wp2_with fail
  refine (make_scale n xs.length (fun s => k * xs.getD s 0) ⟨w.heap.size + 1, 0, none⟩ ⟨w.heap.size, 0, none⟩ _ h0 h5 HL.out rn rx rb HR ?_).mono ?_
  · refine Lib.hid ?_
    intro j hj W hW
    obtain ⟨b, off, rfl, hbl, hc⟩ := h.out (by omega)
    obtain ⟨v1, v2⟩ := HV.out j hj
    have hS3 := HS1.out.below hW
    exact scaleC k _ j _ _ b off _ cap (.int .i64 0) W k1 k2 v1 v2 hj hm ((hS3.box (i := 1) rfl).1 0 _ rfl) ((hS3.box (i := 2) rfl).1 1 _ rfl) ((hS3.base.cell (p := ⟨b, off + j, none⟩) hbl).trans (hc j hj))
  rintro e w2 ⟨B, d, rfl, ho, hb⟩
  have hS2 := HS1.out.below hb
  obtain ⟨r1, rf⟩ := hS2.box (i := 0) rfl
  have s10 := r1 0 _ rfl
  have s11 := r1 1 _ rfl
  have sf0 := rf 0
  have sf1 := rf 1
  have hS3 := HS1.out.newI hb ho
  clear r1 rf hb ho hS2
  have HS3 := Lib.hid hS3
  clear hS3
  go_wp2
  have hZ := (HS3.out.store (i := 1) rfl 0 (.int .i64 rn)).store (i := 1) rfl 1 (.slice B rx.length d)
  exact bodyPost_ret (v := .tuple #[.agg #[.int .i64 rn, .slice B rx.length d], .bool rb]) (by simp [results, Try.results39, go_sem, s10, s11, sf0, sf1]) rfl ⟨B, d, rfl, hZ.ownI (i := 0) rfl, hZ.base⟩

theorem scaleI_any (n : Int) (A : Option Addr) (xs : List Int) (cap : Nat) (k : Int) (w : World) (h : Hid (Ints w w.heap.size A xs)) : Calls Try.prog 39 #[.agg #[.int .i64 n, .slice A xs.length cap], .int .i64 k] w (RetFB w (scaleFn n xs k).1 (scaleFn n xs k).2.1 (scaleFn n xs k).2.2) := by
  unfold scaleFn
  split
  · rename_i hh
    exact scaleI_good n A xs cap k w h hh.1 hh.2.1 hh.2.2
  · rename_i hh
    cases hf : isFn n xs
    · exact scaleI_bad n A xs cap k w h hf
    · by_cases hk : k < -1000
      · exact scaleI_lo n A xs cap k w h hf hk
      · exact scaleI_hi n A xs cap k w h hf (by rw [hf] at hh; simp at hh; omega)


end Go.Proofs.Ytielfnjkfceliaa.C
