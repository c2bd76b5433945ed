/-
  The contract of impl.TruncateFunction.
-/
import Derived.Test.YtelihjanjlklpaaCvI
namespace Go.Proofs.Ytelihjanjlklpaa.C
open Go.RowKit K M
set_option linter.unusedVariables false
set_option linter.unusedSimpArgs false

set_option maxRecDepth 100000 in
set_option maxHeartbeats 1600000 in
theorem truncI_bad (n : Int) (A : Option Addr) (xs : List Int) (cap : Nat) (k : Int) (w : World) (h : Hid (Ints w w.heap.size A xs)) (hf : isFn n xs = false) :
    Calls Try.prog 19 #[.agg #[.int .i64 n, .slice A xs.length cap], .int .i64 k] w (RetFB w 0 [] false) := by
  have HF := Lib.hid hf
  clear hf
  have HW := Lib.hid (St.start w)
  have hmf : ∀ (fn : Fn) (first cap : Array Value) (w : World), (Instr.makeFunc fn first cap).run Try.prog w = .ok (.func fn first cap) w := fun _ _ _ _ => rfl
  go_enter Try.func19, Try.ntmps19
  go_wp2_with fail
  refine St.use (w0 := w) (by exact ((HW.out.alloc _ _).alloc _ _).alloc _ _) ?_
  intro hS
  simp only [World.size_alloc] at hS
  refine (isFnI_no n A xs cap _ (Lib.hid ((h.out.below hS.base).mono hS.size)) HF.out).mono ?_
  rintro e w1 ⟨rfl, hb⟩
  have hS1 := hS.below hb
  obtain ⟨r1, rf⟩ := hS1.box (i := 0) rfl
  have r10 := r1 0 _ rfl
  have r11 := r1 1 _ rfl
  have rf0 := rf 0
  have rf1 := rf 1
  clear r1 rf
  clear hS hb
  have HS1 := Lib.hid hS1
  clear hS1
  go_wp2
  have hZ := (HS1.out.store (i := 0) rfl 0 (.int .i64 0)).store (i := 0) rfl 1 (.slice none 0 0)
  exact bodyPost_ret (v := .tuple #[.agg #[.int .i64 0, .slice none 0 0], .bool false]) (by simp [results, Try.results19, go_sem, r10, r11, rf0, rf1]) rfl ⟨none, 0, rfl, K.Own.nil _ _, hZ.base⟩

set_option maxRecDepth 100000 in
set_option maxHeartbeats 1600000 in
theorem truncI_lo (n : Int) (A : Option Addr) (xs : List Int) (cap : Nat) (k : Int) (w : World) (h : Hid (Ints w w.heap.size A xs)) (hf : isFn n xs = true) (hk : k < -1000) :
    Calls Try.prog 19 #[.agg #[.int .i64 n, .slice A xs.length cap], .int .i64 k] w (RetFB w 0 [] false) := by
  have HF := Lib.hid hf
  clear hf
  have HW := Lib.hid (St.start w)
  have hmf : ∀ (fn : Fn) (first cap : Array Value) (w : World), (Instr.makeFunc fn first cap).run Try.prog w = .ok (.func fn first cap) w := fun _ _ _ _ => rfl
  go_enter Try.func19, Try.ntmps19
  go_wp2_with fail
  refine St.use (w0 := w) (by exact ((HW.out.alloc _ _).alloc _ _).alloc _ _) ?_
  intro hS
  simp only [World.size_alloc] at hS
  refine (isFnI_yes n A xs cap _ (Lib.hid ((h.out.below hS.base).mono hS.size)) HF.out).mono ?_
  rintro e w1 ⟨rfl, hb⟩
  have hS1 := hS.below hb
  obtain ⟨r1, rf⟩ := hS1.box (i := 0) rfl
  have r10 := r1 0 _ rfl
  have r11 := r1 1 _ rfl
  have rf0 := rf 0
  have rf1 := rf 1
  clear r1 rf
  have kb0 := (hS1.box (i := 1) rfl).1 0 _ rfl
  clear hS hb
  have HS1 := Lib.hid hS1
  clear hS1
  go_wp2
  have hZ := (HS1.out.store (i := 0) rfl 0 (.int .i64 0)).store (i := 0) rfl 1 (.slice none 0 0)
  exact bodyPost_ret (v := .tuple #[.agg #[.int .i64 0, .slice none 0 0], .bool false]) (by simp [results, Try.results19, go_sem, r10, r11, rf0, rf1]) rfl ⟨none, 0, rfl, K.Own.nil _ _, hZ.base⟩

set_option maxRecDepth 100000 in
set_option maxHeartbeats 1600000 in
theorem truncI_hi (n : Int) (A : Option Addr) (xs : List Int) (cap : Nat) (k : Int) (w : World) (h : Hid (Ints w w.heap.size A xs)) (hf : isFn n xs = true) (hk : 1000 < k) :
    Calls Try.prog 19 #[.agg #[.int .i64 n, .slice A xs.length cap], .int .i64 k] w (RetFB w 0 [] false) := by
  have HF := Lib.hid hf
  have hk2 : decide (k < -1000) = false := by simp; omega
  clear hf
  have HW := Lib.hid (St.start w)
  have hmf : ∀ (fn : Fn) (first cap : Array Value) (w : World), (Instr.makeFunc fn first cap).run Try.prog w = .ok (.func fn first cap) w := fun _ _ _ _ => rfl
  go_enter Try.func19, Try.ntmps19
  go_wp2_with fail
  refine St.use (w0 := w) (by exact ((HW.out.alloc _ _).alloc _ _).alloc _ _) ?_
  intro hS
  simp only [World.size_alloc] at hS
  refine (isFnI_yes n A xs cap _ (Lib.hid ((h.out.below hS.base).mono hS.size)) HF.out).mono ?_
  rintro e w1 ⟨rfl, hb⟩
  have hS1 := hS.below hb
  obtain ⟨r1, rf⟩ := hS1.box (i := 0) rfl
  have r10 := r1 0 _ rfl
  have r11 := r1 1 _ rfl
  have rf0 := rf 0
  have rf1 := rf 1
  clear r1 rf
  have kb0 := (hS1.box (i := 1) rfl).1 0 _ rfl
  clear hS hb
  have HS1 := Lib.hid hS1
  clear hS1
  go_wp2
  have hZ := (HS1.out.store (i := 0) rfl 0 (.int .i64 0)).store (i := 0) rfl 1 (.slice none 0 0)
  exact bodyPost_ret (v := .tuple #[.agg #[.int .i64 0, .slice none 0 0], .bool false]) (by simp [results, Try.results19, go_sem, r10, r11, rf0, rf1]) rfl ⟨none, 0, rfl, K.Own.nil _ _, hZ.base⟩

set_option maxRecDepth 100000 in
set_option maxHeartbeats 1600000 in
theorem truncI_good (n : Int) (A : Option Addr) (xs : List Int) (cap : Nat) (k : Int) (w : World) (h : Hid (Ints w w.heap.size A xs)) (hf : isFn n xs = true) (k1 : -1000 ≤ k) (k2 : k ≤ 1000) :
    Calls Try.prog 19 #[.agg #[.int .i64 n, .slice A xs.length cap], .int .i64 k] w (RetFB w (made n (tab xs.length (truncV xs k))).1 (made n (tab xs.length (truncV xs k))).2.1 (made n (tab xs.length (truncV xs k))).2.2) := by
  obtain ⟨h0, h5, hl, hv⟩ := isFn_yes hf
  have hm := (isFn_len hf).2
  have hm1 := (isFn_len hf).1
  have HF := Lib.hid hf
  have HV := Lib.hid hv
  have HL := Lib.hid hl
  have t1 : decide (k < -1000) = false := by simp; omega
  have t2 : decide (1000 < k) = false := by simp; omega
  obtain ⟨rn, rx, rb, hr⟩ : ∃ rn rx rb, made n (tab xs.length (truncV xs k)) = (rn, rx, rb) := ⟨_, _, _, rfl⟩
  rw [hr]
  have HR := Lib.hid hr
  clear hf hv hr hl
  have HW := Lib.hid (St.start w)
  have hmf : ∀ (fn : Fn) (first cap : Array Value) (w : World), (Instr.makeFunc fn first cap).run Try.prog w = .ok (.func fn first cap) w := fun _ _ _ _ => rfl
  go_enter Try.func19, Try.ntmps19
  go_wp2_with fail
  refine St.use (w0 := w) (by exact ((HW.out.alloc _ _).alloc _ _).alloc _ _) ?_
  intro hS
  simp only [World.size_alloc] at hS
  refine (isFnI_yes n A xs cap _ (Lib.hid ((h.out.below hS.base).mono hS.size)) HF.out).mono ?_
  rintro e w1 ⟨rfl, hb⟩
  have hS1 := hS.below hb
  obtain ⟨b, -⟩ := hS1.box (i := 2) rfl
  have b0 := b 0 _ rfl
  have b1 := b 1 _ rfl
  clear b
  have kb0 := (hS1.box (i := 1) rfl).1 0 _ rfl
  clear hS hb
  have HS1 := Lib.hid hS1
  clear hS1
  go_wp2_with fail
  refine (make_trunc n xs.length (truncV xs k) _ _ _ h0 h5 HL.out rn rx rb HR ?_).mono ?_
  · refine Lib.hid ?_
    intro j hj W hW
    obtain ⟨b, off, rfl, hbl, hc⟩ := h.out (by omega)
    obtain ⟨v1, v2⟩ := HV.out j hj
    have hS3 := HS1.out.below hW
    exact truncF k _ j _ _ b off _ cap W hj ((hS3.box (i := 1) rfl).1 0 _ rfl) ((hS3.box (i := 2) rfl).1 1 _ rfl) ((hS3.base.cell (p := ⟨b, off + j, none⟩) hbl).trans (hc j hj))
  rintro e w2 ⟨B, d, rfl, ho, hb⟩
  have hS2 := HS1.out.below hb
  obtain ⟨r1, rf⟩ := hS2.box (i := 0) rfl
  have s10 := r1 0 _ rfl
  have s11 := r1 1 _ rfl
  have sf0 := rf 0
  have sf1 := rf 1
  have hS3 := HS1.out.newI hb ho
  clear r1 rf hb ho hS2
  have HS3 := Lib.hid hS3
  clear hS3
  go_wp2
  have hZ := (HS3.out.store (i := 1) rfl 0 (.int .i64 rn)).store (i := 1) rfl 1 (.slice B rx.length d)
  exact bodyPost_ret (v := .tuple #[.agg #[.int .i64 rn, .slice B rx.length d], .bool rb]) (by simp [results, Try.results19, go_sem, s10, s11, sf0, sf1]) rfl ⟨B, d, rfl, hZ.ownI (i := 0) rfl, hZ.base⟩

theorem truncI_any (n : Int) (A : Option Addr) (xs : List Int) (cap : Nat) (k : Int) (w : World) (h : Hid (Ints w w.heap.size A xs)) :
    Calls Try.prog 19 #[.agg #[.int .i64 n, .slice A xs.length cap], .int .i64 k] w (RetFB w (truncFn n xs k).1 (truncFn n xs k).2.1 (truncFn n xs k).2.2) := by
  cases hf : isFn n xs
  · unfold truncFn
    rw [if_neg (by rw [hf]; simp)]
    exact truncI_bad n A xs cap k w h hf
  · by_cases hk : -1000 ≤ k ∧ k ≤ 1000
    · rw [trunc_made hf hk.1 hk.2]
      exact truncI_good n A xs cap k w h hf hk.1 hk.2
    · unfold truncFn
      rw [if_neg fun hh => hk hh.2]
      by_cases hlo : k < -1000
      · exact truncI_lo n A xs cap k w h hf hlo
      · exact truncI_hi n A xs cap k w h hf (by omega)


end Go.Proofs.Ytelihjanjlklpaa.C
