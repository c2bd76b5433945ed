/-
  The contracts of spec.AddFunctions, spec.ScaleFunction, spec.LowerFunction and of what they call.
-/
import Derived.Test.YtielfnjkfceliaaGreatDoorIsFnS
import Derived.Test.YtielfnjkfceliaaGreatDoorHeld
namespace Go.Proofs.YtielfnjkfceliaaGreatDoor.C
open Go.RowKit K M
set_option linter.unusedVariables false
set_option linter.unusedSimpArgs false

set_option maxHeartbeats 800000 in
theorem made_yes (n : Int) (A : Option Addr) (xs : List Int) (cap : Nat) (w : World) (h : Hid (Ints w w.heap.size A xs)) (hf : isFn n xs = true) :
    Calls Tryz.prog 40 #[.int .i64 n, .slice A xs.length cap] w (RetV w (.tuple #[.agg #[.int .i64 n, .slice A xs.length cap], .bool true])) := by
  have HW := Lib.hid (St.start w)
  have HF := Lib.hid hf
  clear hf
  go_enter Tryz.func40, Tryz.ntmps40
  go_wp2_with fail
  refine St.use (w0 := w) (by exact (HW.out.alloc _ _).alloc _ _) ?_
  intro hS
  simp only [World.size_alloc] at hS
  refine (isFnS_yes n A xs cap _ (Lib.hid ((h.out.below hS.base).mono hS.size)) HF.out).mono ?_
  rintro e w1 ⟨rfl, hb⟩
  have hS1 := hS.below hb
  obtain ⟨b0, f0⟩ := hS1.box (i := 0) rfl
  obtain ⟨b1, f1⟩ := hS1.box (i := 1) rfl
  have b00 := b0 0 _ rfl
  have b01 := b0 1 _ rfl
  have b10 := b1 0 _ rfl
  have b11 := b1 1 _ rfl
  have f10 := f1 0
  have f11 := f1 1
  clear b0 b1 f0 f1 hS hb
  have HS1 := Lib.hid hS1
  clear hS1
  go_wp2
  have hS2 := (HS1.out.store (i := 1) rfl 0 (.int .i64 n)).store (i := 1) rfl 1 (.slice A xs.length cap)
  exact bodyPost_ret (v := .tuple #[.agg #[.int .i64 n, .slice A xs.length cap], .bool true]) (by simp [results, Tryz.results40, go_sem, b00, b01, b10, b11, f10, f11]) rfl ⟨rfl, hS2.base⟩

set_option maxHeartbeats 800000 in
theorem made_no (n : Int) (A : Option Addr) (xs : List Int) (cap : Nat) (w : World) (h : Hid (Ints w w.heap.size A xs)) (hf : isFn n xs = false) :
    Calls Tryz.prog 40 #[.int .i64 n, .slice A xs.length cap] w (RetV w (.tuple #[.agg #[.int .i64 0, .slice none 0 0], .bool false])) := by
  have HW := Lib.hid (St.start w)
  have HF := Lib.hid hf
  clear hf
  go_enter Tryz.func40, Tryz.ntmps40
  go_wp2_with fail
  refine St.use (w0 := w) (by exact (HW.out.alloc _ _).alloc _ _) ?_
  intro hS
  simp only [World.size_alloc] at hS
  refine (isFnS_no n A xs cap _ (Lib.hid ((h.out.below hS.base).mono hS.size)) HF.out).mono ?_
  rintro e w1 ⟨rfl, hb⟩
  have hS1 := hS.below hb
  obtain ⟨b1, f1⟩ := hS1.box (i := 1) rfl
  have b10 := b1 0 _ rfl
  have b11 := b1 1 _ rfl
  have f10 := f1 0
  have f11 := f1 1
  clear b1 f1 hS hb
  have HS1 := Lib.hid hS1
  clear hS1
  go_wp2
  have hS2 := (HS1.out.store (i := 1) rfl 0 (.int .i64 0)).store (i := 1) rfl 1 (.slice none 0 0)
  exact bodyPost_ret (v := .tuple #[.agg #[.int .i64 0, .slice none 0 0], .bool false]) (by simp [results, Tryz.results40, go_sem, b10, b11, f10, f11]) rfl ⟨rfl, hS2.base⟩

/-- The two ends of a function that is built: made, or none. -/
def Ends (A : Option Addr) (cap : Nat) (xs : List Int) (B : Option Addr) (d : Nat) (rx : List Int) : Prop := (B = A ∧ d = cap ∧ rx = xs) ∨ (B = none ∧ d = 0 ∧ rx = [])
theorem made_any (n : Int) (A : Option Addr) (xs : List Int) (m cap : Nat) (w : World) (hm : xs.length = m) (h : Ints w w.heap.size A xs) :
    ∃ (B : Option Addr) (d : Nat), Calls Tryz.prog 40 #[.int .i64 n, .slice A m cap] w (RetV w (.tuple #[.agg #[.int .i64 (made n xs).1, .slice B (made n xs).2.1.length d], .bool (made n xs).2.2])) ∧ Ends A cap xs B d (made n xs).2.1 := by
  subst hm
  cases hf : isFn n xs
  · refine ⟨none, 0, ?_, .inr ⟨rfl, rfl, by simp [made, hf]⟩⟩
    have := made_no n A xs cap w h hf
    simpa [made, hf] using this
  · refine ⟨A, cap, ?_, .inl ⟨rfl, rfl, by simp [made, hf]⟩⟩
    have := made_yes n A xs cap w h hf
    simpa [made, hf] using this
/-- What a built function leaves, told of the row that it was built in. -/
theorem ends_own {w0 w : World} {L : List Cel} {i n c : Nat} {A : Option Addr} {xs : List Int} (h : St w0 w L) (hi : L[i]? = some (il (.slice A n c) n xs)) {B : Option Addr} {d : Nat} {rx : List Int} (he : Ends A c xs B d rx) : Own w w0.heap.size (.slice B rx.length d) rx := by
  rcases he with ⟨rfl, rfl, rfl⟩ | ⟨rfl, rfl, rfl⟩
  · have := h.ownI hi
    have hl : rx.length = n := OwnN.len (h.own hi)
    rw [hl]
    exact this
  · exact Own.nil _ _

set_option maxRecDepth 100000 in
set_option maxHeartbeats 1600000 in
theorem scaleS_bad (n : Int) (A : Option Addr) (xs : List Int) (cap : Nat) (k : Int) (w : World) (h : Hid (Ints w w.heap.size A xs)) (hf : isFn n xs = false) :
    Calls Tryz.prog 22 #[.agg #[.int .i64 n, .slice A xs.length cap], .int .i64 k] w (RetFB w 0 [] false) := by
  have HW := Lib.hid (St.start w)
  have HF := Lib.hid hf
  clear hf
  go_enter Tryz.func22, Tryz.ntmps22
  go_wp2_with fail
  refine St.use (w0 := w) (by exact ((HW.out.alloc _ _).alloc _ _).empty) ?_
  intro hS
  simp only [World.size_alloc] at hS
  refine (isFnS_no n A xs cap _ (Lib.hid ((h.out.below hS.base).mono hS.size)) HF.out).mono ?_
  rintro e w1 ⟨rfl, hb⟩
  have hS1 := hS.below hb
  obtain ⟨b1, f1⟩ := hS1.box (i := 1) rfl
  have b10 := b1 0 _ rfl
  have b11 := b1 1 _ rfl
  have f10 := f1 0
  have f11 := f1 1
  clear b1 f1 hS hb
  have HS1 := Lib.hid hS1
  clear hS1
  go_wp2
  have hS2 := (HS1.out.store (i := 1) rfl 0 (.int .i64 0)).store (i := 1) rfl 1 (.slice none 0 0)
  exact bodyPost_ret (v := .tuple #[.agg #[.int .i64 0, .slice none 0 0], .bool false]) (by simp [results, Tryz.results22, go_sem, b10, b11, f10, f11]) rfl ⟨none, 0, rfl, Own.nil _ _, hS2.base⟩

set_option maxRecDepth 100000 in
set_option maxHeartbeats 1600000 in
theorem scaleS_out (n : Int) (A : Option Addr) (xs : List Int) (cap : Nat) (k : Int) (w : World) (h : Hid (Ints w w.heap.size A xs)) (hf : isFn n xs = true) (hk : k < -1000 ∨ 1000 < k) :
    Calls Tryz.prog 22 #[.agg #[.int .i64 n, .slice A xs.length cap], .int .i64 k] w (RetFB w 0 [] false) := by
  have HW := Lib.hid (St.start w)
  have HF := Lib.hid hf
  have HK := Lib.hid hk
  clear hf hk
  go_enter Tryz.func22, Tryz.ntmps22
  go_wp2_with fail
  refine St.use (w0 := w) (by exact ((HW.out.alloc _ _).alloc _ _).empty) ?_
  intro hS
  simp only [World.size_alloc] at hS
  refine (isFnS_yes n A xs cap _ (Lib.hid ((h.out.below hS.base).mono hS.size)) HF.out).mono ?_
  rintro e w1 ⟨rfl, hb⟩
  have hS1 := hS.below hb
  obtain ⟨b1, f1⟩ := hS1.box (i := 1) rfl
  have b10 := b1 0 _ rfl
  have b11 := b1 1 _ rfl
  have f10 := f1 0
  have f11 := f1 1
  clear b1 f1 hS hb
  have HS1 := Lib.hid hS1
  clear hS1
  go_wp2_with (go_at_call 50; refine (in_no k (-1000) 1000 _ HK.out).mono ?_; rintro e w' ⟨rfl, rfl⟩)
  have hS2 := (HS1.out.store (i := 1) rfl 0 (.int .i64 0)).store (i := 1) rfl 1 (.slice none 0 0)
  exact bodyPost_ret (v := .tuple #[.agg #[.int .i64 0, .slice none 0 0], .bool false]) (by simp [results, Tryz.results22, go_sem, b10, b11, f10, f11]) rfl ⟨none, 0, rfl, Own.nil _ _, hS2.base⟩

set_option maxRecDepth 100000 in
set_option maxHeartbeats 3200000 in
theorem scaleS_good (n : Int) (A : Option Addr) (xs : List Int) (cap : Nat) (k : Int) (w : World) (h : Hid (Ints w w.heap.size A xs)) (hf : isFn n xs = true) (k1 : -1000 ≤ k) (k2 : k ≤ 1000) :
    Calls Tryz.prog 22 #[.agg #[.int .i64 n, .slice A xs.length cap], .int .i64 k] w (RetFB w (made n (tab xs.length fun s => k * xs.getD s 0)).1 (made n (tab xs.length fun s => k * xs.getD s 0)).2.1 (made n (tab xs.length fun s => k * xs.getD s 0)).2.2) := by
  obtain ⟨_, _, _, hv⟩ := isFn_yes hf
  have hl := (isFn_len hf).2
  have HW := Lib.hid (St.start w)
  have HF := Lib.hid hf
  have HV := Lib.hid hv
  obtain ⟨m, hxm⟩ : ∃ m, xs.length = m := ⟨_, rfl⟩
  have h' := Lib.hid (show ∀ W, Ints W W.heap.size A xs → Calls Tryz.prog 15 #[.agg #[.int .i64 n, .slice A m cap]] W (RetV W (.bool true)) from fun W hW => by rw [← hxm]; exact isFnS_yes n A xs cap W hW hf)
  rw [hxm] at hl ⊢
  have HX := Lib.hid hxm
  obtain ⟨rn, rx, rb, hr⟩ : ∃ rn rx rb, made n (tab m fun s => k * xs.getD s 0) = (rn, rx, rb) := ⟨_, _, _, rfl⟩
  rw [hr]
  have HR := Lib.hid hr
  clear hf hv hxm hr
  obtain ⟨i0, hi, hz0, hz1, hz2⟩ := info_parts info_int
  go_enter Tryz.func22, Tryz.ntmps22
  go_wp2_with fail
  refine St.use (w0 := w) (by exact ((HW.out.alloc _ _).alloc _ _).empty) ?_
  intro hS
  simp only [World.size_alloc] at hS
  refine (h'.out _ ((h.out.below hS.base).mono hS.size)).mono ?_
  rintro e w1 ⟨rfl, hb⟩
  have HS1 := Lib.hid (hS.below hb)
  clear hS hb
  go_wp2_with (go_at_call 50; refine (in_yes k (-1000) 1000 _ k1 k2).mono ?_; rintro e w' ⟨rfl, rfl⟩)
  go_loopw [6, 7] (fun v i wr => ∃ (j : Nat) (V : Option Addr) (c : Nat), i = .int .i64 j ∧ j ≤ m ∧ v = .slice V j c ∧ St w wr [il (.slice V j c) j (tab j fun s => k * xs.getD s 0), bx (w.heap.size + 1) 26 [.int .i64 0, .slice none 0 0], bx w.heap.size 26 [.int .i64 n, .slice A m cap]]) (fun _ i _ => m - (intOf i).toNat)
  case atStart => exact ⟨0, _, _, rfl, Nat.zero_le _, rfl, HS1.out⟩
  case round =>
    obtain ⟨j, V, c, rfl, hj, rfl, hS⟩ := hrel
    obtain ⟨b0, -⟩ := hS.box (i := 2) rfl
    have b00 := b0 0 _ rfl
    have b01 := b0 1 _ rfl
    obtain ⟨b1, f1⟩ := hS.box (i := 1) rfl
    have b10 := b1 0 _ rfl
    have b11 := b1 1 _ rfl
    have f10 := f1 0
    have f11 := f1 1
    have bl := (hS.lt (i := 2) rfl).2
    have bl1 := (hS.lt (i := 1) rfl).2
    clear b0 b1 f1
    have HS := Lib.hid hS
    by_cases hlt : j < m
    · obtain ⟨b, off, rfl, hbl, hc⟩ := (h.out.below hS.base).at_ (k := j) (by rw [HX.out]; exact hlt)
      obtain ⟨v1, v2⟩ := HV.out j (by rw [HX.out]; exact hlt)
      have htab := Lib.hid (tab_succ j fun s => k * xs.getD s 0)
      clear hS
      generalize hx : xs.getD j 0 = x at hc v1 v2
      obtain ⟨m1, m2⟩ := mul_bd k1 k2 v1 v2
      have HXJ := Lib.hid hx
      clear hx
      have hj0 : (0 : Int) ≤ (j : Int) := by omega
      have hjn : (j : Int) < (m : Int) := by omega
      go_wp2_with (at_builtin; refine wpList_app1 rfl (.tmp 27) (.tmp 35) 24 rfl (k * x) Tryz.underlying24 hi hz0 hz1 hz2 ((HS.out.alloc _ _).drop 0) (i := 0) rfl rfl rfl (by simp) (by omega) ?_; intro V' c' w2 hS2)
      have HS2 := Lib.hid hS2
      clear hS2
      go_wp2
      go_roundw
      case rel => exact ⟨j + 1, V', c', by go_num, by omega, rfl, by have := htab.out; rw [HXJ.out] at this; rw [this]; exact HS2.out⟩
      case measure => simp [intOf]; omega
    · obtain rfl : j = m := by omega
      have hjn : ¬ (j : Int) < (j : Int) := by omega
      obtain ⟨B, d, hcall, hend⟩ := made_any n V (tab j fun s => k * xs.getD s 0) j c wr (tab_length _ _) (hS.ints (i := 0) rfl)
      rw [HR.out] at hcall hend
      have HC := Lib.hid hcall
      have HE := Lib.hid hend
      clear hcall hend hS
      go_wp2_with fail
      refine HC.out.mono ?_
      rintro e w2 ⟨rfl, hb⟩
      have hS2 := HS.out.below hb
      obtain ⟨p1, q1⟩ := hS2.box (i := 1) rfl
      have p10 := p1 0 _ rfl
      have p11 := p1 1 _ rfl
      have q10 := q1 0
      have q11 := q1 1
      have pl := (hS2.lt (i := 1) rfl).2
      clear p1 q1 hb b00 b01 b10 b11 f10 f11
      have HS2 := Lib.hid hS2
      clear hS2
      go_wp2
      have hS3 := ((HS2.out.store (i := 1) rfl 0 (.int .i64 rn)).store (i := 1) rfl 1 (.slice B rx.length d)).alloc [.int .i64 rn, .slice B rx.length d] 26
      exact bodyPost_ret (v := .tuple #[.agg #[.int .i64 rn, .slice B rx.length d], .bool rb]) (by simp [results, Tryz.results22, go_sem, p10, p11, q10, q11, pl]) rfl ⟨B, d, rfl, ends_own hS3 (i := 1) rfl HE.out, hS3.base⟩

end Go.Proofs.YtielfnjkfceliaaGreatDoor.C
