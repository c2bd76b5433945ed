/-
  The contracts of spec.AddFunctions, spec.ScaleFunction, spec.LowerFunction and of what they call.
  The contracts of spec.LowerFunction and spec.AddFunctions.
  The contracts of impl.AddFunctions, impl.ScaleFunction, impl.LowerFunction, of their closures, and of impl.makeFunction.
  The contracts of impl.AddFunctions, impl.ScaleFunction, impl.LowerFunction: the ways that build a function, and all.
-/
import Derived.Test.YtffbiflgmlabaaaGreatDoorFnA
import Derived.Test.YtffbiflgmlabaaaGreatDoorBase
namespace Go.Proofs.YtffbiflgmlabaaaGreatDoor.C
open Go.RowKit K M
set_option linter.unusedVariables false
set_option linter.unusedSimpArgs false

set_option maxHeartbeats 800000 in
theorem made_yes (n : Int) (A : Option Addr) (xs : List Int) (cap : Nat) (w : World) (h : Hid (Ints w w.heap.size A xs)) (hf : isFn n xs = true) :
    Calls Tryz.prog 100 #[.int .i64 n, .slice A xs.length cap] w (RetV w (.tuple #[.agg #[.int .i64 n, .slice A xs.length cap], .bool true])) := by
  have HW := Lib.hid (St.start w)
  have HF := Lib.hid hf
  clear hf
  go_enter Tryz.func100, Tryz.ntmps100
  go_wp2_with fail
  refine St.use (w0 := w) (by exact (HW.out.alloc _ _).alloc _ _) ?_
  intro hS
  simp only [World.size_alloc] at hS
  refine (isFnS_yes n A xs cap _ (Lib.hid ((h.out.below hS.base).mono hS.size)) HF.out).mono ?_
  rintro e w1 ⟨rfl, hb⟩
  have hS1 := hS.below hb
  obtain ⟨b0, f0⟩ := hS1.box (i := 0) rfl
  obtain ⟨b1, f1⟩ := hS1.box (i := 1) rfl
  have b00 := b0 0 _ rfl
  have b01 := b0 1 _ rfl
  have b10 := b1 0 _ rfl
  have b11 := b1 1 _ rfl
  have f10 := f1 0
  have f11 := f1 1
  clear b0 b1 f0 f1 hS hb
  have HS1 := Lib.hid hS1
  clear hS1
  go_wp2
  have hS2 := (HS1.out.store (i := 1) rfl 0 (.int .i64 n)).store (i := 1) rfl 1 (.slice A xs.length cap)
  exact bodyPost_ret (v := .tuple #[.agg #[.int .i64 n, .slice A xs.length cap], .bool true]) (by simp [results, Tryz.results100, go_sem, b00, b01, b10, b11, f10, f11]) rfl ⟨rfl, hS2.base⟩

set_option maxHeartbeats 800000 in
theorem made_no (n : Int) (A : Option Addr) (xs : List Int) (cap : Nat) (w : World) (h : Hid (Ints w w.heap.size A xs)) (hf : isFn n xs = false) :
    Calls Tryz.prog 100 #[.int .i64 n, .slice A xs.length cap] w (RetV w (.tuple #[.agg #[.int .i64 0, .slice none 0 0], .bool false])) := by
  have HW := Lib.hid (St.start w)
  have HF := Lib.hid hf
  clear hf
  go_enter Tryz.func100, Tryz.ntmps100
  go_wp2_with fail
  refine St.use (w0 := w) (by exact (HW.out.alloc _ _).alloc _ _) ?_
  intro hS
  simp only [World.size_alloc] at hS
  refine (isFnS_no n A xs cap _ (Lib.hid ((h.out.below hS.base).mono hS.size)) HF.out).mono ?_
  rintro e w1 ⟨rfl, hb⟩
  have hS1 := hS.below hb
  obtain ⟨b1, f1⟩ := hS1.box (i := 1) rfl
  have b10 := b1 0 _ rfl
  have b11 := b1 1 _ rfl
  have f10 := f1 0
  have f11 := f1 1
  clear b1 f1 hS hb
  have HS1 := Lib.hid hS1
  clear hS1
  go_wp2
  have hS2 := (HS1.out.store (i := 1) rfl 0 (.int .i64 0)).store (i := 1) rfl 1 (.slice none 0 0)
  exact bodyPost_ret (v := .tuple #[.agg #[.int .i64 0, .slice none 0 0], .bool false]) (by simp [results, Tryz.results100, go_sem, b10, b11, f10, f11]) rfl ⟨rfl, hS2.base⟩

/-- The two ends of a function that is built: made, or none. -/
def Ends (A : Option Addr) (cap : Nat) (xs : List Int) (B : Option Addr) (d : Nat) (rx : List Int) : Prop := (B = A ∧ d = cap ∧ rx = xs) ∨ (B = none ∧ d = 0 ∧ rx = [])
theorem made_any (n : Int) (A : Option Addr) (xs : List Int) (m cap : Nat) (w : World) (hm : xs.length = m) (h : Ints w w.heap.size A xs) :
    ∃ (B : Option Addr) (d : Nat), Calls Tryz.prog 100 #[.int .i64 n, .slice A m cap] w (RetV w (.tuple #[.agg #[.int .i64 (made n xs).1, .slice B (made n xs).2.1.length d], .bool (made n xs).2.2])) ∧ Ends A cap xs B d (made n xs).2.1 := by
  subst hm
  cases hf : isFn n xs
  · refine ⟨none, 0, ?_, .inr ⟨rfl, rfl, by simp [made, hf]⟩⟩
    have := made_no n A xs cap w h hf
    simpa [made, hf] using this
  · refine ⟨A, cap, ?_, .inl ⟨rfl, rfl, by simp [made, hf]⟩⟩
    have := made_yes n A xs cap w h hf
    simpa [made, hf] using this
/-- What a built function leaves, told of the row that it was built in. -/
theorem ends_own {w0 w : World} {L : List Cel} {i n c : Nat} {A : Option Addr} {xs : List Int} (h : St w0 w L) (hi : L[i]? = some (il (.slice A n c) n xs)) {B : Option Addr} {d : Nat} {rx : List Int} (he : Ends A c xs B d rx) : Own w w0.heap.size (.slice B rx.length d) rx := by
  rcases he with ⟨rfl, rfl, rfl⟩ | ⟨rfl, rfl, rfl⟩
  · have := h.ownI hi
    have hl : rx.length = n := OwnN.len (h.own hi)
    rw [hl]
    exact this
  · exact Own.nil _ _

end Go.Proofs.YtffbiflgmlabaaaGreatDoor.C

namespace Go.Proofs.YtffbiflgmlabaaaGreatDoor.C
open Go.RowKit K M
set_option linter.unusedVariables false
set_option linter.unusedSimpArgs false

set_option maxRecDepth 100000 in
set_option maxHeartbeats 1600000 in
theorem lowerS_bad (n : Int) (A : Option Addr) (xs : List Int) (cap : Nat) (w : World) (h : Hid (Ints w w.heap.size A xs)) (hf : isFn n xs = false) :
    Calls Tryz.prog 72 #[.agg #[.int .i64 n, .slice A xs.length cap]] w (RetFB w 0 [] false) := by
  have HW := Lib.hid (St.start w)
  have HF := Lib.hid hf
  clear hf
  go_enter Tryz.func72, Tryz.ntmps72
  go_wp2_with fail
  refine St.use (w0 := w) (by exact ((HW.out.alloc _ _).alloc _ _).empty) ?_
  intro hS
  simp only [World.size_alloc] at hS
  refine (isFnS_no n A xs cap _ (Lib.hid ((h.out.below hS.base).mono hS.size)) HF.out).mono ?_
  rintro e w1 ⟨rfl, hb⟩
  have hS1 := hS.below hb
  obtain ⟨r1, rf⟩ := hS1.box (i := 1) rfl
  have r10 := r1 0 _ rfl
  have r11 := r1 1 _ rfl
  have rf0 := rf 0
  have rf1 := rf 1
  clear r1 rf
  clear hS hb
  have HS1 := Lib.hid hS1
  clear hS1
  go_wp2
  have hZ := ((HS1.out.store (i := 1) rfl 0 (.int .i64 0)).store (i := 1) rfl 1 (.slice none 0 0))
  exact bodyPost_ret (v := .tuple #[.agg #[.int .i64 0, .slice none 0 0], .bool false]) (by simp [results, Tryz.results72, go_sem, r10, r11, rf0, rf1]) rfl ⟨none, 0, rfl, Own.nil _ _, hZ.base⟩


set_option maxRecDepth 100000 in
set_option maxHeartbeats 4000000 in
theorem lowerS_good (n : Int) (A : Option Addr) (xs : List Int) (cap : Nat) (w : World) (h : Hid (Ints w w.heap.size A xs)) (hf : isFn n xs = true) :
    Calls Tryz.prog 72 #[.agg #[.int .i64 n, .slice A xs.length cap]] w (RetFB w (made n (tab xs.length fun s => xs.getD s 0 - xs.getD 0 0)).1 (made n (tab xs.length fun s => xs.getD s 0 - xs.getD 0 0)).2.1 (made n (tab xs.length fun s => xs.getD s 0 - xs.getD 0 0)).2.2) := by
  obtain ⟨_, _, _, hv⟩ := isFn_yes hf
  have hl := (isFn_len hf).2
  have hl1 := (isFn_len hf).1
  have HW := Lib.hid (St.start w)
  have HV := Lib.hid hv
  obtain ⟨m, hxm⟩ : ∃ m, xs.length = m := ⟨_, rfl⟩
  have h' := Lib.hid (show ∀ W, Ints W W.heap.size A xs → Calls Tryz.prog 11 #[.agg #[.int .i64 n, .slice A m cap]] W (RetV W (.bool true)) from fun W hW => by rw [← hxm]; exact isFnS_yes n A xs cap W hW hf)
  rw [hxm] at hl hl1 ⊢
  have HX := Lib.hid hxm
  obtain ⟨rn, rx, rb, hr⟩ : ∃ rn rx rb, made n (tab m fun s => xs.getD s 0 - xs.getD 0 0) = (rn, rx, rb) := ⟨_, _, _, rfl⟩
  rw [hr]
  have HR := Lib.hid hr
  clear hf hv hxm hr
  obtain ⟨i0, hi, hz0, hz1, hz2⟩ := info_parts info_int
  go_enter Tryz.func72, Tryz.ntmps72
  go_wp2_with fail
  refine St.use (w0 := w) (by exact ((HW.out.alloc _ _).alloc _ _).empty) ?_
  intro hS
  simp only [World.size_alloc] at hS
  refine (h'.out _ ((h.out.below hS.base).mono hS.size)).mono ?_
  rintro e w1 ⟨rfl, hb⟩
  have HS1 := Lib.hid (hS.below hb)
  clear hS hb
  go_wp2
  go_loopw [4, 5] (fun v i wr => ∃ (j : Nat) (V : Option Addr) (c : Nat), i = .int .i64 j ∧ j ≤ m ∧ v = .slice V j c ∧ St w wr [il (.slice V j c) j (tab j fun s => xs.getD s 0 - xs.getD 0 0), bx (w.heap.size + 1) 26 [.int .i64 0, .slice none 0 0], bx w.heap.size 26 [.int .i64 n, .slice A m cap]]) (fun _ i _ => m - (intOf i).toNat)
  case atStart => exact ⟨0, _, _, rfl, Nat.zero_le _, rfl, HS1.out⟩
  case round =>
    obtain ⟨j, V, c, rfl, hj, rfl, hS⟩ := hrel
    obtain ⟨b0, -⟩ := hS.box (i := 2) rfl
    have b00 := b0 0 _ rfl
    have b01 := b0 1 _ rfl
    obtain ⟨b1, f1⟩ := hS.box (i := 1) rfl
    have b10 := b1 0 _ rfl
    have b11 := b1 1 _ rfl
    have f10 := f1 0
    have f11 := f1 1
    have bl := (hS.lt (i := 2) rfl).2
    have bl1 := (hS.lt (i := 1) rfl).2
    clear b0 b1 f1
    have HS := Lib.hid hS
    by_cases hlt : j < m
    · obtain ⟨b, off, rfl, hbl, hcc⟩ := h.out (by rw [HX.out]; omega)
      have hc := hcc j (by rw [HX.out]; exact hlt)
      have hc0 := hcc 0 (by rw [HX.out]; omega)
      rw [Nat.add_zero] at hc0
      clear hcc
      obtain ⟨v1, v2⟩ := HV.out j (by rw [HX.out]; exact hlt)
      obtain ⟨u1, u2⟩ := HV.out 0 (by rw [HX.out]; omega)
      generalize hx : xs.getD j 0 = x at hc v1 v2
      obtain ⟨y, hy⟩ : ∃ y, xs.getD 0 0 = y := ⟨_, rfl⟩
      rw [hy] at hc0 u1 u2
      have HXJ := Lib.hid hx
      have HYJ := Lib.hid hy
      have HC := Lib.hid hc
      have HC0 := Lib.hid hc0
      have d1 := (hS.base.cell (p := ⟨b, off + j, none⟩) hbl).trans HC.out
      have d0 := (hS.base.cell (p := ⟨b, off, none⟩) hbl).trans HC0.out
      clear hx hy hc hc0
      have hj0 : (0 : Int) ≤ (j : Int) := by omega
      have hjn : (j : Int) < (m : Int) := by omega
      have hm0 : (0 : Int) < (m : Int) := by omega
      have hm1 : 0 < m := by omega
      have hxy : IntKind.i64.wrap (x - y) = x - y := IntWalk.i64_in _ (by omega)
      have htab := Lib.hid (tab_succ j fun s => xs.getD s 0 - xs.getD 0 0)
      clear hS
      go_wp2
      go_region_held3 (fun w' => w'.cell? ⟨w.heap.size, 0, none⟩ = some (.int .i64 n) ∧ w'.cell? ⟨w.heap.size, 1, none⟩ = some (.slice (some ⟨b, off, none⟩) m cap) ∧ w'.cell? ⟨b, off + j, none⟩ = some (.int .i64 x) ∧ w'.cell? ⟨b, off, none⟩ = some (.int .i64 y)) (first | (refine ⟨?_, ?_, ?_, ?_⟩ <;> assumption) | go_keep) ((refine step_app1 (by rfl) (.tmp 20) (.tmp 31) 24 (by rfl) (x - y) Tryz.underlying24 hi hz0 hz1 hz2 ((HS.out.alloc _ _).drop 0).drew (i := 0) (by rfl) (by rfl) (by rfl) (by simp) (by omega) ?_; intro V' c' w2 hS2; have e2 := (hS2.box (i := 2) rfl).1; have e20 := e2 0 _ rfl; have e21 := e2 1 _ rfl; have e1 := (hS2.base.cell (p := ⟨b, off + j, none⟩) hbl).trans HC.out; have e0 := (hS2.base.cell (p := ⟨b, off, none⟩) hbl).trans HC0.out; have HS2 := Lib.hid hS2; clear hS2 e2))
      go_wp2
      go_roundw
      case rel => exact ⟨j + 1, V', c', by go_num, by omega, rfl, by have e := HS2.out; rw [← HXJ.out, ← HYJ.out] at e; rw [htab.out]; exact e⟩
      case measure => simp [intOf]; omega
    · obtain rfl : j = m := by omega
      have hjn : ¬ (j : Int) < (j : Int) := by omega
      obtain ⟨B, d, hcall, hend⟩ := made_any n V (tab j fun s => xs.getD s 0 - xs.getD 0 0) j c wr (tab_length _ _) (hS.ints (i := 0) rfl)
      rw [HR.out] at hcall hend
      have HC := Lib.hid hcall
      have HE := Lib.hid hend
      clear hcall hend hS
      go_wp2_with fail
      refine HC.out.mono ?_
      rintro e w2 ⟨rfl, hb⟩
      have hS2 := HS.out.below hb
      obtain ⟨p1, q1⟩ := hS2.box (i := 1) rfl
      have p10 := p1 0 _ rfl
      have p11 := p1 1 _ rfl
      have q10 := q1 0
      have q11 := q1 1
      have pl := (hS2.lt (i := 1) rfl).2
      clear p1 q1 hb b00 b01 b10 b11 f10 f11
      have HS2 := Lib.hid hS2
      clear hS2
      go_wp2
      have hS3 := ((HS2.out.store (i := 1) rfl 0 (.int .i64 rn)).store (i := 1) rfl 1 (.slice B rx.length d)).alloc [.int .i64 rn, .slice B rx.length d] 26
      exact bodyPost_ret (v := .tuple #[.agg #[.int .i64 rn, .slice B rx.length d], .bool rb]) (by simp [results, Tryz.results72, go_sem, p10, p11, q10, q11, pl]) rfl ⟨B, d, rfl, ends_own hS3 (i := 1) rfl HE.out, hS3.base⟩

theorem lowerS_any (n : Int) (A : Option Addr) (xs : List Int) (cap : Nat) (w : World) (h : Hid (Ints w w.heap.size A xs)) : Calls Tryz.prog 72 #[.agg #[.int .i64 n, .slice A xs.length cap]] w (RetFB w (lowerFn n xs).1 (lowerFn n xs).2.1 (lowerFn n xs).2.2) := by
  cases hf : isFn n xs
  · simpa [lowerFn, hf] using lowerS_bad n A xs cap w h hf
  · simpa [lowerFn, hf] using lowerS_good n A xs cap w h hf


end Go.Proofs.YtffbiflgmlabaaaGreatDoor.C

namespace Go.Proofs.YtffbiflgmlabaaaGreatDoor.C
open Go.RowKit K M
set_option linter.unusedVariables false
set_option linter.unusedSimpArgs false

/-- What a closure does that only reads. -/
def Gives (w : World) (x : Int) (e : Ending) (w' : World) : Prop := e = .returned (.int .i64 x) ∧ ∃ q, w.drewN q = w'



end Go.Proofs.YtffbiflgmlabaaaGreatDoor.C

namespace Go.Proofs.YtffbiflgmlabaaaGreatDoor.C
open Go.RowKit K M
set_option linter.unusedVariables false
set_option linter.unusedSimpArgs false


end Go.Proofs.YtffbiflgmlabaaaGreatDoor.C
