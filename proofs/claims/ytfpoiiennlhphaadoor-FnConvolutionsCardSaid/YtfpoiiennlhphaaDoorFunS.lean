/-
  The contracts of spec.AddFunctions, spec.ScaleFunction, spec.LowerFunction and of what they call.
-/
import Derived.Test.YtfpoiiennlhphaaDoorIsFnS
import Derived.Test.YtfpoiiennlhphaaDoorBase
namespace Go.Proofs.YtfpoiiennlhphaaDoor.C
open Go.RowKit K M
set_option linter.unusedVariables false
set_option linter.unusedSimpArgs false

set_option maxHeartbeats 800000 in
theorem made_yes (n : Int) (A : Option Addr) (xs : List Int) (cap : Nat) (w : World) (h : Hid (Ints w w.heap.size A xs)) (hf : isFn n xs = true) :
    Calls Tryd.prog 78 #[.int .i64 n, .slice A xs.length cap] w (RetV w (.tuple #[.agg #[.int .i64 n, .slice A xs.length cap], .bool true])) := by
  have HW := Lib.hid (St.start w)
  have HF := Lib.hid hf
  clear hf
  go_enter Tryd.func78, Tryd.ntmps78
  go_wp2_with fail
  refine St.use (w0 := w) (by exact (HW.out.alloc _ _).alloc _ _) ?_
  intro hS
  simp only [World.size_alloc] at hS
  refine (isFnS_yes n A xs cap _ (Lib.hid ((h.out.below hS.base).mono hS.size)) HF.out).mono ?_
  rintro e w1 ⟨rfl, hb⟩
  have hS1 := hS.below hb
  obtain ⟨b0, f0⟩ := hS1.box (i := 0) rfl
  obtain ⟨b1, f1⟩ := hS1.box (i := 1) rfl
  have b00 := b0 0 _ rfl
  have b01 := b0 1 _ rfl
  have b10 := b1 0 _ rfl
  have b11 := b1 1 _ rfl
  have f10 := f1 0
  have f11 := f1 1
  clear b0 b1 f0 f1 hS hb
  have HS1 := Lib.hid hS1
  clear hS1
  go_wp2
  have hS2 := (HS1.out.store (i := 1) rfl 0 (.int .i64 n)).store (i := 1) rfl 1 (.slice A xs.length cap)
  exact bodyPost_ret (v := .tuple #[.agg #[.int .i64 n, .slice A xs.length cap], .bool true]) (by simp [results, Tryd.results78, go_sem, b00, b01, b10, b11, f10, f11]) rfl ⟨rfl, hS2.base⟩

set_option maxHeartbeats 800000 in
theorem made_no (n : Int) (A : Option Addr) (xs : List Int) (cap : Nat) (w : World) (h : Hid (Ints w w.heap.size A xs)) (hf : isFn n xs = false) :
    Calls Tryd.prog 78 #[.int .i64 n, .slice A xs.length cap] w (RetV w (.tuple #[.agg #[.int .i64 0, .slice none 0 0], .bool false])) := by
  have HW := Lib.hid (St.start w)
  have HF := Lib.hid hf
  clear hf
  go_enter Tryd.func78, Tryd.ntmps78
  go_wp2_with fail
  refine St.use (w0 := w) (by exact (HW.out.alloc _ _).alloc _ _) ?_
  intro hS
  simp only [World.size_alloc] at hS
  refine (isFnS_no n A xs cap _ (Lib.hid ((h.out.below hS.base).mono hS.size)) HF.out).mono ?_
  rintro e w1 ⟨rfl, hb⟩
  have hS1 := hS.below hb
  obtain ⟨b1, f1⟩ := hS1.box (i := 1) rfl
  have b10 := b1 0 _ rfl
  have b11 := b1 1 _ rfl
  have f10 := f1 0
  have f11 := f1 1
  clear b1 f1 hS hb
  have HS1 := Lib.hid hS1
  clear hS1
  go_wp2
  have hS2 := (HS1.out.store (i := 1) rfl 0 (.int .i64 0)).store (i := 1) rfl 1 (.slice none 0 0)
  exact bodyPost_ret (v := .tuple #[.agg #[.int .i64 0, .slice none 0 0], .bool false]) (by simp [results, Tryd.results78, go_sem, b10, b11, f10, f11]) rfl ⟨rfl, hS2.base⟩

/-- The two ends of a function that is built: made, or none. -/
def Ends (A : Option Addr) (cap : Nat) (xs : List Int) (B : Option Addr) (d : Nat) (rx : List Int) : Prop := (B = A ∧ d = cap ∧ rx = xs) ∨ (B = none ∧ d = 0 ∧ rx = [])
theorem made_any (n : Int) (A : Option Addr) (xs : List Int) (m cap : Nat) (w : World) (hm : xs.length = m) (h : Ints w w.heap.size A xs) :
    ∃ (B : Option Addr) (d : Nat), Calls Tryd.prog 78 #[.int .i64 n, .slice A m cap] w (RetV w (.tuple #[.agg #[.int .i64 (made n xs).1, .slice B (made n xs).2.1.length d], .bool (made n xs).2.2])) ∧ Ends A cap xs B d (made n xs).2.1 := by
  subst hm
  cases hf : isFn n xs
  · refine ⟨none, 0, ?_, .inr ⟨rfl, rfl, by simp [made, hf]⟩⟩
    have := made_no n A xs cap w h hf
    simpa [made, hf] using this
  · refine ⟨A, cap, ?_, .inl ⟨rfl, rfl, by simp [made, hf]⟩⟩
    have := made_yes n A xs cap w h hf
    simpa [made, hf] using this
/-- What a built function leaves, told of the row that it was built in. -/
theorem ends_own {w0 w : World} {L : List Cel} {i n c : Nat} {A : Option Addr} {xs : List Int} (h : St w0 w L) (hi : L[i]? = some (il (.slice A n c) n xs)) {B : Option Addr} {d : Nat} {rx : List Int} (he : Ends A c xs B d rx) : Own w w0.heap.size (.slice B rx.length d) rx := by
  rcases he with ⟨rfl, rfl, rfl⟩ | ⟨rfl, rfl, rfl⟩
  · have := h.ownI hi
    have hl : rx.length = n := OwnN.len (h.own hi)
    rw [hl]
    exact this
  · exact Own.nil _ _

end Go.Proofs.YtfpoiiennlhphaaDoor.C
