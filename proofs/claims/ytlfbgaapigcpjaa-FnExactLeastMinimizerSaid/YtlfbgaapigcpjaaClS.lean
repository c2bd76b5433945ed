/-
  The contracts of spec.ClosureOf, IsFlat, FlatsOf, OppositeFunction and of what they call.
-/
import Derived.Test.YtlfbgaapigcpjaaAllM
import Derived.Test.YtlfbgaapigcpjaaSubS
import Derived.Test.YtlfbgaapigcpjaaFunA
namespace Go.Proofs.Ytlfbgaapigcpjaa.C
open Go.RowKit K M
set_option linter.unusedVariables false
set_option linter.unusedSimpArgs false


section

variable (n : Int) (A : Option Addr) (xs : List Int) (cap : Nat) (s : Int) (w : World) (h : Hid (Ints w w.heap.size A xs))
include h
set_option maxRecDepth 100000 in
set_option maxHeartbeats 1600000 in
theorem inS_any : Calls Try.prog 42 #[.agg #[.int .i64 n, .slice A xs.length cap], .int .i64 s] w (RetV w (.bool (isFn n xs && isSet n s))) := by
  have HW := Lib.hid (St.start w)
  cases hf : isFn n xs
  · have HF := Lib.hid hf
    clear hf
    go_enter Try.func42, Try.ntmps42
    go_wp2_with (go_at_call 47; refine St.use (w0 := w) (by exact HW.out.alloc _ _) ?_; intro hS; refine (isFnS_no n A xs cap _ (Lib.hid ((h.out.below hS.base).mono hS.size)) HF.out).mono ?_; rintro e w2 ⟨rfl, hb⟩; have HS2 := Lib.hid (hS.below hb); clear hS hb)
    go_ret
    exact ⟨rfl, HS2.out.base⟩
  · have HF := Lib.hid hf
    obtain ⟨h0, h5, hl, -⟩ := isFn_yes hf
    have HL := Lib.hid hl
    cases hs : isSet n s
    · have HN := Lib.hid (isSet_no hs)
      clear hf hs hl
      go_enter Try.func42, Try.ntmps42
      go_wp2_with (first
        | (go_at_call 47; refine St.use (w0 := w) (by exact HW.out.alloc _ _) ?_; intro hS; refine (isFnS_yes n A xs cap _ (Lib.hid ((h.out.below hS.base).mono hS.size)) HF.out).mono ?_; rintro e w2 ⟨rfl, hb⟩; have hS2 := hS.below hb; obtain ⟨b0, -⟩ := hS2.box (i := 0) rfl; have b00 := b0 0 _ rfl; have HS2 := Lib.hid hS2; clear hS hb b0 hS2)
        | (go_at_call 57; refine (full_any n xs.length _ h0 (by omega) HL.out).mono ?_; rintro e w' ⟨rfl, rfl⟩)
        | (go_at_call 53; refine (in_no s 0 _ _ (by have := HN.out; have := HL.out; omega)).mono ?_; rintro e w' ⟨rfl, rfl⟩))
      go_ret
      exact ⟨rfl, HS2.out.base⟩
    · have HN := Lib.hid (isSet_yes hs)
      clear hf hs hl
      go_enter Try.func42, Try.ntmps42
      go_wp2_with (first
        | (go_at_call 47; refine St.use (w0 := w) (by exact HW.out.alloc _ _) ?_; intro hS; refine (isFnS_yes n A xs cap _ (Lib.hid ((h.out.below hS.base).mono hS.size)) HF.out).mono ?_; rintro e w2 ⟨rfl, hb⟩; have hS2 := hS.below hb; obtain ⟨b0, -⟩ := hS2.box (i := 0) rfl; have b00 := b0 0 _ rfl; have HS2 := Lib.hid hS2; clear hS hb b0 hS2)
        | (go_at_call 57; refine (full_any n xs.length _ h0 (by omega) HL.out).mono ?_; rintro e w' ⟨rfl, rfl⟩)
        | (go_at_call 53; refine (in_yes s 0 _ _ HN.out.1 (by have := HN.out.2; have := HL.out; omega)).mono ?_; rintro e w' ⟨rfl, rfl⟩))
      go_ret
      exact ⟨rfl, HS2.out.base⟩

end

end Go.Proofs.Ytlfbgaapigcpjaa.C
