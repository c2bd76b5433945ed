/-
  The contracts of spec.IsSubmodular, IsGrounded, IsIncreasing, IsSupermodular, IsModular and IsPolymatroid.
-/
import Derived.Test.YtffbiflgmlabaaaGreatDoorViolA
import Derived.Test.YtffbiflgmlabaaaGreatDoorFunA
namespace Go.Proofs.YtffbiflgmlabaaaGreatDoor.C
open Go.RowKit K M
set_option linter.unusedVariables false
set_option linter.unusedSimpArgs false


section

variable (n : Int) (A : Option Addr) (xs : List Int) (cap : Nat) (w : World) (h : Hid (Ints w w.heap.size A xs))
include h

theorem subS_any : Calls Tryz.prog 10 #[.agg #[.int .i64 n, .slice A xs.length cap]] w (RetV w (.bool (isSub n xs))) := by
  have HW := Lib.hid (St.start w)
  unfold isSub
  obtain ⟨rx, rb, hr⟩ : ∃ rx rb, viol n xs = (rx, rb) := ⟨_, _, rfl⟩
  rw [hr]
  have hv := fun W (hW : Hid (Ints W W.heap.size A xs)) => violS_any n A xs cap W hW
  rw [hr] at hv
  have HV := Lib.hid hv
  clear hv hr
  obtain ⟨f, hf⟩ : ∃ f, isFn n xs = f := ⟨_, rfl⟩
  have hg := fun W (hW : Hid (Ints W W.heap.size A xs)) => isFnS_any n A xs cap W hW
  rw [hf] at hg ⊢
  have HG := Lib.hid hg
  clear hg hf
  dsimp only
  go_enter Tryz.func10, Tryz.ntmps10
  go_wp2_with fail
  refine St.use (w0 := w) (by exact HW.out.alloc _ _) ?_
  intro hS
  refine (HV.out _ (Lib.hid ((h.out.below hS.base).mono hS.size))).mono ?_
  rintro e w1 ⟨A1, c1, rfl, ho, hb⟩
  have hS1 := hS.below hb
  obtain ⟨b0, -⟩ := hS1.box (i := 0) rfl
  have b00 := b0 0 _ rfl
  have b01 := b0 1 _ rfl
  have HS1 := Lib.hid hS1
  clear hS hb b0 hS1 ho
  cases f <;> cases rb
  all_goals
    go_wp2_with (go_at_call 11; refine St.use (w0 := w) (by exact HS1.out) ?_; intro hS; refine (HG.out _ (Lib.hid ((h.out.below hS.base).mono hS.size))).mono ?_; rintro e w2 ⟨rfl, hb⟩; have HS2 := Lib.hid (hS.below hb); clear hS hb)
    go_ret
    exact ⟨rfl, HS2.out.base⟩

theorem groundS_any : Calls Tryz.prog 18 #[.agg #[.int .i64 n, .slice A xs.length cap]] w (RetV w (.bool (isGround n xs))) := by
  have HW := Lib.hid (St.start w)
  unfold isGround
  cases hf : isFn n xs
  · have HF := Lib.hid hf
    clear hf
    go_enter Tryz.func18, Tryz.ntmps18
    go_wp2_with (go_at_call 11; refine St.use (w0 := w) (by exact HW.out.alloc _ _) ?_; intro hS; refine (isFnS_no n A xs cap _ (Lib.hid ((h.out.below hS.base).mono hS.size)) HF.out).mono ?_; rintro e w2 ⟨rfl, hb⟩; have HS2 := Lib.hid (hS.below hb); clear hS hb)
    go_ret
    exact ⟨rfl, HS2.out.base⟩
  · obtain ⟨hl1, hl2⟩ := isFn_len hf
    have HF := Lib.hid hf
    obtain ⟨b, off, rfl, hbl, hcc⟩ := h.out (by omega)
    have hc := hcc 0 (by omega)
    rw [Nat.add_zero] at hc
    obtain ⟨x, hx⟩ : ∃ x, xs.getD 0 0 = x := ⟨_, rfl⟩
    rw [hx] at hc ⊢
    have HC := Lib.hid hc
    obtain ⟨m, hxm⟩ : ∃ m, xs.length = m := ⟨_, rfl⟩
    have hg := fun W (hW : Hid (Ints W W.heap.size (some ⟨b, off, none⟩) xs)) => isFnS_yes n (some ⟨b, off, none⟩) xs cap W hW hf
    rw [hxm] at hl1 hl2 hg ⊢
    have HG := Lib.hid hg
    have hm0 : (0 : Int) < (m : Int) := by omega
    clear hf hcc hc hg hx hxm
    by_cases h0 : x = 0
    · subst h0
      go_enter Tryz.func18, Tryz.ntmps18
      go_wp2_with (go_at_call 11; refine St.use (w0 := w) (by exact HW.out.alloc _ _) ?_; intro hS; refine (HG.out _ (Lib.hid ((h.out.below hS.base).mono hS.size))).mono ?_; rintro e w2 ⟨rfl, hb⟩; have hS1 := hS.below hb; obtain ⟨b0, -⟩ := hS1.box (i := 0) rfl; have b01 := b0 1 _ rfl; have d0 := (hS1.base.cell (p := ⟨b, off, none⟩) hbl).trans HC.out; have HS2 := Lib.hid hS1; clear hS hb hS1 b0)
      go_ret
      exact ⟨rfl, HS2.out.base⟩
    · have hx0 : (x == 0) = false := beq_eq_false_iff_ne.2 h0
      have hd : decide (x = 0) = false := by simpa using h0
      rw [hd]
      clear h0
      go_enter Tryz.func18, Tryz.ntmps18
      go_wp2_with (go_at_call 11; refine St.use (w0 := w) (by exact HW.out.alloc _ _) ?_; intro hS; refine (HG.out _ (Lib.hid ((h.out.below hS.base).mono hS.size))).mono ?_; rintro e w2 ⟨rfl, hb⟩; have hS1 := hS.below hb; obtain ⟨b0, -⟩ := hS1.box (i := 0) rfl; have b01 := b0 1 _ rfl; have d0 := (hS1.base.cell (p := ⟨b, off, none⟩) hbl).trans HC.out; have HS2 := Lib.hid hS1; clear hS hb hS1 b0)
      go_ret
      exact ⟨rfl, HS2.out.base⟩

end


end Go.Proofs.YtffbiflgmlabaaaGreatDoor.C
