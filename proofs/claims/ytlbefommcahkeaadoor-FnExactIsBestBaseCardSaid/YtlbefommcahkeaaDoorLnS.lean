/-
  The contracts of spec.BestOrder, MaximumFor, MinimumFor and of what they ask.
-/
import Derived.Test.YtlbefommcahkeaaDoorAllM
import Derived.Test.YtlbefommcahkeaaDoorExA
import Derived.Test.YtlbefommcahkeaaDoorSubS
import Derived.Test.YtlbefommcahkeaaDoorBsX
import Derived.Test.YtlbefommcahkeaaDoorRet3
namespace Go.Proofs.YtlbefommcahkeaaDoor.C
open Go.RowKit K M
set_option linter.unusedVariables false
set_option linter.unusedSimpArgs false
set_option linter.unusedSectionVars false


section

variable (n : Int) (A : Option Addr) (xs : List Int) (cap : Nat) (D : Option Addr) (ws : List Int) (dap : Nat) (w : World) (h : Hid (Ints w w.heap.size A xs)) (g : Hid (Ints w w.heap.size D ws)) (hl : ws.length ≤ 1048576)
include h g hl
set_option maxRecDepth 100000 in
set_option maxHeartbeats 1600000 in
theorem fit9S_any : Calls Tryd.prog 12 #[.agg #[.int .i64 n, .slice A xs.length cap], .slice D ws.length dap] w (RetV w (.bool (fit9 n xs ws))) := by
  have HW := Lib.hid (St.start w)
  have HG := Lib.hid (fun W h1 => groundS_any n A xs cap W (Lib.hid h1))
  have HB := Lib.hid (fun W h1 => subS_any n A xs cap W (Lib.hid h1))
  have HV := Lib.hid (fun W h1 => vecS_any D ws dap W (Lib.hid h1) hl)
  have HS0 := Lib.hid (HW.out.alloc [.int .i64 n, .slice A xs.length cap] 27)
  unfold fit9
  cases e1 : isGround n xs
  · rw [e1] at HG
    go_enter Tryd.func12, Tryd.ntmps12
    go_wp2_with (go_at_call 21; refine (HG.out _ ((h.out.below HS0.out.base).mono HS0.out.size)).mono ?_; rintro e w2 ⟨rfl, hb⟩; have HS := Lib.hid (HS0.out.below hb); clear hb)
    go_ret
    exact ⟨rfl, HS.out.base⟩
  · rw [e1] at HG
    cases e2 : isSub n xs
    · rw [e2] at HB
      go_enter Tryd.func12, Tryd.ntmps12
      go_wp2_with (first
        | (go_at_call 21; refine (HG.out _ ((h.out.below HS0.out.base).mono HS0.out.size)).mono ?_; rintro e w2 ⟨rfl, hb⟩; have hS := HS0.out.below hb; obtain ⟨b0, -⟩ := hS.box (i := 0) rfl; have b00 := b0 0 _ rfl; have b01 := b0 1 _ rfl; have HS := Lib.hid hS; clear hb hS b0)
        | (go_at_call 22; refine (HB.out _ ((h.out.below HS.out.base).mono HS.out.size)).mono ?_; rintro e w3 ⟨rfl, hb⟩; have HS2 := Lib.hid (HS.out.below hb); clear hb))
      go_ret
      exact ⟨rfl, HS2.out.base⟩
    · rw [e2] at HB
      cases e3 : isVec ws
      · rw [e3] at HV
        go_enter Tryd.func12, Tryd.ntmps12
        go_wp2_with (first
          | (go_at_call 21; refine (HG.out _ ((h.out.below HS0.out.base).mono HS0.out.size)).mono ?_; rintro e w2 ⟨rfl, hb⟩; have hS := HS0.out.below hb; obtain ⟨b0, -⟩ := hS.box (i := 0) rfl; have b00 := b0 0 _ rfl; have b01 := b0 1 _ rfl; have HS := Lib.hid hS; clear hb hS b0)
          | (go_at_call 22; refine (HB.out _ ((h.out.below HS.out.base).mono HS.out.size)).mono ?_; rintro e w3 ⟨rfl, hb⟩; have HS2 := Lib.hid (HS.out.below hb); clear hb)
          | (go_at_call 23; refine (HV.out _ ((g.out.below HS2.out.base).mono HS2.out.size)).mono ?_; rintro e w4 ⟨rfl, rfl⟩))
        go_ret
        exact ⟨rfl, HS2.out.base⟩
      · rw [e3] at HV
        obtain ⟨q, hq⟩ : ∃ q, decide ((ws.length : Int) = n) = q := ⟨_, rfl⟩
        rw [hq]
        have hbe : ((ws.length : Int) == n) = q := by
          rw [← hq]
          by_cases e : (ws.length : Int) = n
          · rw [decide_eq_true e]; exact beq_iff_eq.2 e
          · rw [decide_eq_false e]; exact beq_eq_false_iff_ne.2 e
        clear hq
        go_enter Tryd.func12, Tryd.ntmps12
        go_wp2_with (first
          | (go_at_call 21; refine (HG.out _ ((h.out.below HS0.out.base).mono HS0.out.size)).mono ?_; rintro e w2 ⟨rfl, hb⟩; have hS := HS0.out.below hb; obtain ⟨b0, -⟩ := hS.box (i := 0) rfl; have b00 := b0 0 _ rfl; have b01 := b0 1 _ rfl; have HS := Lib.hid hS; clear hb hS b0)
          | (go_at_call 22; refine (HB.out _ ((h.out.below HS.out.base).mono HS.out.size)).mono ?_; rintro e w3 ⟨rfl, hb⟩; have hS2 := HS.out.below hb; obtain ⟨b0, -⟩ := hS2.box (i := 0) rfl; have c00 := b0 0 _ rfl; have c01 := b0 1 _ rfl; have HS2 := Lib.hid hS2; clear hb hS2 b0)
          | (go_at_call 23; refine (HV.out _ ((g.out.below HS2.out.base).mono HS2.out.size)).mono ?_; rintro e w4 ⟨rfl, rfl⟩))
        go_ret
        exact ⟨rfl, HS2.out.base⟩

end


end Go.Proofs.YtlbefommcahkeaaDoor.C
