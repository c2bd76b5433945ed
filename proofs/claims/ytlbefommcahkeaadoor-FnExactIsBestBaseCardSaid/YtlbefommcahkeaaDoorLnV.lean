/-
  The contract of spec.IsBestBase.
-/
import Derived.Test.YtlbefommcahkeaaDoorLnU
namespace Go.Proofs.YtlbefommcahkeaaDoor.C
open Go.RowKit K M
set_option linter.unusedVariables false
set_option linter.unusedSimpArgs false
set_option linter.unusedSectionVars false


section

variable (n : Int) (A : Option Addr) (xs : List Int) (cap : Nat) (D : Option Addr) (ws : List Int) (dap : Nat) (E : Option Addr) (us : List Int) (eap : Nat) (w : World) (h : Hid (Ints w w.heap.size A xs)) (g : Hid (Ints w w.heap.size D ws)) (k : Hid (Ints w w.heap.size E us)) (hl : ws.length ≤ 1048576) (hu : us.length ≤ 1048576)
include h g k hl hu
theorem bestbS_fit (q : fit9 n xs ws = false) : Calls Tryd.prog 5 #[.agg #[.int .i64 n, .slice A xs.length cap], .slice D ws.length dap, .slice E us.length eap] w (RetV w (.bool false)) := by
  have HW := Lib.hid (St.start w)
  have HS0 := Lib.hid (HW.out.alloc [.int .i64 n, .slice A xs.length cap] 27)
  have HF := Lib.hid (fun W h1 h2 => fit9S_any n A xs cap D ws dap W (Lib.hid h1) (Lib.hid h2) hl)
  rw [q] at HF
  clear q
  go_enter Tryd.func5, Tryd.ntmps5
  go_wp2_with (go_at_call 12; refine (HF.out _ ((h.out.below HS0.out.base).mono HS0.out.size) ((g.out.below HS0.out.base).mono HS0.out.size)).mono ?_; rintro e w2 ⟨rfl, hb⟩; have HS := Lib.hid (HS0.out.below hb); clear hb)
  go_ret
  exact ⟨rfl, HS.out.base⟩

theorem bestbS_base (q : fit9 n xs ws = true) (q2 : isBase n xs us = false) : Calls Tryd.prog 5 #[.agg #[.int .i64 n, .slice A xs.length cap], .slice D ws.length dap, .slice E us.length eap] w (RetV w (.bool false)) := by
  have HW := Lib.hid (St.start w)
  have HS0 := Lib.hid (HW.out.alloc [.int .i64 n, .slice A xs.length cap] 27)
  have HF := Lib.hid (fun W h1 h2 => fit9S_any n A xs cap D ws dap W (Lib.hid h1) (Lib.hid h2) hl)
  have HB := Lib.hid (fun W h1 h2 => baseS_any n A xs cap E us eap W (Lib.hid h1) (Lib.hid h2) hu)
  rw [q] at HF
  rw [q2] at HB
  clear q q2
  go_enter Tryd.func5, Tryd.ntmps5
  go_wp2_with (first
    | (go_at_call 12; refine (HF.out _ ((h.out.below HS0.out.base).mono HS0.out.size) ((g.out.below HS0.out.base).mono HS0.out.size)).mono ?_; rintro e w2 ⟨rfl, hb⟩; have hS := HS0.out.below hb; obtain ⟨b0, -⟩ := hS.box (i := 0) rfl; have b00 := b0 0 _ rfl; have b01 := b0 1 _ rfl; have HS := Lib.hid hS; clear hb hS b0)
    | (go_at_call 13; refine (HB.out _ ((h.out.below HS.out.base).mono HS.out.size) ((k.out.below HS.out.base).mono HS.out.size)).mono ?_; rintro e w3 ⟨rfl, hb⟩; have HS2 := Lib.hid (HS.out.below hb); clear hb))
  go_ret
  exact ⟨rfl, HS2.out.base⟩

set_option maxRecDepth 100000 in
set_option maxHeartbeats 4000000 in
theorem bestbS_yes (q : fit9 n xs ws = true) (q2 : isBase n xs us = true) : Calls Tryd.prog 5 #[.agg #[.int .i64 n, .slice A xs.length cap], .slice D ws.length dap, .slice E us.length eap] w (RetV w (.bool (tightAll xs us (levTo ws ws.length) (levTo ws ws.length).length))) := by
  obtain ⟨-, -, g3, -⟩ := fit9_yes q
  obtain ⟨v1, -⟩ := isVec_yes g3
  obtain ⟨hxl, hxv⟩ := fit9_len q
  have hbl : isBelow n xs us = true := by
    unfold isBase at q2
    rw [Bool.and_eq_true] at q2
    exact q2.1
  obtain ⟨-, -, u5, -⟩ := isBelow_yes hbl
  obtain ⟨u1, u2⟩ := isVec5_yes u5
  have HW := Lib.hid (St.start w)
  have HS0 := Lib.hid (HW.out.alloc [.int .i64 n, .slice A xs.length cap] 27)
  have HF := Lib.hid (fun W h1 h2 => fit9S_any n A xs cap D ws dap W (Lib.hid h1) (Lib.hid h2) hl)
  have HB := Lib.hid (fun W h1 h2 => baseS_any n A xs cap E us eap W (Lib.hid h1) (Lib.hid h2) hu)
  have HLV := Lib.hid (fun W h1 => levS_yes D ws dap W (Lib.hid h1) hl g3)
  rw [q] at HF
  rw [q2] at HB
  have HWS := Lib.hid (fun W s (h1 : Ints W W.heap.size E us) (hs : s < 4294967296) => weigh5S_any E us eap s W (Lib.hid h1) u2 u1 hs)
  have HLE := Lib.hid (levTo_lt ws ws.length (Nat.le_refl _))
  have hll := levTo_len ws ws.length
  generalize levTo ws ws.length = ls at *
  have HAT := Lib.hid (fun j (hj : j < ls.length) => show ∃ S : Nat, ls.getD j 0 = (S : Int) ∧ S < xs.length from by
    have e : ls.getD j 0 = ls[j] := by rw [List.getD_eq_getElem?_getD, List.getElem?_eq_getElem hj]; rfl
    obtain ⟨S, h1, h2⟩ := HLE.out ls[j] (List.getElem_mem hj)
    exact ⟨S, by rw [e, h1], by rw [hxl]; exact h2⟩)
  have h32 : xs.length ≤ 32 := by rw [hxl]; exact Nat.le_trans (Nat.pow_le_pow_right (by decide) v1) (by decide)
  have HT0 := Lib.hid (show tightAll xs us ls 0 = true from rfl)
  have HTS := Lib.hid (fun j => show tightAll xs us ls (j + 1) = (tightAll xs us ls j && decide (weigh us (ls.getD j 0).toNat us.length = xs.getD (ls.getD j 0).toNat 0)) from rfl)
  have HTN := Lib.hid (fun j (hj : j < ls.length) hb => tight_no (xs := xs) (us := us) (ls := ls) (j := j) hb ls.length hj)
  generalize tightAll xs us ls = F at *
  obtain ⟨p, hp⟩ : ∃ p, xs.length = p := ⟨_, rfl⟩
  obtain ⟨l, hl2⟩ : ∃ l, ls.length = l := ⟨_, rfl⟩
  obtain ⟨m, hm⟩ : ∃ m, us.length = m := ⟨_, rfl⟩
  rw [hp] at HF HB HAT h32 ⊢
  rw [hl2] at HAT HTN hll ⊢
  rw [hm] at HB HWS HTS HTN ⊢
  have HP := Lib.hid hp
  have HL := Lib.hid hl2
  clear q q2 g3 hxl hxv hbl u5 u1 u2 hp hl2 hm hl hu HLE
  go_enter Tryd.func5, Tryd.ntmps5
  rw [HP.out] at HS0
  go_wp2_with (first
    | (go_at_call 12; refine (HF.out _ ((h.out.below HS0.out.base).mono HS0.out.size) ((g.out.below HS0.out.base).mono HS0.out.size)).mono ?_; rintro e w2 ⟨rfl, hb⟩; have hS := HS0.out.below hb; obtain ⟨b0, -⟩ := hS.box (i := 0) rfl; have b00 := b0 0 _ rfl; have b01 := b0 1 _ rfl; have HS := Lib.hid hS; clear hb hS b0)
    | (go_at_call 13; refine (HB.out _ ((h.out.below HS.out.base).mono HS.out.size) ((k.out.below HS.out.base).mono HS.out.size)).mono ?_; rintro e w3 ⟨rfl, hb⟩; have HS2 := Lib.hid (HS.out.below hb); clear hb)
    | (go_at_call 14; refine (HLV.out _ ((g.out.below HS2.out.base).mono HS2.out.size)).mono ?_; rintro e w4 ⟨V, c, rfl, ho, hb⟩; rw [HL.out] at ho ⊢; have hS := HS2.out.newI hb ho; rw [HL.out] at hS; have HS3 := Lib.hid hS; clear ho hb hS))
  go_loopw [9] (fun i wr => ∃ j : Nat, i = .int .i64 j ∧ j ≤ l ∧ Hid (F j = true) ∧ St w wr [il (.slice V l c) l ls, bx w.heap.size 27 [.int .i64 n, .slice A p cap]]) (fun i _ => l - (intOf i).toNat)
  case atStart => exact ⟨0, rfl, Nat.zero_le _, HT0, HS3.out⟩
  case round =>
    obtain ⟨j, rfl, hj, HT, hS⟩ := hrel
    by_cases hlt : j < l
    · obtain ⟨b0, -⟩ := hS.box (i := 1) rfl
      have d00 := b0 0 _ rfl
      have d01 := b0 1 _ rfl
      obtain ⟨S, hS1, hS2⟩ := HAT.out j hlt
      obtain ⟨r, ro, rfl, hrl, hco⟩ := (hS.ints (i := 0) rfl).at_ (k := j) (by rw [HL.out]; exact hlt)
      have hts := HTS.out j
      have htn := HTN.out j hlt
      rw [hS1] at hco hts htn
      rw [Int.toNat_natCast] at hts htn
      obtain ⟨b, off, rfl, hbl, hc⟩ := (h.out.below hS.base).at_ (k := S) (by rw [HP.out]; exact hS2)
      have HQ := Lib.hid (fun q => HWS.out (wr.drewN q) S ((k.out.below hS.base).mono hS.size) (by omega))
      generalize xs.getD S 0 = x at *
      generalize weigh us S m = y at *
      have g1 : (0 : Int) ≤ (j : Int) := by omega
      have g2 : (j : Int) < (l : Int) := by omega
      have g3 : (0 : Int) ≤ (S : Int) := by omega
      have g4 : (S : Int) < (p : Int) := by omega
      have HR := Lib.hid hS
      clear hS hS1 b0
      by_cases e : y = x
      · subst e
        have hbe : (y != y) = false := by unfold bne; rw [beq_self_eq_true]; rfl
        have HT2 := Lib.hid (show F (j + 1) = true by rw [hts, HT.out, decide_eq_true rfl]; rfl)
        clear hts htn
        go_wp2
        go_quiet ((go_at_call 15; exact quiet_gives (HQ.out _)))
        go_wp2
        go_roundw
        case rel => exact ⟨j + 1, by go_num, by omega, HT2, HR.out.drewN _⟩
        case measure => simp [intOf]; omega
      · have hbe : (y != x) = true := by unfold bne; rw [beq_eq_false_iff_ne.2 e]; rfl
        have HN := Lib.hid (htn e)
        clear hts htn
        go_wp2
        go_quiet ((go_at_call 15; exact quiet_gives (HQ.out _)))
        go_wp2
        go_ret
        exact ⟨by rw [HN.out]; rfl, (HR.out.drewN _).base⟩
    · obtain rfl : j = l := by omega
      have hjl : ¬ (j : Int) < (j : Int) := by omega
      have HR := Lib.hid hS
      clear hS
      go_wp2
      go_ret
      exact ⟨by rw [HT.out]; rfl, HR.out.base⟩

theorem bestbS_any : Calls Tryd.prog 5 #[.agg #[.int .i64 n, .slice A xs.length cap], .slice D ws.length dap, .slice E us.length eap] w (RetV w (.bool (isBest n xs ws us))) := by
  unfold isBest
  cases q : fit9 n xs ws
  · exact bestbS_fit n A xs cap D ws dap E us eap w h g k hl hu q
  · cases q2 : isBase n xs us
    · exact bestbS_base n A xs cap D ws dap E us eap w h g k hl hu q q2
    · exact bestbS_yes n A xs cap D ws dap E us eap w h g k hl hu q q2

end


end Go.Proofs.YtlbefommcahkeaaDoor.C
