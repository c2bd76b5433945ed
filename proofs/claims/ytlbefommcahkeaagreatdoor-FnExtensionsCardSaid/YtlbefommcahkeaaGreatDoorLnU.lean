/-
  The contracts of spec.LevelSets and IsBestBase.
-/
import Derived.Test.YtlbefommcahkeaaGreatDoorLnA
import Derived.Test.YtlbefommcahkeaaGreatDoorBsV
namespace Go.Proofs.YtlbefommcahkeaaGreatDoor.C
open Go.RowKit K M
set_option linter.unusedVariables false
set_option linter.unusedSimpArgs false
set_option linter.unusedSectionVars false


section

variable (D : Option Addr) (ws : List Int) (dap : Nat) (w : World) (g : Hid (Ints w w.heap.size D ws)) (hl : ws.length ≤ 1048576)
include g hl
theorem levS_no (hf : isVec ws = false) : Calls Tryz.prog 35 #[.slice D ws.length dap] w (RetIB w [] false) := by
  have HW := Lib.hid (St.start w)
  have HS0 := Lib.hid HW.out.empty
  have HO := Lib.hid (fun W h1 => ordS_any D ws dap W (Lib.hid h1) hl)
  have e : orderFor ws = ([], false) := by unfold orderFor; rw [hf]; rfl
  rw [e] at HO
  clear e hf
  go_enter Tryz.func35, Tryz.ntmps35
  go_wp2_with (go_at_call 30; refine (HO.out _ ((g.out.below HS0.out.base).mono HS0.out.size)).mono ?_; rintro e w2 ⟨V, c, rfl, ho, hb⟩; have HS := Lib.hid (HS0.out.newI hb ho); clear ho hb)
  go_loop [4, 8] (fun v i => v = .slice (some ⟨w.heap.size, 0, none⟩) 0 0 ∧ i = .int .i64 0) (fun _ _ => 0)
  case atStart => exact ⟨rfl, rfl⟩
  case round =>
    obtain ⟨rfl, rfl⟩ := hrel
    go_wp2
    go_ret2
    exact ⟨_, _, rfl, HS.out.ownI (i := 1) rfl, HS.out.base⟩

set_option maxRecDepth 100000 in
set_option maxHeartbeats 4000000 in
theorem levS_yes (hf : isVec ws = true) : Calls Tryz.prog 35 #[.slice D ws.length dap] w (RetIB w (levTo ws ws.length) true) := by
  have HW := Lib.hid (St.start w)
  have HS0 := Lib.hid HW.out.empty
  have HO := Lib.hid (fun W h1 => ordS_any D ws dap W (Lib.hid h1) hl)
  have e : orderFor ws = (nats (ordN ws ws.length), true) := by unfold orderFor; rw [hf]; rfl
  rw [e] at HO
  have hm5 := (isVec_yes hf).1
  have hpm := ordF_pm ws
  have hol := order_len ws
  have HOA := Lib.hid (fun i (hi : i < ws.length) => order_at ws hi)
  have HLT := Lib.hid hpm.lt
  have HPL := Lib.hid (fun i (hi : i ≤ ws.length) => show pre (ordF ws) i < 2 ^ ws.length from pre_lt i fun k hk => hpm.lt k (by omega))
  have HPS := Lib.hid (fun i => show pre (ordF ws) (i + 1) = pre (ordF ws) i ||| 2 ^ ordF ws i from rfl)
  have HLL := Lib.hid (levTo_len ws)
  have HLS := Lib.hid (fun k => show levTo ws (k + 1) = if k + 1 = ws.length ∨ ws.getD (ordF ws (k + 1)) 0 < ws.getD (ordF ws k) 0 then levTo ws k ++ [(pre (ordF ws) (k + 1) : Int)] else levTo ws k from rfl)
  have hL0 : levTo ws 0 = [] := rfl
  have HP0 := Lib.hid (show pre (ordF ws) 0 = 0 from rfl)
  generalize nats (ordN ws ws.length) = os at *
  generalize ordF ws = o at *
  generalize levTo ws = F at *
  generalize pre o = P at *
  obtain ⟨m, hm⟩ : ∃ m, ws.length = m := ⟨_, rfl⟩
  rw [hm] at HO hm5 hol HOA HLT HPL HLS ⊢
  have h32 : 2 ^ m ≤ 32 := Nat.le_trans (Nat.pow_le_pow_right (by decide) hm5) (by decide)
  have HX := Lib.hid hm
  have HL := Lib.hid hol
  have HL0 := Lib.hid hL0
  clear e hf hm hol hl hL0 hpm
  obtain ⟨i0, hi, hz0, hz1, hz2⟩ := info_parts info_int
  go_enter Tryz.func35, Tryz.ntmps35
  go_wp2_with (go_at_call 30; refine (HO.out _ ((g.out.below HS0.out.base).mono HS0.out.size)).mono ?_; rintro e w2 ⟨V, c, rfl, ho, hb⟩; rw [HL.out] at ho ⊢; have hS := HS0.out.newI hb ho; rw [HL.out] at hS; have HS := Lib.hid hS; clear ho hb hS)
  go_loopw [4, 7, 8] (fun v s i wr => ∃ (j l : Nat) (U : Option Addr) (d : Nat), i = .int .i64 j ∧ j ≤ m ∧ s = .int .i64 (P j) ∧ (F j).length = l ∧ v = .slice U l d ∧ v ≠ .slice none 0 0 ∧ St w wr [il (.slice V m c) m os, il (.slice U l d) l (F j)]) (fun _ _ i _ => m - (intOf i).toNat)
  case atStart => exact ⟨0, 0, _, _, rfl, Nat.zero_le _, by rw [HP0.out]; rfl, by rw [HL0.out]; rfl, rfl, by simp, by rw [HL0.out]; exact HS.out⟩
  case round =>
    obtain ⟨j, l, U, d, rfl, hj, rfl, hl, rfl, hne, hS⟩ := hrel
    have hll := HLL.out j
    rw [hl] at hll
    have HFL := Lib.hid hl
    have HNE := Lib.hid hne
    clear hl hne
    by_cases hlt : j < m
    · obtain ⟨b, off, rfl, hbl, hco⟩ := (hS.ints (i := 0) rfl).at_ (k := j) (by rw [HL.out]; exact hlt)
      rw [HOA.out j hlt] at hco
      have hE := HLT.out j hlt
      have hp1 := HPL.out j (by omega)
      have hp2 := HPL.out (j + 1) (by omega)
      have hps := HPS.out j
      have hls := HLS.out j
      generalize hEE : o j = E at *
      have ho1 := or_nat (P j) E (by omega) (by omega)
      rw [← hps] at ho1
      obtain ⟨r, ro, rfl, hrl, hcx⟩ := (g.out.below hS.base).at_ (k := E) (by rw [HX.out]; exact hE)
      generalize hT : P (j + 1) = T at *
      generalize P j = S at *
      have g1 : (0 : Int) ≤ (j : Int) := by omega
      have g2 : (j : Int) < (m : Int) := by omega
      have g3 : (0 : Int) ≤ (E : Int) := by omega
      have g4 : (E : Int) < (m : Int) := by omega
      have g5 : (E : Int) < 64 := by omega
      have HR := Lib.hid hS
      have HT := Lib.hid hT
      clear hps hEE hT
      by_cases hend : j + 1 = m
      · have hbe : (((j : Int) + 1) == (m : Int)) = true := beq_iff_eq.2 (by omega)
        rw [if_pos (.inl hend)] at hls
        have HLSJ := Lib.hid hls
        have HEND := Lib.hid hend
        clear hls hend hS
        go_wp2
        go_quiet (fail)
        have HY := Lib.hid (HR.out.drewN nq)
        generalize wr.drewN nq = w9 at HY ⊢
        go_wp2_with (at_builtin; have hS := HY.out; refine wpList_app1 rfl (.tmp 54) (.tmp 56) 24 rfl (T : Int) Tryz.underlying24 hi hz0 hz1 hz2 ((hS.alloc _ _).drop 0) (i := 1) rfl rfl rfl (by simp) (by omega) ?_; intro V' c' w3 hS2; have HR2 := Lib.hid hS2; clear hS hS2)
        go_roundw
        case rel => exact ⟨j + 1, l + 1, V', c', by go_num, by omega, by rw [HT.out], by rw [HLSJ.out, List.length_append, HFL.out]; rfl, rfl, by simp, by rw [HLSJ.out]; exact HR2.out⟩
        case measure => simp [intOf]; omega
      · have hbe : (((j : Int) + 1) == (m : Int)) = false := beq_eq_false_iff_ne.2 (by omega)
        have hj1 : j + 1 < m := by omega
        obtain ⟨b', off', e', -, hco2⟩ := (hS.ints (i := 0) rfl).at_ (k := j + 1) (by rw [HL.out]; exact hj1)
        obtain ⟨rfl, rfl⟩ : b = b' ∧ off = off' := by cases e'; exact ⟨rfl, rfl⟩
        rw [HOA.out (j + 1) hj1] at hco2
        have hE2 := HLT.out (j + 1) hj1
        generalize o (j + 1) = E2 at *
        obtain ⟨r', ro', e'', -, hcx2⟩ := (g.out.below hS.base).at_ (k := E2) (by rw [HX.out]; exact hE2)
        obtain ⟨rfl, rfl⟩ : r = r' ∧ ro = ro' := by cases e''; exact ⟨rfl, rfl⟩
        generalize ws.getD E 0 = x at *
        generalize ws.getD E2 0 = y at *
        have g6 : (j : Int) + 1 < (m : Int) := by omega
        have g7 : (0 : Int) ≤ (E2 : Int) := by omega
        have g8 : (E2 : Int) < (m : Int) := by omega
        have g9 : (0 : Int) ≤ (j : Int) + 1 := by omega
        have g10 : ((j : Int) + 1).toNat = j + 1 := by omega
        clear hS e' e''
        by_cases hyx : y < x
        · rw [if_pos (.inr hyx)] at hls
          have HLSJ := Lib.hid hls
          clear hls hend
          go_wp2
          go_quiet (fail)
          have HY := Lib.hid (HR.out.drewN nq)
          generalize wr.drewN nq = w9 at HY ⊢
          go_wp2_with (at_builtin; have hS := HY.out; refine wpList_app1 rfl (.tmp 54) (.tmp 56) 24 rfl (T : Int) Tryz.underlying24 hi hz0 hz1 hz2 ((hS.alloc _ _).drop 0) (i := 1) rfl rfl rfl (by simp) (by omega) ?_; intro V' c' w3 hS2; have HR2 := Lib.hid hS2; clear hS hS2)
          go_roundw
          case rel => exact ⟨j + 1, l + 1, V', c', by go_num, by omega, by rw [HT.out], by rw [HLSJ.out, List.length_append, HFL.out]; rfl, rfl, by simp, by rw [HLSJ.out]; exact HR2.out⟩
          case measure => simp [intOf]; omega
        · rw [if_neg (fun hh => hh.elim hend hyx)] at hls
          have HLSJ := Lib.hid hls
          clear hls hend
          go_wp2
          go_quiet (fail)
          go_wp2
          go_roundw
          case rel => exact ⟨j + 1, l, U, d, by go_num, by omega, by rw [HT.out], by rw [HLSJ.out]; exact HFL.out, rfl, HNE.out, by rw [HLSJ.out]; exact HR.out.drewN _⟩
          case measure => simp [intOf]; omega
    · obtain rfl : j = m := by omega
      have hjn : ¬ (j : Int) < (j : Int) := by omega
      have HR := Lib.hid hS
      clear hS
      go_wp2
      go_ret2
      exact ⟨U, d, by rw [HFL.out]; rfl, by rw [HFL.out]; exact HR.out.ownI (i := 1) rfl, HR.out.base⟩

theorem levS_any : Calls Tryz.prog 35 #[.slice D ws.length dap] w (RetIB w (levels ws).1 (levels ws).2) := by
  unfold levels
  cases hf : isVec ws
  · exact levS_no D ws dap w g hl hf
  · exact levS_yes D ws dap w g hl hf

end


end Go.Proofs.YtlbefommcahkeaaGreatDoor.C
