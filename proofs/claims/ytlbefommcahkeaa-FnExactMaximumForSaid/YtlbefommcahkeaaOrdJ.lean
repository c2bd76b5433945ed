/-
  The contract of impl.OrderFor.
-/
import Derived.Test.YtlbefommcahkeaaOrdI
namespace Go.Proofs.Ytlbefommcahkeaa.C
open Go.RowKit K M
set_option linter.unusedVariables false
set_option linter.unusedSimpArgs false


section

variable (A : Option Addr) (ws : List Int) (cap : Nat) (w : World) (h : Hid (Ints w w.heap.size A ws)) (hl : ws.length ≤ 1048576)
include h hl
theorem ordI_no (hf : isVec ws = false) : Calls Try.prog 28 #[.slice A ws.length cap] w (RetIB w [] false) := by
  have HW := Lib.hid (St.start w)
  have HF := Lib.hid (fun W h1 => isVecI_any A ws cap W (Lib.hid h1) hl)
  rw [hf] at HF
  clear hf
  have HS := Lib.hid (HW.out.alloc [.slice A ws.length cap] 22)
  go_enter Try.func28, Try.ntmps28
  go_wp2_with (go_at_call 40; refine (HF.out _ ((h.out.below HS.out.base).mono HS.out.size)).mono ?_; rintro e w' ⟨rfl, rfl⟩)
  go_ret2
  exact ⟨none, 0, rfl, K.Own.nil _ _, HS.out.base⟩

set_option maxRecDepth 100000 in
set_option maxHeartbeats 1600000 in
theorem ordI_yes (hf : isVec ws = true) : Calls Try.prog 28 #[.slice A ws.length cap] w (RetIB w (nats (ordN ws ws.length)) true) := by
  have HW := Lib.hid (St.start w)
  have HF := Lib.hid (fun W h1 => isVecI_any A ws cap W (Lib.hid h1) hl)
  rw [hf] at HF
  have hm5 := (isVec_yes hf).1
  obtain ⟨m, hm⟩ : ∃ m, ws.length = m := ⟨_, rfl⟩
  rw [hm] at HF hm5 ⊢
  have HSO := Lib.hid (fun W g c B t hS => sortI A ws cap g c B m t w W hm hm5 h.out hS)
  have hln : (nats (ordN ws m)).length = m := by rw [nats_len, ordN_len]
  generalize nats (ordN ws m) = os at HSO hln ⊢
  have HLN := Lib.hid hln
  clear hf hm hl hln
  have HS := Lib.hid (HW.out.alloc [.slice A m cap] 22)
  obtain ⟨i0, hi, hi0, hi1, hi2⟩ := info_parts info_int
  go_enter Try.func28, Try.ntmps28
  go_wp2_with (first
    | (go_at_call 40; refine (HF.out _ ((h.out.below HS.out.base).mono HS.out.size)).mono ?_; rintro e w' ⟨rfl, rfl⟩)
    | (refine wpList_make_full _ rfl _ _ _ rfl (w.heap.size + 1) 3 i0 (.int .i64 0) 1 Try.underlying22 hi hi0 hi1 .i64 .i64 _ _ m rfl rfl rfl rfl (by rw [hi2]; omega) (by unfold maxLen; omega) (by simp) ?_; intro w1 hown1 hg1))
  rw [zeros] at hown1
  simp only [World.size_alloc] at hown1
  have HS1 := Lib.hid (show St w _ [il (.slice (some ⟨w.heap.size + 1, 0, none⟩) m m) m (List.replicate m 0), bx w.heap.size 22 [.slice A m cap]] from ((HW.out.alloc _ _).new ((Below.refl _ _).grown hg1 (Nat.le_refl _) (by simp)) (by rw [World.size_alloc]; exact hown1)))
  clear hown1 hg1 hi hi0 hi1 hi2
  go_loopw [14] (fun i wr => ∃ (j : Nat) (ys : List Int), i = .int .i64 j ∧ j ≤ m ∧ ys.length = m ∧ ys.take j = tab j (fun k => (k : Int)) ∧ St w wr [il (.slice (some ⟨w.heap.size + 1, 0, none⟩) m m) m ys, bx w.heap.size 22 [.slice A m cap]]) (fun i _ => m - (intOf i).toNat)
  case atStart => exact ⟨0, _, rfl, Nat.zero_le _, by simp, by simp [tab], HS1.out⟩
  case round =>
    obtain ⟨j, ys, rfl, hj, hy, ht, hS⟩ := hrel
    have HL := Lib.hid hy
    have HT := Lib.hid ht
    have HR := Lib.hid hS
    by_cases hlt : j < m
    · obtain ⟨c1, c2⟩ := hS.cellI (i := 0) rfl hlt
      have hj0 : (0 : Int) ≤ (j : Int) := by omega
      have hjn : (j : Int) < (m : Int) := by omega
      clear hS hy ht
      go_wp2
      have hS2 := HR.out.setI (i := 0) rfl j (j : Int)
      have HS2 := Lib.hid hS2
      clear hS2
      go_roundw
      case rel => exact ⟨j + 1, ys.set j (j : Int), by go_num, by omega, by rw [List.length_set]; exact HL.out, tab_set (fun k => (k : Int)) HL.out HT.out hlt, HS2.out⟩
      case measure => simp [intOf]; omega
    · obtain rfl : j = m := by omega
      have hjn : ¬ (j : Int) < (j : Int) := by omega
      have e1 : ys = selves j := by
        rw [List.take_of_length_le (by omega)] at ht
        rw [ht]
        unfold tab selves nats
        rfl
      subst e1
      clear hS hy ht HL HT
      go_wp2_with (go_at_call 41; refine (HSO.out _ _ _ _ _ HR.out).mono ?_; rintro e w2 ⟨rfl, hS⟩; have HS2 := Lib.hid hS; clear hS)
      go_ret2
      exact ⟨some ⟨w.heap.size + 1, 0, none⟩, j, by rw [HLN.out]; rfl, by rw [HLN.out]; exact HS2.out.ownI (i := 0) rfl, HS2.out.base⟩

theorem ordI_any : Calls Try.prog 28 #[.slice A ws.length cap] w (RetIB w (orderFor ws).1 (orderFor ws).2) := by
  unfold orderFor
  cases hf : isVec ws
  · exact ordI_no A ws cap w h hl hf
  · exact ordI_yes A ws cap w h hl hf

end


end Go.Proofs.Ytlbefommcahkeaa.C
