/-
  The contract of spec.TightSets.
-/
import Derived.Test.YtpefnfkodcidkaaDoorBsS
import Derived.Test.YtpefnfkodcidkaaDoorVal
namespace Go.Proofs.YtpefnfkodcidkaaDoor.C
open Go.RowKit K M
set_option linter.unusedVariables false
set_option linter.unusedSimpArgs false
set_option linter.unusedSectionVars false


section

variable (n : Int) (A : Option Addr) (xs : List Int) (cap : Nat) (D : Option Addr) (ws : List Int) (dap : Nat) (w : World) (h : Hid (Ints w w.heap.size A xs)) (g : Hid (Ints w w.heap.size D ws)) (hl : ws.length ≤ 1048576)
include h g hl
set_option maxRecDepth 100000 in
set_option maxHeartbeats 1600000 in
theorem tightS_no (q : isBelow n xs ws = false) :
    Calls Tryd.prog 17 #[.agg #[.int .i64 n, .slice A xs.length cap], .slice D ws.length dap] w (RetIB w [] false) := by
  have HW := Lib.hid (St.start w)
  have HB := Lib.hid (fun W h1 h2 => belowS_any n A xs cap D ws dap W (Lib.hid h1) (Lib.hid h2) hl)
  rw [q] at HB
  clear q
  go_enter Tryd.func17, Tryd.ntmps17
  go_wp2
  have HS := Lib.hid ((HW.out.alloc [.int .i64 n, .slice A xs.length cap] 27).empty)
  simp only [World.size_alloc] at HS
  go_loopw [6, 7] (fun v i wr => i = .int .i64 0 ∧ v = .slice (some ⟨w.heap.size + 1, 0, none⟩) 0 0 ∧ St w wr [il (.slice (some ⟨w.heap.size + 1, 0, none⟩) 0 0) 0 [], bx w.heap.size 27 [.int .i64 n, .slice A xs.length cap]]) (fun _ _ _ => 0)
  case atStart => exact ⟨rfl, by simp, by simpa using HS.out⟩
  case round =>
    obtain ⟨rfl, rfl, hS⟩ := hrel
    obtain ⟨b0, -⟩ := hS.box (i := 1) rfl
    have d00 := b0 0 _ rfl
    have d01 := b0 1 _ rfl
    clear b0 HS
    have HS := Lib.hid hS
    clear hS
    go_wp2_with fail
    refine (HB.out _ ((h.out.below HS.out.base).mono HS.out.size) ((g.out.below HS.out.base).mono HS.out.size)).mono ?_
    rintro e w2 ⟨rfl, hb⟩
    have hS2 := HS.out.below hb
    obtain ⟨b0, -⟩ := hS2.box (i := 1) rfl
    have f00 := b0 0 _ rfl
    have f01 := b0 1 _ rfl
    have HS2 := Lib.hid hS2
    clear hS2 hb b0 d00 d01 HS
    go_wp2_with fail
    refine (HB.out _ ((h.out.below HS2.out.base).mono HS2.out.size) ((g.out.below HS2.out.base).mono HS2.out.size)).mono ?_
    rintro e w3 ⟨rfl, hb⟩
    have HS3 := Lib.hid (HS2.out.below hb)
    clear hb f00 f01 HS2
    go_wp2
    go_ret2
    exact ⟨_, _, rfl, HS3.out.ownI (i := 0) rfl, HS3.out.base⟩

set_option maxRecDepth 100000 in
set_option maxHeartbeats 4000000 in
theorem tightS_yes (q : isBelow n xs ws = true) :
    Calls Tryd.prog 17 #[.agg #[.int .i64 n, .slice A xs.length cap], .slice D ws.length dap] w (RetIB w (tightTo xs ws xs.length) true) := by
  have HW := Lib.hid (St.start w)
  have HB := Lib.hid (fun W h1 h2 => belowS_any n A xs cap D ws dap W (Lib.hid h1) (Lib.hid h2) hl)
  rw [q] at HB
  obtain ⟨q1, q2, q3, -⟩ := isBelow_yes q
  obtain ⟨h5, hv⟩ := isVec5_yes q3
  have hx32 := (isFn_len (ground_fn q1)).2
  have HWS := Lib.hid (fun W s (h1 : Ints W W.heap.size D ws) (hs : s < 4294967296) => weigh5S_any D ws dap s W (Lib.hid h1) hv h5 hs)
  have HST := Lib.hid (fun s => (by rfl : tightTo xs ws (s + 1) = if weigh ws s ws.length = xs.getD s 0 then tightTo xs ws s ++ [(s : Int)] else tightTo xs ws s))
  have HLE := Lib.hid (fun s => tightTo_len xs ws s)
  have hz : tightTo xs ws 0 = [] := rfl
  generalize tightTo xs ws = f at *
  obtain ⟨p, hp⟩ : ∃ p, xs.length = p := ⟨_, rfl⟩
  obtain ⟨m, hm⟩ : ∃ m, ws.length = m := ⟨_, rfl⟩
  have HP := Lib.hid hp
  rw [hp] at hx32 HB ⊢
  rw [hm] at HB HWS HST ⊢
  clear q q1 q2 q3 hv hp hm hl h5
  obtain ⟨i0, hi, hz0, hz1, hz2⟩ := info_parts info_int
  go_enter Tryd.func17, Tryd.ntmps17
  go_wp2
  have HS := Lib.hid ((HW.out.alloc [.int .i64 n, .slice A p cap] 27).empty)
  simp only [World.size_alloc] at HS
  go_loopw [6, 7] (fun v i wr => ∃ (s k : Nat) (V : Option Addr) (c : Nat), i = .int .i64 s ∧ s ≤ p ∧ k ≤ s ∧ v = .slice V k c ∧ St w wr [il (.slice V k c) k (f s), bx w.heap.size 27 [.int .i64 n, .slice A p cap]]) (fun _ i _ => p - (intOf i).toNat)
  case atStart => exact ⟨0, 0, _, _, rfl, Nat.zero_le _, Nat.le_refl _, rfl, by rw [hz]; simpa using HS.out⟩
  case round =>
    obtain ⟨s, k, V, c, rfl, hs, hks, rfl, hS⟩ := hrel
    obtain ⟨b0, -⟩ := hS.box (i := 1) rfl
    have d00 := b0 0 _ rfl
    have d01 := b0 1 _ rfl
    clear b0 HS hz
    have HR := Lib.hid hS
    clear hS
    by_cases hlt : s < p
    · have hsi : (s : Int) < (p : Int) := by omega
      have hs0 : (0 : Int) ≤ (s : Int) := by omega
      obtain ⟨b, off, rfl, hbl, hc⟩ := h.out.at_ (k := s) (by rw [HP.out]; exact hlt)
      have HH := Lib.hid (fun (W : World) (hb : Below w.heap.size w W) => (h.out.below hb).mono hb.size)
      have hst := HST.out s
      have hq := fun W h1 => HWS.out W s h1 (by omega)
      generalize xs.getD s 0 = x at hc hst
      generalize weigh ws s m = y at hq hst
      have HC := Lib.hid hc
      have HQ := Lib.hid hq
      clear hc hq
      go_wp2_with fail
      refine (HB.out _ (HH.out _ HR.out.base) ((g.out.below HR.out.base).mono HR.out.size)).mono ?_
      rintro e w2 ⟨rfl, hb⟩
      have hS2 := HR.out.below hb
      obtain ⟨b0, -⟩ := hS2.box (i := 1) rfl
      have f00 := b0 0 _ rfl
      have f01 := b0 1 _ rfl
      have HS2 := Lib.hid hS2
      have hcc := (HS2.out.base.cell (p := ⟨b, off + s, none⟩) hbl).trans HC.out
      clear hS2 hb b0 d00 d01 HR
      have HQ2 := Lib.hid (fun k => HQ.out (w2.drewN k) ((g.out.below HS2.out.base).mono HS2.out.size))
      by_cases hyx : y = x
      · rw [if_pos hyx] at hst
        have hbe : (y == x) = true := by rw [hyx]; exact beq_self_eq_true _
        have HT := Lib.hid hst
        clear hst
        go_wp2
        go_quiet ((go_at_call 29; exact quiet_gives (HQ2.out _)))
        have HY := Lib.hid (HS2.out.drewN nq)
        generalize w2.drewN nq = w9 at HY ⊢
        go_wp2_with (at_builtin; have hS := HY.out; refine wpList_app1 rfl (.tmp 30) (.tmp 32) 22 rfl (s : Int) Tryd.underlying22 hi hz0 hz1 hz2 ((hS.alloc _ _).drop 0) (i := 0) rfl rfl rfl (by simp) (by omega) ?_; intro V' c' w3 hS3; have HR3 := Lib.hid hS3; clear hS hS3)
        go_roundw
        case rel => exact ⟨s + 1, k + 1, V', c', by go_num, by omega, by omega, rfl, by rw [HT.out]; exact HR3.out⟩
        case measure => simp [intOf]; omega
      · rw [if_neg hyx] at hst
        have hbe : (y == x) = false := beq_eq_false_iff_ne.2 hyx
        have HT := Lib.hid hst
        clear hst
        go_wp2
        go_quiet ((go_at_call 29; exact quiet_gives (HQ2.out _)))
        go_wp2
        go_roundw
        case rel => exact ⟨s + 1, k, V, c, by go_num, by omega, by omega, rfl, by rw [HT.out]; exact HS2.out.drewN _⟩
        case measure => simp [intOf]; omega
    · obtain rfl : s = p := by omega
      have hsi : ¬ (s : Int) < (s : Int) := by omega
      go_wp2_with fail
      refine (HB.out _ ((h.out.below HR.out.base).mono HR.out.size) ((g.out.below HR.out.base).mono HR.out.size)).mono ?_
      rintro e w2 ⟨rfl, hb⟩
      have hS2 := HR.out.below hb
      obtain ⟨b0, -⟩ := hS2.box (i := 1) rfl
      have f00 := b0 0 _ rfl
      have f01 := b0 1 _ rfl
      have HS2 := Lib.hid hS2
      clear hS2 hb b0 d00 d01 HR
      go_wp2_with fail
      refine (HB.out _ ((h.out.below HS2.out.base).mono HS2.out.size) ((g.out.below HS2.out.base).mono HS2.out.size)).mono ?_
      rintro e w3 ⟨rfl, hb⟩
      have HS3 := Lib.hid (HS2.out.below hb)
      clear hb f00 f01 HS2
      go_wp2
      go_ret2
      have hln : (f s).length = k := OwnN.len (HS3.out.own (i := 0) rfl)
      exact ⟨V, c, by rw [hln]; rfl, by rw [hln]; exact HS3.out.ownI (i := 0) rfl, HS3.out.base⟩

theorem tightS_any : Calls Tryd.prog 17 #[.agg #[.int .i64 n, .slice A xs.length cap], .slice D ws.length dap] w (RetIB w (tightSets n xs ws).1 (tightSets n xs ws).2) := by
  unfold tightSets
  cases q : isBelow n xs ws
  · exact tightS_no n A xs cap D ws dap w h g hl q
  · exact tightS_yes n A xs cap D ws dap w h g hl q

end


end Go.Proofs.YtpefnfkodcidkaaDoor.C
