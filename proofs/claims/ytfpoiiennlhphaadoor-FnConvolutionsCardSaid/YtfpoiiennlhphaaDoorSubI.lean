/-
  The contracts of impl.IsSubmodular, IsGrounded, IsIncreasing, IsSupermodular, IsModular and IsPolymatroid.
-/
import Derived.Test.YtfpoiiennlhphaaDoorViolA
import Derived.Test.YtfpoiiennlhphaaDoorSubS
import Derived.Test.YtfpoiiennlhphaaDoorFunJ
namespace Go.Proofs.YtfpoiiennlhphaaDoor.C
open Go.RowKit K M
set_option linter.unusedVariables false
set_option linter.unusedSimpArgs false


section

variable (n : Int) (A : Option Addr) (xs : List Int) (cap : Nat) (w : World) (h : Hid (Ints w w.heap.size A xs))
include h

theorem subI_any : Calls Tryd.prog 24 #[.agg #[.int .i64 n, .slice A xs.length cap]] w (RetV w (.bool (isSub n xs))) := by
  have HW := Lib.hid (St.start w)
  unfold isSub
  obtain ⟨rx, rb, hr⟩ : ∃ rx rb, viol n xs = (rx, rb) := ⟨_, _, rfl⟩
  rw [hr]
  have hv := fun W (hW : Hid (Ints W W.heap.size A xs)) => violI_any n A xs cap W hW
  rw [hr] at hv
  have HV := Lib.hid hv
  clear hv hr
  obtain ⟨f, hf⟩ : ∃ f, isFn n xs = f := ⟨_, rfl⟩
  have hg := fun W (hW : Hid (Ints W W.heap.size A xs)) => isFnI_any n A xs cap W hW
  rw [hf] at hg ⊢
  have HG := Lib.hid hg
  clear hg hf
  dsimp only
  go_enter Tryd.func24, Tryd.ntmps24
  go_wp2_with fail
  refine St.use (w0 := w) (by exact HW.out.alloc _ _) ?_
  intro hS
  refine (HV.out _ (Lib.hid ((h.out.below hS.base).mono hS.size))).mono ?_
  rintro e w1 ⟨A1, c1, rfl, ho, hb⟩
  have hS1 := hS.below hb
  obtain ⟨b0, -⟩ := hS1.box (i := 0) rfl
  have b00 := b0 0 _ rfl
  have b01 := b0 1 _ rfl
  have HS1 := Lib.hid hS1
  clear hS hb b0 hS1 ho
  cases f <;> cases rb
  all_goals
    go_wp2_with (go_at_call 67; refine St.use (w0 := w) (by exact HS1.out) ?_; intro hS; refine (HG.out _ (Lib.hid ((h.out.below hS.base).mono hS.size))).mono ?_; rintro e w2 ⟨rfl, hb⟩; have HS2 := Lib.hid (hS.below hb); clear hS hb)
    go_ret
    exact ⟨rfl, HS2.out.base⟩

theorem groundI_any : Calls Tryd.prog 25 #[.agg #[.int .i64 n, .slice A xs.length cap]] w (RetV w (.bool (isGround n xs))) := by
  have HW := Lib.hid (St.start w)
  unfold isGround
  cases hf : isFn n xs
  · have HF := Lib.hid hf
    clear hf
    go_enter Tryd.func25, Tryd.ntmps25
    go_wp2_with (go_at_call 67; refine St.use (w0 := w) (by exact HW.out.alloc _ _) ?_; intro hS; refine (isFnI_no n A xs cap _ (Lib.hid ((h.out.below hS.base).mono hS.size)) HF.out).mono ?_; rintro e w2 ⟨rfl, hb⟩; have HS2 := Lib.hid (hS.below hb); clear hS hb)
    go_ret
    exact ⟨rfl, HS2.out.base⟩
  · obtain ⟨hl1, hl2⟩ := isFn_len hf
    have HF := Lib.hid hf
    obtain ⟨b, off, rfl, hbl, hcc⟩ := h.out (by omega)
    have hc := hcc 0 (by omega)
    rw [Nat.add_zero] at hc
    obtain ⟨x, hx⟩ : ∃ x, xs.getD 0 0 = x := ⟨_, rfl⟩
    rw [hx] at hc ⊢
    have HC := Lib.hid hc
    obtain ⟨m, hxm⟩ : ∃ m, xs.length = m := ⟨_, rfl⟩
    have hg := fun W (hW : Hid (Ints W W.heap.size (some ⟨b, off, none⟩) xs)) => isFnI_yes n (some ⟨b, off, none⟩) xs cap W hW hf
    rw [hxm] at hl1 hl2 hg ⊢
    have HG := Lib.hid hg
    have hm0 : (0 : Int) < (m : Int) := by omega
    clear hf hcc hc hg hx hxm
    by_cases h0 : x = 0
    · subst h0
      go_enter Tryd.func25, Tryd.ntmps25
      go_wp2_with (go_at_call 67; refine St.use (w0 := w) (by exact HW.out.alloc _ _) ?_; intro hS; refine (HG.out _ (Lib.hid ((h.out.below hS.base).mono hS.size))).mono ?_; rintro e w2 ⟨rfl, hb⟩; have hS1 := hS.below hb; obtain ⟨b0, -⟩ := hS1.box (i := 0) rfl; have b01 := b0 1 _ rfl; have d0 := (hS1.base.cell (p := ⟨b, off, none⟩) hbl).trans HC.out; have HS2 := Lib.hid hS1; clear hS hb hS1 b0)
      go_ret
      exact ⟨rfl, HS2.out.base⟩
    · have hx0 : (x == 0) = false := beq_eq_false_iff_ne.2 h0
      have hd : decide (x = 0) = false := by simpa using h0
      rw [hd]
      clear h0
      go_enter Tryd.func25, Tryd.ntmps25
      go_wp2_with (go_at_call 67; refine St.use (w0 := w) (by exact HW.out.alloc _ _) ?_; intro hS; refine (HG.out _ (Lib.hid ((h.out.below hS.base).mono hS.size))).mono ?_; rintro e w2 ⟨rfl, hb⟩; have hS1 := hS.below hb; obtain ⟨b0, -⟩ := hS1.box (i := 0) rfl; have b01 := b0 1 _ rfl; have d0 := (hS1.base.cell (p := ⟨b, off, none⟩) hbl).trans HC.out; have HS2 := Lib.hid hS1; clear hS hb hS1 b0)
      go_ret
      exact ⟨rfl, HS2.out.base⟩

set_option maxRecDepth 100000 in
set_option maxHeartbeats 4000000 in
theorem incI_good (N : Nat) (hn : n = (N : Int)) (hf : isFn n xs = true) : Calls Tryd.prog 44 #[.agg #[.int .i64 n, .slice A xs.length cap]] w (RetV w (.bool (isInc n xs))) := by
  subst hn
  have HW := Lib.hid (St.start w)
  have HF := Lib.hid hf
  have hn5 : N ≤ 5 := by have := (isFn_yes hf).2.1; omega
  have hl2 := (isFn_len hf).2
  have hl3 := (isFn_yes hf).2.2.1
  rw [Int.toNat_natCast] at hl3
  obtain ⟨m, hxm⟩ : ∃ m, xs.length = m := ⟨_, rfl⟩
  have h' := Lib.hid (show ∀ W, Ints W W.heap.size A xs → Calls Tryd.prog 67 #[.agg #[.int .i64 N, .slice A m cap]] W (RetV W (.bool true)) from fun W hW => by rw [← hxm]; exact isFnI_yes N A xs cap W (Lib.hid hW) hf)
  have HN := Lib.hid (show ∀ s i, s < m → i < N → incAt xs s i = false → isInc (N : Int) xs = false from fun s i hs hi hb => by
    unfold isInc
    rw [hf, hxm]
    rw [Bool.eq_false_iff]
    intro hh
    simp only [Bool.true_and, List.all_eq_true, List.mem_range, Int.toNat_natCast] at hh
    have := hh s hs i hi
    rw [hb] at this
    cases this)
  have HY := Lib.hid (show (∀ s i, s < m → i < N → incAt xs s i = true) → isInc (N : Int) xs = true from fun hh => by
    unfold isInc
    rw [hf, hxm]
    simp only [Bool.true_and, List.all_eq_true, List.mem_range, Int.toNat_natCast]
    exact fun s hs i hi => hh s i hs hi)
  rw [hxm] at hl2 hl3 ⊢
  have HX := Lib.hid hxm
  have HL := Lib.hid hl3
  clear hf hxm hl3
  go_enter Tryd.func44, Tryd.ntmps44
  go_wp2_with fail
  refine St.use (w0 := w) (by exact HW.out.alloc _ _) ?_
  intro hS
  refine (h'.out _ ((h.out.below hS.base).mono hS.size)).mono ?_
  rintro e w1 ⟨rfl, hb⟩
  have hS1 := hS.below hb
  obtain ⟨b0, -⟩ := hS1.box (i := 0) rfl
  have b00 := b0 0 _ rfl
  have b01 := b0 1 _ rfl
  have HS1 := Lib.hid hS1
  clear hS hb b0 hS1
  go_wp2
  clear b00 b01
  go_loopw [12] (fun x wr => ∃ s : Nat, x = .int .i64 s ∧ s ≤ m ∧ Hid (∀ s' i', s' < s → i' < N → incAt xs s' i' = true) ∧ St w wr [bx w.heap.size 26 [.int .i64 N, .slice A m cap]]) (fun x _ => m - (intOf x).toNat)
  case atStart => exact ⟨0, rfl, Nat.zero_le _, Lib.hid (fun s' i' hs' => absurd hs' (by omega)), HS1.out⟩
  case round =>
    obtain ⟨s, rfl, hsm, hno, hS⟩ := hrel
    obtain ⟨b0, -⟩ := hS.box (i := 0) rfl
    have b00 := b0 0 _ rfl
    have b01 := b0 1 _ rfl
    have HS := Lib.hid hS
    clear b0
    by_cases hlt : s < m
    · have hsi : (s : Int) < (m : Int) := by omega
      have hs0 : (0 : Int) ≤ (s : Int) := by omega
      obtain ⟨b, off, rfl, hbl, hcc⟩ := h.out (by rw [HX.out]; omega)
      have c1 := (hS.base.cell (p := ⟨b, off + s, none⟩) hbl).trans (hcc s (by rw [HX.out]; exact hlt))
      obtain ⟨x, hx⟩ : ∃ x, xs.getD s 0 = x := ⟨_, rfl⟩
      rw [hx] at c1
      have HXV := Lib.hid hx
      have HCC := Lib.hid hcc
      clear hS hcc hx
      go_wp2
      clear b00 b01 c1
      obtain ⟨wo, rfl⟩ : ∃ wo : World, wo = wr := ⟨_, rfl⟩
      go_loopw [19] (fun y wr => ∃ i : Nat, y = .int .i64 i ∧ i ≤ N ∧ Hid (∀ i', i' < i → incAt xs s i' = true) ∧ St w wr [bx w.heap.size 26 [.int .i64 N, .slice (some ⟨b, off, none⟩) m cap]]) (fun y _ => N - (intOf y).toNat)
      case atStart => exact ⟨0, rfl, Nat.zero_le _, Lib.hid (fun i' hi' => absurd hi' (by omega)), HS.out⟩
      case round =>
        obtain ⟨i, rfl, hiN, hno2, hS⟩ := hrel
        obtain ⟨b0, -⟩ := hS.box (i := 0) rfl
        have b00 := b0 0 _ rfl
        have b01 := b0 1 _ rfl
        have HS2 := Lib.hid hS
        clear b0
        by_cases hlt2 : i < N
        · have hii : (i : Int) < (N : Int) := by omega
          have hj : s ||| 2 ^ i < m := by
            have hp : 2 ^ i < 2 ^ N := Nat.pow_lt_pow_right (by decide) hlt2
            have := Nat.or_lt_two_pow (x := s) (y := 2 ^ i) (n := N) (by have := HL.out; omega) hp
            have := HL.out
            omega
          have q1 : ∀ W, Calls Tryd.prog 64 #[.int .i64 s, .int .i64 i] W fun e' w' => e' = .returned (.int .i64 (s ||| 2 ^ i : Nat)) ∧ W = w' := fun W => with_any (s : Int) (i : Int) W (by omega) (by omega) (by omega) (by omega)
          have hinc : incAt xs s i = decide (xs.getD s 0 ≤ xs.getD (s ||| 2 ^ i) 0) := rfl
          rw [HXV.out] at hinc
          have c2 := (hS.base.cell (p := ⟨b, off + (s ||| 2 ^ i), none⟩) hbl).trans (HCC.out _ (by rw [HX.out]; exact hj))
          generalize s ||| 2 ^ i = j at hj c2 hinc q1
          generalize xs.getD j 0 = y at c2 hinc
          have hj0 : (0 : Int) ≤ (j : Int) := by omega
          have hjm : (j : Int) < (m : Int) := by omega
          have Q1 := Lib.hid q1
          clear hS q1
          by_cases hxy : y < x
          · have hbad := HN.out s i hlt hlt2 (by rw [hinc]; simpa using hxy)
            have HB := Lib.hid hbad
            clear hbad hinc
            go_wp2
            go_quiet ((go_at_call 64; first | exact quiet_left (Q1.out _) | exact quiet_add_left (Q1.out _)))
            go_wp2
            go_ret
            rw [HB.out]
            exact ⟨rfl, (HS2.out.drewN _).base⟩
          · have hgood : incAt xs s i = true := by rw [hinc]; simpa using hxy
            have HB := Lib.hid hgood
            clear hgood hinc
            go_wp2
            go_quiet ((go_at_call 64; first | exact quiet_left (Q1.out _) | exact quiet_add_left (Q1.out _)))
            go_wp2
            go_roundw
            case rel => exact ⟨i + 1, by go_num, by omega, Lib.hid (fun i' hi' => by
              by_cases e : i' = i
              · subst e; exact HB.out
              · exact hno2.out i' (by omega)), HS2.out.drewN _⟩
            case measure => simp [intOf]; omega
        · obtain rfl : i = N := by omega
          have hin : ¬ (i : Int) < (i : Int) := by omega
          clear hS
          go_wp2
          go_roundw
          case rel => exact ⟨s + 1, by go_num, by omega, Lib.hid (fun s' i' hs' hi' => by
            by_cases e : s' = s
            · subst e; exact hno2.out i' hi'
            · exact hno.out s' i' (by omega) hi'), HS2.out⟩
          case measure => simp [intOf]; omega
    · obtain rfl : s = m := by omega
      have hsn : ¬ (s : Int) < (s : Int) := by omega
      have hv := Lib.hid (HY.out hno.out)
      clear hS
      go_wp2
      go_ret
      rw [hv.out]
      exact ⟨rfl, HS.out.base⟩

theorem incI_bad (hf : isFn n xs = false) : Calls Tryd.prog 44 #[.agg #[.int .i64 n, .slice A xs.length cap]] w (RetV w (.bool (isInc n xs))) := by
  have HW := Lib.hid (St.start w)
  have hv : isInc n xs = false := by unfold isInc; rw [hf]; rfl
  rw [hv]
  have HF := Lib.hid hf
  clear hf hv
  go_enter Tryd.func44, Tryd.ntmps44
  go_wp2_with fail
  refine St.use (w0 := w) (by exact HW.out.alloc _ _) ?_
  intro hS
  refine (isFnI_no n A xs cap _ (Lib.hid ((h.out.below hS.base).mono hS.size)) HF.out).mono ?_
  rintro e w1 ⟨rfl, hb⟩
  have HS1 := Lib.hid (hS.below hb)
  clear hS hb
  go_wp2
  go_ret
  exact ⟨rfl, HS1.out.base⟩

theorem incI_any : Calls Tryd.prog 44 #[.agg #[.int .i64 n, .slice A xs.length cap]] w (RetV w (.bool (isInc n xs))) := by
  cases hf : isFn n xs
  · exact incI_bad n A xs cap w h hf
  · obtain ⟨N, hn⟩ := Int.eq_ofNat_of_zero_le (isFn_yes hf).1
    exact incI_good n A xs cap w h N hn hf

set_option maxHeartbeats 1600000 in
theorem polyI_any : Calls Tryd.prog 61 #[.agg #[.int .i64 n, .slice A xs.length cap]] w (RetV w (.bool (isPoly n xs))) := by
  have HW := Lib.hid (St.start w)
  unfold isPoly
  obtain ⟨u, hu⟩ : ∃ u, isGround n xs = u := ⟨_, rfl⟩
  obtain ⟨v, hv⟩ : ∃ v, isInc n xs = v := ⟨_, rfl⟩
  obtain ⟨t, ht⟩ : ∃ t, isSub n xs = t := ⟨_, rfl⟩
  have hU := fun W (hW : Hid (Ints W W.heap.size A xs)) => groundI_any n A xs cap W hW
  have hV := fun W (hW : Hid (Ints W W.heap.size A xs)) => incI_any n A xs cap W hW
  have hT := fun W (hW : Hid (Ints W W.heap.size A xs)) => subI_any n A xs cap W hW
  rw [hu] at hU ⊢
  rw [hv] at hV ⊢
  rw [ht] at hT ⊢
  have HU := Lib.hid hU
  have HV := Lib.hid hV
  have HT := Lib.hid hT
  clear hu hv ht hU hV hT
  go_enter Tryd.func61, Tryd.ntmps61
  go_wp2_with fail
  refine St.use (w0 := w) (by exact HW.out.alloc _ _) ?_
  intro hS
  refine (HU.out _ (Lib.hid ((h.out.below hS.base).mono hS.size))).mono ?_
  rintro e w1 ⟨rfl, hb⟩
  have hS1 := hS.below hb
  obtain ⟨b0, -⟩ := hS1.box (i := 0) rfl
  have b00 := b0 0 _ rfl
  have b01 := b0 1 _ rfl
  have HS1 := Lib.hid hS1
  clear hS hb b0 hS1
  cases u
  · go_wp2_with fail
    go_ret
    exact ⟨rfl, HS1.out.base⟩
  · cases v
    · go_wp2_with (go_at_call 44; refine St.use (w0 := w) (by exact HS1.out) ?_; intro hS; refine (HV.out _ (Lib.hid ((h.out.below hS.base).mono hS.size))).mono ?_; rintro e w2 ⟨rfl, hb⟩; have HS2 := Lib.hid (hS.below hb); clear hS hb)
      go_ret
      exact ⟨rfl, HS2.out.base⟩
    · go_wp2_with (first | (go_at_call 44; refine St.use (w0 := w) (by exact HS1.out) ?_; intro hS; refine (HV.out _ (Lib.hid ((h.out.below hS.base).mono hS.size))).mono ?_; rintro e w2 ⟨rfl, hb⟩; have hS1 := hS.below hb; obtain ⟨c0, -⟩ := hS1.box (i := 0) rfl; have c00 := c0 0 _ rfl; have c01 := c0 1 _ rfl; have HS2 := Lib.hid hS1; clear hS hb hS1 c0) | (go_at_call 24; refine St.use (w0 := w) (by exact HS2.out) ?_; intro hS; refine (HT.out _ (Lib.hid ((h.out.below hS.base).mono hS.size))).mono ?_; rintro e w3 ⟨rfl, hb⟩; have HS3 := Lib.hid (hS.below hb); clear hS hb))
      go_ret
      exact ⟨rfl, HS3.out.base⟩

end


end Go.Proofs.YtfpoiiennlhphaaDoor.C
