/-
  The contracts of impl.ClosureOf, IsFlat and FlatsOf.
-/
import Derived.Test.YtfpoiiennlhphaaDoorAllM
import Derived.Test.YtfpoiiennlhphaaDoorSubI
import Derived.Test.YtfpoiiennlhphaaDoorGain
namespace Go.Proofs.YtfpoiiennlhphaaDoor.C
open Go.RowKit K M
set_option linter.unusedVariables false
set_option linter.unusedSimpArgs false

set_option maxRecDepth 100000 in
set_option maxHeartbeats 4000000 in
theorem cloI_any (n : Int) (A : Option Addr) (xs : List Int) (cap : Nat) (s : Int) (w : World) (h : Hid (Ints w w.heap.size A xs)) :
    Calls Tryd.prog 8 #[.agg #[.int .i64 n, .slice A xs.length cap], .int .i64 s] w (RetV w (.int .i64 (closureOf n xs s))) := by
  have HW := Lib.hid (St.start w)
  have HQ := Lib.hid (fun W hW => polyI_any n A xs cap W (Lib.hid hW))
  unfold closureOf
  cases hp : isPoly n xs
  · rw [if_neg (by simp)]
    rw [hp] at HQ
    clear hp
    go_enter Tryd.func8, Tryd.ntmps8
    go_wp2_with (go_at_call 61; refine St.use (w0 := w) (by exact HW.out.alloc _ _) ?_; intro hS; refine (HQ.out _ ((h.out.below hS.base).mono hS.size)).mono ?_; rintro e w2 ⟨rfl, hb⟩; have HS2 := Lib.hid (hS.below hb); clear hS hb)
    go_ret
    exact ⟨rfl, HS2.out.base⟩
  · have hf : isFn n xs = true := by
      have := hp
      unfold isPoly isGround at this
      simp only [Bool.and_eq_true] at this
      exact this.1.1
    rw [hp] at HQ
    obtain ⟨h0, h5, hl, -⟩ := isFn_yes hf
    cases hs : isSet n s
    · rw [if_neg (by simp)]
      have HN := Lib.hid hs
      clear hp hf hs hl
      go_enter Tryd.func8, Tryd.ntmps8
      go_wp2_with (first
        | (go_at_call 61; refine St.use (w0 := w) (by exact HW.out.alloc _ _) ?_; intro hS; refine (HQ.out _ ((h.out.below hS.base).mono hS.size)).mono ?_; rintro e w2 ⟨rfl, hb⟩; have hS2 := hS.below hb; obtain ⟨b0, -⟩ := hS2.box (i := 0) rfl; have b00 := b0 0 _ rfl; have HS2 := Lib.hid hS2; clear hS hb hS2 b0)
        | (go_at_call 62; refine (isOf_no _ n _ h0 (by omega) HN.out).mono ?_; rintro e' w' ⟨rfl, rfl⟩))
      go_ret
      exact ⟨rfl, HS2.out.base⟩
    · rw [if_pos ⟨rfl, rfl⟩]
      obtain ⟨N, rfl⟩ := Int.eq_ofNat_of_zero_le h0
      obtain ⟨s0, s1⟩ := isSet_yes hs
      obtain ⟨S, rfl⟩ := Int.eq_ofNat_of_zero_le s0
      rw [Int.toNat_natCast] at s1 hl
      rw [Int.toNat_natCast, Int.toNat_natCast]
      have HN := Lib.hid hs
      have hSN : S < 2 ^ N := by omega
      have hN5 : N ≤ 5 := by omega
      have HG := Lib.hid (fun W hW (k : Nat) (hk : k < N) => gainI_yes N A xs cap S k W (Lib.hid hW) hf hs (by omega) (by omega))
      have HB := Lib.hid (fun k (hk : k ≤ N) => addZ_lt xs hSN k hk)
      have hp32 : 2 ^ N ≤ 32 := Nat.le_trans (Nat.pow_le_pow_right (by decide) hN5) (by decide)
      have HU := Lib.hid (fun k => show addZ xs S (k + 1) = if xs.getD (S ||| 2 ^ k) 0 = xs.getD S 0 then addZ xs S k ||| 2 ^ k else addZ xs S k from rfl)
      have HZ := Lib.hid (show addZ xs S 0 = S from rfl)
      have HC := Lib.hid (show clos N xs S = addZ xs S N from rfl)
      rw [HC.out]
      generalize addZ xs S = z at *
      have HP := Lib.hid hp32
      generalize 2 ^ N = m at *
      clear hp hf hs hl s1 hSN hp32
      go_enter Tryd.func8, Tryd.ntmps8
      go_wp2_with (first
        | (go_at_call 61; refine St.use (w0 := w) (by exact HW.out.alloc _ _) ?_; intro hS; refine (HQ.out _ ((h.out.below hS.base).mono hS.size)).mono ?_; rintro e w2 ⟨rfl, hb⟩; have hS2 := hS.below hb; obtain ⟨b0, -⟩ := hS2.box (i := 0) rfl; have b00 := b0 0 _ rfl; have b01 := b0 1 _ rfl; have HS2 := Lib.hid hS2; clear hS hb hS2 b0)
        | (go_at_call 62; refine (isOf_yes _ N _ h0 (by omega) HN.out).mono ?_; rintro e' w' ⟨rfl, rfl⟩))
      go_loopw [5, 20] (fun x i wr => ∃ (k : Nat), i = .int .i64 k ∧ k ≤ N ∧ x = .int .i64 (z k : Nat) ∧ St w wr [bx w.heap.size 26 [.int .i64 N, .slice A xs.length cap]]) (fun _ i _ => N - (intOf i).toNat)
      case atStart => exact ⟨0, rfl, Nat.zero_le _, by rw [HZ.out], HS2.out⟩
      case round =>
        obtain ⟨k, rfl, hk, rfl, hS⟩ := hrel
        obtain ⟨b0, -⟩ := hS.box (i := 0) rfl
        have c00 := b0 0 _ rfl
        have c01 := b0 1 _ rfl
        have HS := Lib.hid hS
        clear b00 b01 b0 hS
        by_cases hlt : k < N
        · have hki : (k : Int) < (N : Int) := by omega
          have hg := fun W hW => HG.out W hW k hlt
          have hu := HU.out k
          have hw := HB.out k hk
          have hp := HP.out
          have HV := Lib.hid (fun W => with_any (z k : Nat) k W (by omega) (by omega) (by omega) (by omega))
          have he : withE (z k : Nat) k = z k ||| 2 ^ k := by unfold withE; rw [Int.toNat_natCast, Int.toNat_natCast]
          have he2 : withE (S : Int) (k : Int) = S ||| 2 ^ k := by unfold withE; rw [Int.toNat_natCast, Int.toNat_natCast]
          rw [he] at HV
          rw [he2, Int.toNat_natCast] at hg
          clear he he2 hw hp
          by_cases hq : xs.getD (S ||| 2 ^ k) 0 = xs.getD S 0
          · rw [if_pos hq] at hu
            rw [hq, Int.sub_self] at hg
            have HGK := Lib.hid hg
            have HUU := Lib.hid hu
            clear hg hu hq
            go_wp2_with (first
              | (go_at_call 63; refine St.use (w0 := w) (by exact HS.out) ?_; intro hS; refine (HGK.out _ ((h.out.below hS.base).mono hS.size)).mono ?_; rintro e w2 ⟨rfl, hb⟩; have HS3 := Lib.hid (hS.below hb); clear hS hb c00 c01)
              | (go_at_call 64; refine (HV.out _).mono ?_; rintro e' w' ⟨rfl, rfl⟩))
            go_roundw
            case rel => exact ⟨k + 1, by go_num, by omega, by rw [HUU.out], HS3.out⟩
            case measure => simp [intOf]; omega
          · rw [if_neg hq] at hu
            have hne : (xs.getD (S ||| 2 ^ k) 0 - xs.getD S 0 == 0) = false := beq_eq_false_iff_ne.2 (by omega)
            generalize xs.getD (S ||| 2 ^ k) 0 - xs.getD S 0 = d at hg hne
            have HGK := Lib.hid hg
            have HUU := Lib.hid hu
            clear hg hu hq
            go_wp2_with (first
              | (go_at_call 63; refine St.use (w0 := w) (by exact HS.out) ?_; intro hS; refine (HGK.out _ ((h.out.below hS.base).mono hS.size)).mono ?_; rintro e w2 ⟨rfl, hb⟩; have HS3 := Lib.hid (hS.below hb); clear hS hb c00 c01))
            go_roundw
            case rel => exact ⟨k + 1, by go_num, by omega, by rw [HUU.out], HS3.out⟩
            case measure => simp [intOf]; omega
        · obtain rfl : k = N := by omega
          have hkk : ¬ (k : Int) < (k : Int) := by omega
          go_wp2
          go_ret
          exact ⟨rfl, HS.out.base⟩

theorem closureOf_ge (n : Int) (xs : List Int) (s : Int) : -1 ≤ closureOf n xs s := by
  unfold closureOf
  split
  · omega
  · exact Int.le_refl _

set_option maxHeartbeats 1600000 in
theorem flatI_any (n : Int) (A : Option Addr) (xs : List Int) (cap : Nat) (s : Int) (w : World) (h : Hid (Ints w w.heap.size A xs)) :
    Calls Tryd.prog 10 #[.agg #[.int .i64 n, .slice A xs.length cap], .int .i64 s] w (RetV w (.bool (isFlat n xs s))) := by
  have HW := Lib.hid (St.start w)
  have HC := Lib.hid (fun W hW => cloI_any n A xs cap s W (Lib.hid hW))
  have HE := Lib.hid (show isFlat n xs s = (decide (0 ≤ s) && decide (closureOf n xs s = s)) from rfl)
  have hge := closureOf_ge n xs s
  generalize closureOf n xs s = c at *
  generalize isFlat n xs s = r at *
  go_enter Tryd.func10, Tryd.ntmps10
  by_cases hc : c = -1
  · subst hc
    obtain rfl : false = r := by
      rw [HE.out]
      symm
      simp only [Bool.and_eq_false_iff, decide_eq_false_iff_not]
      omega
    clear hge HE
    go_wp2_with (go_at_call 8; refine St.use (w0 := w) (by exact HW.out.alloc _ _) ?_; intro hS; refine (HC.out _ ((h.out.below hS.base).mono hS.size)).mono ?_; rintro e w2 ⟨rfl, hb⟩; have HS2 := Lib.hid (hS.below hb); clear hS hb)
    go_ret
    exact ⟨rfl, HS2.out.base⟩
  · have hne : (c == -1) = false := beq_eq_false_iff_ne.2 hc
    have hne2 : (c != -1) = true := by unfold bne; rw [hne]; rfl
    by_cases hs : c = s
    · subst hs
      obtain rfl : true = r := by
        rw [HE.out]
        symm
        simp only [Bool.and_eq_true, decide_eq_true_eq]
        exact ⟨by omega, trivial⟩
      clear hge HE hc
      go_wp2_with (go_at_call 8; refine St.use (w0 := w) (by exact HW.out.alloc _ _) ?_; intro hS; refine (HC.out _ ((h.out.below hS.base).mono hS.size)).mono ?_; rintro e w2 ⟨rfl, hb⟩; have HS2 := Lib.hid (hS.below hb); clear hS hb)
      go_ret
      exact ⟨rfl, HS2.out.base⟩
    · obtain rfl : false = r := by
        rw [HE.out]
        symm
        simp only [Bool.and_eq_false_iff, decide_eq_false_iff_not]
        omega
      have hns : (c == s) = false := beq_eq_false_iff_ne.2 hs
      clear hge HE hc hs
      go_wp2_with (go_at_call 8; refine St.use (w0 := w) (by exact HW.out.alloc _ _) ?_; intro hS; refine (HC.out _ ((h.out.below hS.base).mono hS.size)).mono ?_; rintro e w2 ⟨rfl, hb⟩; have HS2 := Lib.hid (hS.below hb); clear hS hb)
      go_ret
      exact ⟨rfl, HS2.out.base⟩
theorem isFlat_set {N : Nat} {xs : List Int} {j : Nat} (hp : isPoly (N : Int) xs = true) (hj : j < 2 ^ N) : isFlat N xs (j : Int) = decide (clos N xs j = j) := by
  have hs : isSet (N : Int) (j : Int) = true := by
    unfold isSet
    rw [Int.toNat_natCast]
    simp only [Bool.and_eq_true, decide_eq_true_eq]
    omega
  unfold isFlat closureOf
  rw [if_pos ⟨hp, hs⟩, Int.toNat_natCast, Int.toNat_natCast, decide_eq_true (by omega : (0 : Int) ≤ (j : Int)), Bool.true_and, decide_eq_decide]
  omega

theorem flats_len (n : Int) (xs : List Int) : (flatsOf n xs).1.length ≤ 32 := by
  cases hp : isPoly n xs
  · unfold flatsOf
    rw [hp, if_neg (by decide)]
    exact Nat.zero_le _
  · have hf : isFn n xs = true := by
      unfold isPoly isGround at hp
      simp only [Bool.and_eq_true] at hp
      exact hp.1.1
    unfold flatsOf
    rw [hp, if_pos rfl]
    exact Nat.le_trans (flatsTo_len _ _ _) (isFn_len hf).2

set_option maxRecDepth 100000 in
set_option maxHeartbeats 4000000 in
theorem flatsI_any (n : Int) (A : Option Addr) (xs : List Int) (cap : Nat) (w : World) (h : Hid (Ints w w.heap.size A xs)) :
    Calls Tryd.prog 13 #[.agg #[.int .i64 n, .slice A xs.length cap]] w (RetIB w (flatsOf n xs).1 (flatsOf n xs).2) := by
  have HW := Lib.hid (St.start w)
  have HQ := Lib.hid (fun W hW => polyI_any n A xs cap W (Lib.hid hW))
  obtain ⟨i0, hi, hz0, hz1, hz2⟩ := info_parts info_int
  unfold flatsOf
  cases hp : isPoly n xs
  · rw [if_neg (by decide)]
    rw [hp] at HQ
    clear hp
    go_enter Tryd.func13, Tryd.ntmps13
    go_wp2_with (go_at_call 61; refine St.use (w0 := w) (by exact HW.out.alloc _ _) ?_; intro hS; refine (HQ.out _ ((h.out.below hS.base).mono hS.size)).mono ?_; rintro e w2 ⟨rfl, hb⟩; have HS2 := Lib.hid (hS.below hb); clear hS hb)
    go_ret2
    exact ⟨none, 0, rfl, Own.nil _ _, HS2.out.base⟩
  · rw [if_pos rfl]
    have p := hp
    have hf : isFn n xs = true := by
      unfold isPoly isGround at hp
      simp only [Bool.and_eq_true] at hp
      exact hp.1.1
    rw [hp] at HQ
    obtain ⟨h0, h5, hl, -⟩ := isFn_yes hf
    have hm32 := (isFn_len hf).2
    obtain ⟨N, rfl⟩ := Int.eq_ofNat_of_zero_le h0
    rw [Int.toNat_natCast] at hl ⊢
    have HC := Lib.hid (fun W S hW => flatI_any N A xs cap S W (Lib.hid hW))
    have HF := Lib.hid (fun S (hS : S < xs.length) => isFlat_set (j := S) p (by rw [← hl]; exact hS))
    obtain ⟨m, hm⟩ : ∃ m, xs.length = m := ⟨_, rfl⟩
    rw [hm] at HC HQ HF hm32 ⊢
    clear hp p hf hl hm h5
    go_enter Tryd.func13, Tryd.ntmps13
    go_wp2_with (go_at_call 61; refine St.use (w0 := w) (by exact HW.out.alloc _ _) ?_; intro hS; refine (HQ.out _ ((h.out.below hS.base).mono hS.size)).mono ?_; rintro e w2 ⟨rfl, hb⟩; have hS2 := hS.below hb; obtain ⟨b0, -⟩ := hS2.box (i := 0) rfl; have b01 := b0 1 _ rfl; have HS2 := Lib.hid hS2; clear hS hb hS2 b0)
    go_loopw [4, 12] (fun v i wr => ∃ (j q : Nat) (L : List Int) (V : Option Addr) (c : Nat), i = .int .i64 j ∧ j ≤ m ∧ v = .slice V q c ∧ q ≤ j ∧ Hid (flatsTo N xs j = L) ∧ St w wr [il (.slice V q c) q L, bx w.heap.size 26 [.int .i64 N, .slice A m cap]]) (fun _ i _ => m - (intOf i).toNat)
    case atStart => exact ⟨0, 0, [], none, 0, rfl, Nat.zero_le _, rfl, Nat.le_refl _, Lib.hid rfl, HS2.out.nil⟩
    case round =>
      obtain ⟨j, q, L, V, c, rfl, hj, rfl, hq, hL, hS⟩ := hrel
      obtain ⟨b0, -⟩ := hS.box (i := 1) rfl
      have c00 := b0 0 _ rfl
      have c01 := b0 1 _ rfl
      have hql : L.length = q := OwnN.len (hS.own (i := 0) rfl)
      have HQL := Lib.hid hql
      have HR := Lib.hid hS
      clear hS b0 hql b01
      by_cases hlt : j < m
      · have hji : (j : Int) < (m : Int) := by omega
        have HCj := Lib.hid (fun W hW => HC.out W j hW)
        have hfj := HF.out j hlt
        have hstep : flatsTo N xs (j + 1) = if clos N xs j = j then L ++ [(j : Int)] else L := by
          show (if clos N xs j = j then flatsTo N xs j ++ [(j : Int)] else flatsTo N xs j) = _
          rw [hL.out]
        by_cases hcj : clos N xs j = j
        · rw [if_pos hcj] at hstep
          rw [hfj, decide_eq_true hcj] at HCj
          have HST := Lib.hid hstep
          clear hstep hcj hfj
          go_wp2_with (first
            | (go_at_call 10; refine St.use (w0 := w) (by exact HR.out) ?_; intro hS; refine (HCj.out _ ((h.out.below hS.base).mono hS.size)).mono ?_; rintro e w2 ⟨rfl, hb⟩; have HR := Lib.hid (hS.below hb); clear hS hb c00 c01)
            | (at_builtin; refine wpList_app1 rfl (.tmp 18) (.tmp 20) 24 rfl (j : Int) Tryd.underlying24 hi hz0 hz1 hz2 ((HR.out.alloc _ _).drop 0) (i := 0) rfl rfl rfl (by simp) (by omega) ?_; intro V' c' w2 hS2; have HR := Lib.hid hS2; clear hS2))
          go_roundw
          case rel => exact ⟨j + 1, q + 1, _, V', c', by go_num, by omega, rfl, by omega, Lib.hid HST.out, HR.out⟩
          case measure => simp [intOf]; omega
        · rw [if_neg hcj] at hstep
          rw [hfj, decide_eq_false hcj] at HCj
          have HST := Lib.hid hstep
          clear hstep hcj hfj
          go_wp2_with (first
            | (go_at_call 10; refine St.use (w0 := w) (by exact HR.out) ?_; intro hS; refine (HCj.out _ ((h.out.below hS.base).mono hS.size)).mono ?_; rintro e w2 ⟨rfl, hb⟩; have HR := Lib.hid (hS.below hb); clear hS hb c00 c01))
          go_roundw
          case rel => exact ⟨j + 1, q, _, V, c, by go_num, by omega, rfl, by omega, Lib.hid HST.out, HR.out⟩
          case measure => simp [intOf]; omega
      · obtain rfl : j = m := by omega
        have hjn : ¬ (j : Int) < (j : Int) := by omega
        go_wp2
        go_ret2
        rw [hL.out]
        have ho := HR.out.ownI (i := 0) rfl
        rw [← HQL.out] at ho
        exact ⟨V, c, by rw [HQL.out]; rfl, ho, HR.out.base⟩

end Go.Proofs.YtfpoiiennlhphaaDoor.C
