/-
  The contracts of spec.ClosureOf, IsFlat, FlatsOf, OppositeFunction and of what they call.
-/
import Derived.Test.YtfpoiiennlhphaaDoorAllM
import Derived.Test.YtfpoiiennlhphaaDoorSubS
import Derived.Test.YtfpoiiennlhphaaDoorFunS
namespace Go.Proofs.YtfpoiiennlhphaaDoor.C
open Go.RowKit K M
set_option linter.unusedVariables false
set_option linter.unusedSimpArgs false


section

variable (n : Int) (A : Option Addr) (xs : List Int) (cap : Nat) (s : Int) (w : World) (h : Hid (Ints w w.heap.size A xs))
include h
set_option maxRecDepth 100000 in
set_option maxHeartbeats 1600000 in
theorem inS_any : Calls Tryd.prog 65 #[.agg #[.int .i64 n, .slice A xs.length cap], .int .i64 s] w (RetV w (.bool (isFn n xs && isSet n s))) := by
  have HW := Lib.hid (St.start w)
  cases hf : isFn n xs
  · have HF := Lib.hid hf
    clear hf
    go_enter Tryd.func65, Tryd.ntmps65
    go_wp2_with (go_at_call 81; refine St.use (w0 := w) (by exact HW.out.alloc _ _) ?_; intro hS; refine (isFnS_no n A xs cap _ (Lib.hid ((h.out.below hS.base).mono hS.size)) HF.out).mono ?_; rintro e w2 ⟨rfl, hb⟩; have HS2 := Lib.hid (hS.below hb); clear hS hb)
    go_ret
    exact ⟨rfl, HS2.out.base⟩
  · have HF := Lib.hid hf
    obtain ⟨h0, h5, hl, -⟩ := isFn_yes hf
    have HL := Lib.hid hl
    cases hs : isSet n s
    · have HN := Lib.hid (isSet_no hs)
      clear hf hs hl
      go_enter Tryd.func65, Tryd.ntmps65
      go_wp2_with (first
        | (go_at_call 81; refine St.use (w0 := w) (by exact HW.out.alloc _ _) ?_; intro hS; refine (isFnS_yes n A xs cap _ (Lib.hid ((h.out.below hS.base).mono hS.size)) HF.out).mono ?_; rintro e w2 ⟨rfl, hb⟩; have hS2 := hS.below hb; obtain ⟨b0, -⟩ := hS2.box (i := 0) rfl; have b00 := b0 0 _ rfl; have HS2 := Lib.hid hS2; clear hS hb b0 hS2)
        | (go_at_call 77; refine (full_any n xs.length _ h0 (by omega) HL.out).mono ?_; rintro e w' ⟨rfl, rfl⟩)
        | (go_at_call 92; refine (in_no s 0 _ _ (by have := HN.out; have := HL.out; omega)).mono ?_; rintro e w' ⟨rfl, rfl⟩))
      go_ret
      exact ⟨rfl, HS2.out.base⟩
    · have HN := Lib.hid (isSet_yes hs)
      clear hf hs hl
      go_enter Tryd.func65, Tryd.ntmps65
      go_wp2_with (first
        | (go_at_call 81; refine St.use (w0 := w) (by exact HW.out.alloc _ _) ?_; intro hS; refine (isFnS_yes n A xs cap _ (Lib.hid ((h.out.below hS.base).mono hS.size)) HF.out).mono ?_; rintro e w2 ⟨rfl, hb⟩; have hS2 := hS.below hb; obtain ⟨b0, -⟩ := hS2.box (i := 0) rfl; have b00 := b0 0 _ rfl; have HS2 := Lib.hid hS2; clear hS hb b0 hS2)
        | (go_at_call 77; refine (full_any n xs.length _ h0 (by omega) HL.out).mono ?_; rintro e w' ⟨rfl, rfl⟩)
        | (go_at_call 92; refine (in_yes s 0 _ _ HN.out.1 (by have := HN.out.2; have := HL.out; omega)).mono ?_; rintro e w' ⟨rfl, rfl⟩))
      go_ret
      exact ⟨rfl, HS2.out.base⟩

end


set_option maxRecDepth 100000 in
set_option maxHeartbeats 4000000 in
theorem closS_any (N : Nat) (A : Option Addr) (xs : List Int) (cap s : Nat) (w : World) (h : Hid (Ints w w.heap.size A xs)) (p : Pol N xs) (hs : s < 2 ^ N) :
    Calls Tryd.prog 66 #[.agg #[.int .i64 N, .slice A xs.length cap], .int .i64 s] w (RetV w (.int .i64 (clos N xs s))) := by
  have HW := Lib.hid (St.start w)
  obtain ⟨-, h5, -, -⟩ := isFn_yes p.fn
  have h5' : N ≤ 5 := by omega
  have HP := Lib.hid p
  obtain ⟨m, hxm⟩ : ∃ m, xs.length = m := ⟨_, rfl⟩
  have hmN : m = 2 ^ N := by rw [← hxm]; exact p.len
  have hm32 : m ≤ 32 := by rw [hmN]; exact Nat.le_trans (Nat.pow_le_pow_right (by decide) h5') (by decide)
  rw [← hmN] at hs
  have HX := Lib.hid hxm
  have HMN := Lib.hid hmN
  have HC := Lib.hid (show clos N xs s < m from by rw [hmN]; exact addZ_lt xs (by omega) N (Nat.le_refl _))
  rw [hxm]
  clear p h5 hxm hmN
  go_enter Tryd.func66, Tryd.ntmps66
  go_wp2
  go_loopw [1, 5] (fun x b wr => ∃ (u : Nat) (c : Bool), x = .int .i64 u ∧ b = .bool c ∧ u < m ∧ Hid ((u = s ∨ u = clos N xs s) ∧ (c = false → u = clos N xs s)) ∧ St w wr [bx w.heap.size 26 [.int .i64 N, .slice A m cap]]) (fun x b _ => match b with | .bool true => (if intOf x = (s : Int) then 2 else 1) | _ => 0)
  case atStart => exact ⟨s, true, rfl, rfl, hs, Lib.hid ⟨.inl rfl, fun e => by cases e⟩, HW.out.alloc _ _⟩
  case round =>
    obtain ⟨u, c, rfl, rfl, hu, hrest, hS⟩ := hrel
    have HS := Lib.hid hS
    clear hS
    cases c
    · obtain rfl := hrest.out.2 rfl
      go_wp2
      go_ret
      exact ⟨rfl, HS.out.base⟩
    · go_wp2
      obtain ⟨wo, rfl⟩ : ∃ wo : World, wo = wr := ⟨_, rfl⟩
      go_loopw [1, 5, 6] (fun x b e wr => ∃ (i : Nat), e = .int .i64 i ∧ i ≤ N ∧ x = .int .i64 (addZ xs u i) ∧ b = .bool (decide (addZ xs u i ≠ u)) ∧ St w wr [bx w.heap.size 26 [.int .i64 N, .slice A m cap]]) (fun _ _ e _ => N - (intOf e).toNat)
      case atStart => exact ⟨0, rfl, Nat.zero_le _, rfl, by simp [addZ], HS.out⟩
      case round =>
        obtain ⟨i, rfl, hi, rfl, rfl, hS⟩ := hrel
        obtain ⟨b0, -⟩ := hS.box (i := 0) rfl
        have b00 := b0 0 _ rfl
        have b01 := b0 1 _ rfl
        have HS2 := Lib.hid hS
        clear b0
        by_cases hlt : i < N
        · have hT : addZ xs u i < m := by rw [HMN.out]; exact addZ_lt xs (by rw [← HMN.out]; exact hu) i (by omega)
          have hT2 : addZ xs u i ||| 2 ^ i < m := by rw [HMN.out] at hT ⊢; exact or_lt hT hlt
          have hadd := fun h => HP.out.addZ_add (s := u) (e := i) (by rw [← HMN.out]; exact hu) hlt h
          have hkeep := fun h => HP.out.addZ_keep (s := u) (e := i) (by rw [← HMN.out]; exact hu) hlt h
          have hsup : (addZ xs u i).testBit i = false → addZ xs u i ||| 2 ^ i ≠ u := fun ht e => by
            have h1 := addZ_bit xs u i i
            rw [ht] at h1
            have h2 : u.testBit i = true := by rw [← e, Nat.testBit_or, Nat.testBit_two_pow]; simp
            rw [h2] at h1
            cases h1
          obtain ⟨b, off, rfl, hbl, hc1⟩ := (h.out.below hS.base).at_ (k := addZ xs u i) (by rw [HX.out]; exact hT)
          obtain ⟨b', off', e', -, hc2⟩ := (h.out.below hS.base).at_ (k := addZ xs u i ||| 2 ^ i) (by rw [HX.out]; exact hT2)
          obtain ⟨rfl, rfl⟩ : b = b' ∧ off = off' := by cases e'; exact ⟨rfl, rfl⟩
          have e1 := bit_val (addZ xs u i) i (by omega)
          have o1 := or_nat (addZ xs u i) i (by omega) (by omega)
          obtain ⟨T, hTT⟩ : ∃ T, addZ xs u i = T := ⟨_, rfl⟩
          obtain ⟨T2, hTT2⟩ : ∃ T2, T ||| 2 ^ i = T2 := ⟨_, rfl⟩
          rw [hTT] at hT hT2 hadd hkeep hsup hc1 hc2 e1 o1 ⊢
          rw [hTT2] at hT2 hadd hsup hc2 o1
          rw [hTT2] at hkeep
          obtain ⟨v1, hv1⟩ : ∃ v, xs.getD T 0 = v := ⟨_, rfl⟩
          obtain ⟨v2, hv2⟩ : ∃ v, xs.getD T2 0 = v := ⟨_, rfl⟩
          rw [hv1] at hc1 hadd hkeep
          rw [hv2] at hc2 hadd hkeep
          have hT0 : (0 : Int) ≤ (T : Int) := by omega
          have hTm : (T : Int) < (m : Int) := by omega
          have hU0 : (0 : Int) ≤ (T2 : Int) := by omega
          have hUm : (T2 : Int) < (m : Int) := by omega
          have hi0 : (0 : Int) ≤ (i : Int) := by omega
          have hiN : (i : Int) < (N : Int) := by omega
          clear hS e' hTT hTT2 hv1 hv2
          by_cases t : T.testBit i = true
          · have hk := hkeep (.inl t)
            rw [if_pos t] at e1
            have HK := Lib.hid hk
            clear hadd hkeep hsup hk
            go_wp2
            go_quiet (fail)
            go_wp2
            go_roundw
            case rel => exact ⟨i + 1, by go_num, by omega, by rw [HK.out], by rw [HK.out], by first | exact HS2.out | exact HS2.out.drew | exact HS2.out.drewN _⟩
            case measure => simp [intOf]; omega
          · rw [if_neg t] at e1
            by_cases q : v2 = v1
            · have hk := hadd q
              have hne := hsup (by simpa using t)
              have hq : (v2 == v1) = true := beq_iff_eq.2 q
              have HK := Lib.hid hk
              have HNE := Lib.hid (decide_eq_true hne)
              clear hadd hkeep hsup hk hne
              go_wp2
              go_quiet (fail)
              go_wp2
              go_roundw
              case rel => exact ⟨i + 1, by go_num, by omega, by rw [HK.out], by rw [HK.out, HNE.out], by first | exact HS2.out | exact HS2.out.drew | exact HS2.out.drewN _⟩
              case measure => simp [intOf]; omega
            · have hk := hkeep (.inr q)
              have hq : (v2 == v1) = false := beq_eq_false_iff_ne.2 q
              have HK := Lib.hid hk
              clear hadd hkeep hsup hk
              go_wp2
              go_quiet (fail)
              go_wp2
              go_roundw
              case rel => exact ⟨i + 1, by go_num, by omega, by rw [HK.out], by rw [HK.out], by first | exact HS2.out | exact HS2.out.drew | exact HS2.out.drewN _⟩
              case measure => simp [intOf]; omega
        · obtain rfl : i = N := by omega
          have hNN : ¬ (i : Int) < (i : Int) := by omega
          have hfin : addZ xs u i = clos i xs s := by
            rcases hrest.out.1 with rfl | rfl
            · rfl
            · exact HP.out.clos_fix (by rw [← HMN.out]; exact hs) i (Nat.le_refl _)
          have hlt : clos i xs s < m := HC.out
          rw [hfin]
          have hcase : clos i xs s ≠ u → u = s := fun hne => by
            rcases hrest.out.1 with rfl | rfl
            · rfl
            · exact absurd rfl hne
          obtain ⟨c, hcc⟩ : ∃ c, clos i xs s = c := ⟨_, rfl⟩
          rw [hcc] at hlt hcase ⊢
          have HCC := Lib.hid hcc
          clear hS hfin hcc
          go_wp2
          go_roundw
          case rel => exact ⟨c, decide (c ≠ u), rfl, rfl, hlt, Lib.hid ⟨.inr HCC.out.symm, fun _ => HCC.out.symm⟩, HS2.out⟩
          case measure =>
            by_cases hcu : c = u
            · subst hcu
              by_cases hh : (c : Int) = (s : Int) <;> simp [intOf, hh]
            · have hus := hcase hcu
              subst hus
              have hh : ¬ (c : Int) = (u : Int) := by omega
              simp [intOf, hcu, hh]

set_option maxRecDepth 100000 in
set_option maxHeartbeats 1600000 in
theorem cloS_any (n : Int) (A : Option Addr) (xs : List Int) (cap : Nat) (s : Int) (w : World) (h : Hid (Ints w w.heap.size A xs)) :
    Calls Tryd.prog 9 #[.agg #[.int .i64 n, .slice A xs.length cap], .int .i64 s] w (RetV w (.int .i64 (closureOf n xs s))) := by
  have HW := Lib.hid (St.start w)
  have HI := Lib.hid (fun W hW => inS_any n A xs cap s W (Lib.hid hW))
  have HQ := Lib.hid (fun W hW => polyS_any n A xs cap W (Lib.hid hW))
  unfold closureOf
  cases hi : (isFn n xs && isSet n s)
  · have hno : ¬ (isPoly n xs = true ∧ isSet n s = true) := fun hh => by
      have hf : isFn n xs = true := by
        have := hh.1
        unfold isPoly isGround at this
        simp only [Bool.and_eq_true] at this
        exact this.1.1
      rw [hf, hh.2] at hi
      cases hi
    rw [if_neg hno]
    rw [hi] at HI
    clear hno hi
    go_enter Tryd.func9, Tryd.ntmps9
    go_wp2_with (go_at_call 65; refine St.use (w0 := w) (by exact HW.out.alloc _ _) ?_; intro hS; refine (HI.out _ ((h.out.below hS.base).mono hS.size)).mono ?_; rintro e w2 ⟨rfl, hb⟩; have HS2 := Lib.hid (hS.below hb); clear hS hb)
    go_ret
    exact ⟨rfl, HS2.out.base⟩
  · obtain ⟨hf, hs⟩ := Bool.and_eq_true_iff.1 hi
    rw [hi] at HI
    clear hi
    cases hp : isPoly n xs
    · rw [if_neg (by simp)]
      rw [hp] at HQ
      clear hp hf hs
      go_enter Tryd.func9, Tryd.ntmps9
      go_wp2_with (first
        | (go_at_call 65; refine St.use (w0 := w) (by exact HW.out.alloc _ _) ?_; intro hS; refine (HI.out _ ((h.out.below hS.base).mono hS.size)).mono ?_; rintro e w2 ⟨rfl, hb⟩; have hS2 := hS.below hb; obtain ⟨b0, -⟩ := hS2.box (i := 0) rfl; have b00 := b0 0 _ rfl; have b01 := b0 1 _ rfl; have HS2 := Lib.hid hS2; clear hS hb hS2 b0)
        | (go_at_call 51; refine St.use (w0 := w) (by exact HS2.out) ?_; intro hS; refine (HQ.out _ ((h.out.below hS.base).mono hS.size)).mono ?_; rintro e w3 ⟨rfl, hb⟩; have HS3 := Lib.hid (hS.below hb); clear hS hb))
      go_ret
      exact ⟨rfl, HS3.out.base⟩
    · rw [if_pos ⟨rfl, hs⟩]
      rw [hp] at HQ
      obtain ⟨h0, -, -, -⟩ := isFn_yes hf
      obtain ⟨N, rfl⟩ := Int.eq_ofNat_of_zero_le h0
      obtain ⟨s0, s1⟩ := isSet_yes hs
      obtain ⟨S, rfl⟩ := Int.eq_ofNat_of_zero_le s0
      rw [Int.toNat_natCast] at s1
      have HC := Lib.hid (fun W hW => closS_any N A xs cap S W (Lib.hid hW) (pol_of hp) (by omega))
      rw [Int.toNat_natCast, Int.toNat_natCast]
      generalize clos N xs S = c at HC ⊢
      clear hp hf hs s1
      go_enter Tryd.func9, Tryd.ntmps9
      go_wp2_with (first
        | (go_at_call 65; refine St.use (w0 := w) (by exact HW.out.alloc _ _) ?_; intro hS; refine (HI.out _ ((h.out.below hS.base).mono hS.size)).mono ?_; rintro e w2 ⟨rfl, hb⟩; have hS2 := hS.below hb; obtain ⟨b0, -⟩ := hS2.box (i := 0) rfl; have b00 := b0 0 _ rfl; have b01 := b0 1 _ rfl; have HS2 := Lib.hid hS2; clear hS hb hS2 b0)
        | (go_at_call 51; refine St.use (w0 := w) (by exact HS2.out) ?_; intro hS; refine (HQ.out _ ((h.out.below hS.base).mono hS.size)).mono ?_; rintro e w3 ⟨rfl, hb⟩; have hS3 := hS.below hb; obtain ⟨b0, -⟩ := hS3.box (i := 0) rfl; have b00' := b0 0 _ rfl; have b01' := b0 1 _ rfl; have HS3 := Lib.hid hS3; clear hS hb hS3 b0 b00 b01)
        | (go_at_call 66; refine St.use (w0 := w) (by exact HS3.out) ?_; intro hS; refine (HC.out _ ((h.out.below hS.base).mono hS.size)).mono ?_; rintro e w4 ⟨rfl, hb⟩; have HS4 := Lib.hid (hS.below hb); clear hS hb))
      go_ret
      exact ⟨rfl, HS4.out.base⟩

set_option maxRecDepth 100000 in
set_option maxHeartbeats 1600000 in
theorem flatS_any (n : Int) (A : Option Addr) (xs : List Int) (cap : Nat) (s : Int) (w : World) (h : Hid (Ints w w.heap.size A xs)) :
    Calls Tryd.prog 33 #[.agg #[.int .i64 n, .slice A xs.length cap], .int .i64 s] w (RetV w (.bool (isFlat n xs s))) := by
  have HW := Lib.hid (St.start w)
  have HC := Lib.hid (fun W hW => cloS_any n A xs cap s W (Lib.hid hW))
  unfold isFlat
  generalize closureOf n xs s = c at HC ⊢
  have arm := True.intro
  by_cases h1 : c = s
  · subst h1
    by_cases h2 : 0 ≤ c
    · rw [decide_eq_true h2, decide_eq_true rfl]
      go_enter Tryd.func33, Tryd.ntmps33
      go_wp2_with (go_at_call 9; refine St.use (w0 := w) (by exact HW.out.alloc _ _) ?_; intro hS; refine (HC.out _ ((h.out.below hS.base).mono hS.size)).mono ?_; rintro e w2 ⟨rfl, hb⟩; have HS2 := Lib.hid (hS.below hb); clear hS hb)
      go_ret
      exact ⟨rfl, HS2.out.base⟩
    · have h2' : decide (0 ≤ c) = false := decide_eq_false h2
      rw [decide_eq_false h2, Bool.false_and]
      go_enter Tryd.func33, Tryd.ntmps33
      go_wp2_with (go_at_call 9; refine St.use (w0 := w) (by exact HW.out.alloc _ _) ?_; intro hS; refine (HC.out _ ((h.out.below hS.base).mono hS.size)).mono ?_; rintro e w2 ⟨rfl, hb⟩; have HS2 := Lib.hid (hS.below hb); clear hS hb)
      go_ret
      exact ⟨rfl, HS2.out.base⟩
  · have h3 : (c == s) = false := beq_eq_false_iff_ne.2 h1
    rw [decide_eq_false h1, Bool.and_false]
    clear h1
    go_enter Tryd.func33, Tryd.ntmps33
    go_wp2_with (go_at_call 9; refine St.use (w0 := w) (by exact HW.out.alloc _ _) ?_; intro hS; refine (HC.out _ ((h.out.below hS.base).mono hS.size)).mono ?_; rintro e w2 ⟨rfl, hb⟩; have HS2 := Lib.hid (hS.below hb); clear hS hb)
    go_ret
    exact ⟨rfl, HS2.out.base⟩

end Go.Proofs.YtfpoiiennlhphaaDoor.C
