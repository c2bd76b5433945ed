/-
  The contract of impl.ViolationOf.
-/
import Derived.Test.YtlbefommcahkeaaViolI
import Derived.WalkMore
namespace Go.Proofs.Ytlbefommcahkeaa.C
open Go.RowKit K M
set_option linter.unusedVariables false
set_option linter.unusedSimpArgs false

set_option maxRecDepth 100000 in
set_option maxHeartbeats 1600000 in
theorem violI_bad (n : Int) (A : Option Addr) (xs : List Int) (cap : Nat) (w : World) (h : Hid (Ints w w.heap.size A xs)) (hf : isFn n xs = false) :
    Calls Try.prog 39 #[.agg #[.int .i64 n, .slice A xs.length cap]] w (RetIB w [] false) := by
  have HW := Lib.hid (St.start w)
  have HF := Lib.hid hf
  clear hf
  go_enter Try.func39, Try.ntmps39
  go_wp2
  go_step3
  go_wp2_with fail
  refine St.use (w0 := w) (by exact HW.out.alloc _ _) ?_
  intro hS
  refine (isFnI_no n A xs cap _ (Lib.hid ((h.out.below hS.base).mono hS.size)) HF.out).mono ?_
  rintro e w1 ⟨rfl, hb⟩
  have HS1 := Lib.hid (hS.below hb)
  clear hS hb
  go_wp2
  rw [Exit.noGoto_ret]
  go_ret2
  exact ⟨_, _, rfl, HS1.out.nil.ownI (i := 0) rfl, HS1.out.nil.base⟩

set_option maxRecDepth 100000 in
set_option maxHeartbeats 8000000 in
theorem violI_good (N : Nat) (A : Option Addr) (xs : List Int) (cap : Nat) (w : World) (h : Hid (Ints w w.heap.size A xs)) (hf : isFn (N : Int) xs = true) :
    Calls Try.prog 39 #[.agg #[.int .i64 N, .slice A xs.length cap]] w (RetIB w (viol (N : Int) xs).1 (viol (N : Int) xs).2) := by
  have HW := Lib.hid (St.start w)
  have HF := Lib.hid hf
  have hn5 : N ≤ 5 := by have := (isFn_yes hf).2.1; omega
  have hl2 := (isFn_len hf).2
  obtain ⟨m, hxm⟩ : ∃ m, xs.length = m := ⟨_, rfl⟩
  have h' := Lib.hid (show ∀ W, Ints W W.heap.size A xs → Calls Try.prog 38 #[.agg #[.int .i64 N, .slice A m cap]] W (RetV W (.bool true)) from fun W hW => by rw [← hxm]; exact isFnI_yes N A xs cap W (Lib.hid hW) hf)
  have hb' := Lib.hid (show ∀ W (s i k : Nat), Ints W W.heap.size A xs → s < m → i < N → k < N → Calls Try.prog 48 #[.agg #[.int .i64 N, .slice A m cap], .int .i64 s, .int .i64 i, .int .i64 k] W (RetV W (.bool (bad xs s i k))) from fun W s i k hW hs hi hk => by rw [← hxm]; exact vioI_any A xs cap s i k N W (Lib.hid hW) hf (by omega) hi hk)
  rw [hxm] at hl2 ⊢
  have HX := Lib.hid hxm
  clear hf hxm
  go_enter Try.func39, Try.ntmps39
  go_wp2
  go_step3
  go_wp2_with fail
  refine St.use (w0 := w) (by exact HW.out.alloc _ _) ?_
  intro hS
  refine (h'.out _ ((h.out.below hS.base).mono hS.size)).mono ?_
  rintro e w1 ⟨rfl, hb⟩
  have hS1 := hS.below hb
  obtain ⟨b0, -⟩ := hS1.box (i := 0) rfl
  have b00 := b0 0 _ rfl
  have b01 := b0 1 _ rfl
  have HS1 := Lib.hid hS1
  clear hS hb b0 hS1
  go_wp2
  go_step3
  go_wp2
  clear b00 b01
  go_loopw [4, 14] (fun v i wr => v = .slice none 0 0 ∧ ∃ s : Nat, i = .int .i64 s ∧ s ≤ m ∧ Hid (∀ s', s' < s → violI N xs s' = none) ∧ St w wr [bx w.heap.size 28 [.int .i64 N, .slice A m cap]]) (fun _ i _ => m - (intOf i).toNat)
  case atStart => exact ⟨rfl, 0, rfl, Nat.zero_le _, Lib.hid (fun s' hs' => absurd hs' (by omega)), HS1.out⟩
  case round =>
    obtain ⟨rfl, s, rfl, hsm, hno, hS⟩ := hrel
    obtain ⟨b0, -⟩ := hS.box (i := 0) rfl
    have b00 := b0 0 _ rfl
    have b01 := b0 1 _ rfl
    have HS := Lib.hid hS
    clear b0 hS
    by_cases hlt : s < m
    · have hsi : (s : Int) < (m : Int) := by omega
      go_wp2
      clear b00 b01
      obtain ⟨wo, rfl⟩ : ∃ wo : World, wo = wr := ⟨_, rfl⟩
      go_loopw [4, 19] (fun v x wr => v = .slice none 0 0 ∧ ∃ i : Nat, x = .int .i64 i ∧ i ≤ N ∧ Hid (∀ i', i' < i → violK N xs s i' = none) ∧ St w wr [bx w.heap.size 28 [.int .i64 N, .slice A m cap]]) (fun _ x _ => N - (intOf x).toNat)
      case atStart => exact ⟨rfl, 0, rfl, Nat.zero_le _, Lib.hid (fun i' hi' => absurd hi' (by omega)), HS.out⟩
      case round =>
        obtain ⟨rfl, i, rfl, hiN, hno2, hS⟩ := hrel
        obtain ⟨b0, -⟩ := hS.box (i := 0) rfl
        have b00 := b0 0 _ rfl
        have b01 := b0 1 _ rfl
        have HS2 := Lib.hid hS
        clear b0 hS
        by_cases hlt2 : i < N
        · have hii : (i : Int) < (N : Int) := by omega
          go_wp2
          clear b00 b01
          obtain ⟨wo2, rfl⟩ : ∃ wo : World, wo = wr := ⟨_, rfl⟩
          go_loopw [4, 7] (fun v x wr => v = .slice none 0 0 ∧ ∃ k : Nat, x = .int .i64 k ∧ k ≤ N ∧ i < k ∧ Hid (∀ k', i < k' → k' < k → bad xs s i k' = false) ∧ St w wr [bx w.heap.size 28 [.int .i64 N, .slice A m cap]]) (fun _ x _ => N - (intOf x).toNat)
          case atStart => exact ⟨rfl, i + 1, by go_num, by omega, by omega, Lib.hid (fun k' h1 h2 => absurd h2 (by omega)), HS2.out⟩
          case round =>
            obtain ⟨rfl, k, rfl, hkN, hik, hno3, hS⟩ := hrel
            obtain ⟨b0, -⟩ := hS.box (i := 0) rfl
            have b00 := b0 0 _ rfl
            have b01 := b0 1 _ rfl
            have HS3 := Lib.hid hS
            clear b0 hS
            by_cases hlt3 : k < N
            · have hki : (k : Int) < (N : Int) := by omega
              have nextR := Lib.hid (show bad xs s i k = false → ∀ k', i < k' → k' < k + 1 → bad xs s i k' = false from fun hb k' h1 h2 => by
                by_cases e : k' = k
                · subst e; exact hb
                · exact hno3.out k' h1 (by omega))
              have hc := fun W (hW : Ints W W.heap.size A xs) => hb'.out W s i k hW hlt hlt2 hlt3
              cases hbk : bad xs s i k
              · have HB := Lib.hid (nextR.out hbk)
                rw [hbk] at hc
                have HC := Lib.hid hc
                clear nextR hbk hc
                go_wp2_with (go_at_call 48; refine St.use (w0 := w) (by exact HS3.out) ?_; intro hS; refine (HC.out _ ((h.out.below hS.base).mono hS.size)).mono ?_; rintro e w1 ⟨rfl, hb⟩; have HS4 := Lib.hid (hS.below hb); clear hS hb)
                go_roundw
                case rel => exact ⟨rfl, k + 1, by go_num, by omega, by omega, HB, HS4.out⟩
                case measure => simp [intOf]; omega
              · have HV := Lib.hid (viol_hit (HF.out) (s := s) (i := i) (k := k) (by rw [HX.out]; omega) hlt2 hlt3 hik hno.out hno2.out hno3.out hbk)
                rw [hbk] at hc
                have HC := Lib.hid hc
                clear nextR hbk hc
                go_wp2_with (go_at_call 48; refine St.use (w0 := w) (by exact HS3.out) ?_; intro hS; refine (HC.out _ ((h.out.below hS.base).mono hS.size)).mono ?_; rintro e w1 ⟨rfl, hb⟩; have HS4 := Lib.hid (hS.below hb); clear hS hb)
                rw [Exit.noGoto_ret]
                go_ret2
                rw [HV.out]
                have hE := HS4.out.lit3 (s : Int) (i : Int) (k : Int)
                exact ⟨_, _, rfl, hE.ownI (i := 0) rfl, hE.base⟩
            · obtain rfl : k = N := by omega
              have hkn : ¬ (k : Int) < (k : Int) := by omega
              go_wp2
              go_roundw
              case rel => exact ⟨rfl, i + 1, by go_num, by omega, Lib.hid (fun i' hi' => by
                by_cases e : i' = i
                · subst e; exact violK_none fun k' h1 h2 => hno3.out k' h1 h2
                · exact hno2.out i' (by omega)), HS3.out⟩
              case measure => simp [intOf]; omega
        · obtain rfl : i = N := by omega
          have hin : ¬ (i : Int) < (i : Int) := by omega
          go_wp2
          go_roundw
          case rel => exact ⟨rfl, s + 1, by go_num, by omega, Lib.hid (fun s' hs' => by
            by_cases e : s' = s
            · subst e; exact violI_none hno2.out
            · exact hno.out s' (by omega)), HS2.out⟩
          case measure => simp [intOf]; omega
    · obtain rfl : s = m := by omega
      have hsn : ¬ (s : Int) < (s : Int) := by omega
      have hv := viol_none (n := N) (xs := xs) fun s' hs' => hno.out s' (by rw [HX.out] at hs'; exact hs')
      have HV := Lib.hid hv
      clear hv
      go_wp2
      go_ret2
      rw [HV.out]
      exact ⟨_, _, rfl, HS.out.nil.ownI (i := 0) rfl, HS.out.nil.base⟩

theorem violI_any (n : Int) (A : Option Addr) (xs : List Int) (cap : Nat) (w : World) (h : Hid (Ints w w.heap.size A xs)) :
    Calls Try.prog 39 #[.agg #[.int .i64 n, .slice A xs.length cap]] w (RetIB w (viol n xs).1 (viol n xs).2) := by
  cases hf : isFn n xs
  · rw [viol_no hf]
    exact violI_bad n A xs cap w h hf
  · obtain ⟨N, rfl⟩ := Int.eq_ofNat_of_zero_le (isFn_yes hf).1
    exact violI_good N A xs cap w h hf


end Go.Proofs.Ytlbefommcahkeaa.C
