/-
  The contracts of spec.IncreasingHull and spec.TruncateFunction.
-/
import Derived.Test.YtfpoiiennlhphaaDoorCvS
namespace Go.Proofs.YtfpoiiennlhphaaDoor.C
open Go.RowKit K M
set_option linter.unusedVariables false
set_option linter.unusedSimpArgs false


section

variable (n : Int) (A : Option Addr) (xs : List Int) (cap : Nat) (w : World) (h : Hid (Ints w w.heap.size A xs))
include h
set_option maxRecDepth 100000 in
set_option maxHeartbeats 1600000 in
theorem hullS_no (hf : isFn n xs = false) : Calls Tryd.prog 43 #[.agg #[.int .i64 n, .slice A xs.length cap]] w (RetFB w 0 [] false) := by
  have HW := Lib.hid (St.start w)
  have HF := Lib.hid hf
  clear hf
  go_enter Tryd.func43, Tryd.ntmps43
  go_wp2_with (go_at_call 81; refine St.use (w0 := w) (by exact (HW.out.alloc _ _).alloc _ _) ?_; intro hS; (try simp only [World.size_alloc] at hS); refine (isFnS_no n A xs cap _ (Lib.hid ((h.out.below hS.base).mono hS.size)) HF.out).mono ?_; rintro e w2 ⟨rfl, hb⟩; have hS2 := hS.below hb; obtain ⟨u0, uf⟩ := hS2.box (i := 0) rfl; have u00 := u0 0 _ rfl; have u01 := u0 1 _ rfl; have uf0 := uf 0; have uf1 := uf 1; have ul := (hS2.lt (i := 0) rfl).2; have HS2 := Lib.hid hS2; clear hS hb hS2 u0 uf)
  have hZ := (HS2.out.store (i := 0) rfl 0 (.int .i64 0)).store (i := 0) rfl 1 (.slice none 0 0)
  exact bodyPost_ret (v := .tuple #[.agg #[.int .i64 0, .slice none 0 0], .bool false]) (by simp [results, Tryd.results43, go_sem, u00, u01, uf0, uf1, ul]) rfl ⟨none, 0, rfl, Own.nil _ _, by first | exact hZ.base | exact HS2.out.base⟩

set_option maxRecDepth 100000 in
set_option maxHeartbeats 4000000 in
theorem hullS_yes (hf : isFn n xs = true) : Calls Tryd.prog 43 #[.agg #[.int .i64 n, .slice A xs.length cap]] w (RetFB w n (tab xs.length (hullV xs)) true) := by
  have HW := Lib.hid (St.start w)
  have HF := Lib.hid hf
  have hm32 := (isFn_len hf).2
  have HG := Lib.hid (fun W hW => isFnS_yes n A xs cap W (Lib.hid hW) HF.out)
  have HO := Lib.hid (fun s => show hullV xs s = hullTo xs s (xs.length - s) from rfl)
  generalize hullV xs = f at HO ⊢
  obtain ⟨m, hm⟩ : ∃ m, xs.length = m := ⟨_, rfl⟩
  rw [hm] at HG HO hm32 ⊢
  have HX := Lib.hid hm
  clear hf hm
  obtain ⟨i0, hi, hz0, hz1, hz2⟩ := info_parts info_int
  go_enter Tryd.func43, Tryd.ntmps43
  go_wp2_with (go_at_call 81; refine St.use (w0 := w) (by exact (HW.out.alloc _ _).alloc _ _) ?_; intro hS; (try simp only [World.size_alloc] at hS); refine (HG.out _ ((h.out.below hS.base).mono hS.size)).mono ?_; rintro e w2 ⟨rfl, hb⟩; have HS := Lib.hid (hS.below hb); clear hS hb)
  go_loopw [4, 5] (fun v i wr => ∃ (j : Nat) (V : Option Addr) (c : Nat), i = .int .i64 j ∧ j ≤ m ∧ v = .slice V j c ∧ St w wr [il (.slice V j c) j (tab j f), bx (w.heap.size + 1) 26 [.int .i64 0, .slice none 0 0], bx w.heap.size 26 [.int .i64 n, .slice A m cap]]) (fun _ i _ => m - (intOf i).toNat)
  case atStart => exact ⟨0, _, _, rfl, Nat.zero_le _, rfl, HS.out.empty⟩
  case round =>
    obtain ⟨j, V, c, rfl, hj, rfl, hS⟩ := hrel
    obtain ⟨b0, -⟩ := hS.box (i := 2) rfl
    have b00 := b0 0 _ rfl
    have b01 := b0 1 _ rfl
    have HR := Lib.hid hS
    clear b0
    by_cases hlt : j < m
    · have htab := Lib.hid (tab_succ j f)
      have hji : (j : Int) < (m : Int) := by omega
      have hj0 : (0 : Int) ≤ (j : Int) := by omega
      obtain ⟨b, off, rfl, hbl, hc⟩ := (h.out.below hS.base).at_ (k := j) (by rw [HX.out]; exact hlt)
      have hst : hullTo xs j 0 = xs.getD j 0 := rfl
      rw [← hst] at hc
      clear hS hst
      go_wp2
      clear hc b00 b01
      obtain ⟨wo, rfl⟩ : ∃ wo : World, wo = wr := ⟨_, rfl⟩
      go_loopw [6, 7] (fun y x wr => ∃ d : Nat, x = .int .i64 (j + d) ∧ j + d ≤ m ∧ y = .int .i64 (hullTo xs j d) ∧ St w wr [il (.slice V j c) j (tab j f), bx (w.heap.size + 1) 26 [.int .i64 0, .slice none 0 0], bx w.heap.size 26 [.int .i64 n, .slice (some ⟨b, off, none⟩) m cap]]) (fun _ x _ => m - (intOf x).toNat)
      case atStart => exact ⟨0, by simp, by omega, rfl, HR.out⟩
      case round =>
        obtain ⟨d, rfl, hd, rfl, hS⟩ := hrel
        obtain ⟨b0, -⟩ := hS.box (i := 2) rfl
        have b00 := b0 0 _ rfl
        have b01 := b0 1 _ rfl
        have HQ := Lib.hid hS
        clear b0
        by_cases hlt2 : j + d < m
        · obtain ⟨X, hX⟩ : ∃ X, j + d = X := ⟨_, rfl⟩
          have hXi : (j : Int) + (d : Int) = (X : Int) := by omega
          have hstep : hullTo xs j (d + 1) = if (j + d) &&& j = j then min (hullTo xs j d) (xs.getD (j + d) 0) else hullTo xs j d := rfl
          rw [hX] at hstep hlt2
          have hand := and_nat X j (by omega) (by omega)
          obtain ⟨b', off', e', -, hc⟩ := (h.out.below hS.base).at_ (k := X) (by rw [HX.out]; exact hlt2)
          obtain ⟨rfl, rfl⟩ : b = b' ∧ off = off' := by cases e'; exact ⟨rfl, rfl⟩
          have hXm : (X : Int) < (m : Int) := by omega
          have hX0 : (0 : Int) ≤ (X : Int) := by omega
          clear hS e'
          by_cases hsub : X &&& j = j
          · rw [if_pos hsub] at hstep
            rw [hsub] at hand
            generalize xs.getD X 0 = x at hc hstep
            generalize hullTo xs j d = y at hstep ⊢
            obtain ⟨z, hz⟩ : ∃ z, (if x < y then x else y) = z := ⟨_, rfl⟩
            have hmin : min y x = z := by rw [← hz]; split <;> omega
            rw [hmin] at hstep
            have HST := Lib.hid hstep
            clear hstep hsub hmin
            simp only [hXi]
            go_wp2
            go_roundw
            case rel => exact ⟨d + 1, by go_num, by omega, by rw [HST.out], HQ.out⟩
            case measure => simp [intOf]; omega
          · rw [if_neg hsub] at hstep
            have hne : (((X &&& j : Nat) : Int) == (j : Int)) = false := beq_eq_false_iff_ne.2 (by omega)
            generalize X &&& j = Z at hand hne hsub
            have HST := Lib.hid hstep
            clear hstep hsub hc
            simp only [hXi]
            go_wp2
            go_roundw
            case rel => exact ⟨d + 1, by go_num, by omega, by rw [HST.out], HQ.out⟩
            case measure => simp [intOf]; omega
        · have hdm : d = m - j := by omega
          subst hdm
          have hXm : ¬ (j : Int) + ((m - j : Nat) : Int) < (m : Int) := by omega
          have hval := HO.out j
          generalize hullTo xs j (m - j) = y at hval ⊢
          rw [hval] at htab
          clear hS hval
          have hXi : (j : Int) + ((m - j : Nat) : Int) = (m : Int) := by omega
          simp only [hXi]
          go_wp2_with (at_builtin; refine wpList_app1 rfl (.tmp 45) (.tmp 47) 24 rfl y Tryd.underlying24 hi hz0 hz1 hz2 ((HQ.out.alloc _ _).drop 0) (i := 0) rfl rfl rfl (by simp) (by omega) ?_; intro V' c' w2 hS2; have HR2 := Lib.hid hS2; clear hS2)
          go_roundw
          case rel => exact ⟨j + 1, V', c', by go_num, by omega, rfl, by rw [htab.out]; exact HR2.out⟩
          case measure => simp [intOf]; omega
    · obtain rfl : j = m := by omega
      have hjn : ¬ (j : Int) < (j : Int) := by omega
      obtain ⟨u0, uf⟩ := hS.box (i := 1) rfl
      have u00 := u0 0 _ rfl
      have u01 := u0 1 _ rfl
      have uf0 := uf 0
      have uf1 := uf 1
      have ul := (hS.lt (i := 1) rfl).2
      clear hS u0 uf
      go_wp2
      have hZ := (HR.out.store (i := 1) rfl 0 (.int .i64 n)).store (i := 1) rfl 1 (.slice V j c)
      have hln : (tab j f).length = j := tab_length _ _
      refine bodyPost_ret (v := .tuple #[.agg #[.int .i64 n, .slice V j c], .bool true]) (by simp [results, Tryd.results43, go_sem, u00, u01, uf0, uf1, ul]) rfl ⟨V, c, by rw [hln], ?_, hZ.base⟩
      have ho := hZ.ownI (i := 0) rfl
      rw [hln]
      exact ho

theorem hullS_any : Calls Tryd.prog 43 #[.agg #[.int .i64 n, .slice A xs.length cap]] w (RetFB w (hullFn n xs).1 (hullFn n xs).2.1 (hullFn n xs).2.2) := by
  unfold hullFn
  cases hf : isFn n xs
  · exact hullS_no n A xs cap w h hf
  · exact hullS_yes n A xs cap w h hf

end



section

variable (n : Int) (A : Option Addr) (xs : List Int) (cap : Nat) (k : Int) (w : World) (h : Hid (Ints w w.heap.size A xs))
include h
set_option maxRecDepth 100000 in
set_option maxHeartbeats 1600000 in
theorem truncS_no (hf : isFn n xs = false) : Calls Tryd.prog 48 #[.agg #[.int .i64 n, .slice A xs.length cap], .int .i64 k] w (RetFB w 0 [] false) := by
  have HW := Lib.hid (St.start w)
  have HF := Lib.hid hf
  clear hf
  go_enter Tryd.func48, Tryd.ntmps48
  go_wp2_with (go_at_call 81; refine St.use (w0 := w) (by exact (HW.out.alloc _ _).alloc _ _) ?_; intro hS; (try simp only [World.size_alloc] at hS); refine (isFnS_no n A xs cap _ (Lib.hid ((h.out.below hS.base).mono hS.size)) HF.out).mono ?_; rintro e w2 ⟨rfl, hb⟩; have hS2 := hS.below hb; obtain ⟨u0, uf⟩ := hS2.box (i := 0) rfl; have u00 := u0 0 _ rfl; have u01 := u0 1 _ rfl; have uf0 := uf 0; have uf1 := uf 1; have ul := (hS2.lt (i := 0) rfl).2; have HS2 := Lib.hid hS2; clear hS hb hS2 u0 uf)
  have hZ := (HS2.out.store (i := 0) rfl 0 (.int .i64 0)).store (i := 0) rfl 1 (.slice none 0 0)
  exact bodyPost_ret (v := .tuple #[.agg #[.int .i64 0, .slice none 0 0], .bool false]) (by simp [results, Tryd.results48, go_sem, u00, u01, uf0, uf1, ul]) rfl ⟨none, 0, rfl, Own.nil _ _, by first | exact hZ.base | exact HS2.out.base⟩

set_option maxRecDepth 100000 in
set_option maxHeartbeats 1600000 in
theorem truncS_k (hf : isFn n xs = true) (hk : k < -1000 ∨ 1000 < k) : Calls Tryd.prog 48 #[.agg #[.int .i64 n, .slice A xs.length cap], .int .i64 k] w (RetFB w 0 [] false) := by
  have HW := Lib.hid (St.start w)
  have HF := Lib.hid hf
  have HKK := Lib.hid hk
  clear hf hk
  go_enter Tryd.func48, Tryd.ntmps48
  go_wp2_with (first
    | (go_at_call 81; refine St.use (w0 := w) (by exact (HW.out.alloc _ _).alloc _ _) ?_; intro hS; (try simp only [World.size_alloc] at hS); refine (isFnS_yes n A xs cap _ (Lib.hid ((h.out.below hS.base).mono hS.size)) HF.out).mono ?_; rintro e w2 ⟨rfl, hb⟩; have hS2 := hS.below hb; obtain ⟨u0, uf⟩ := hS2.box (i := 0) rfl; have u00 := u0 0 _ rfl; have u01 := u0 1 _ rfl; have uf0 := uf 0; have uf1 := uf 1; have ul := (hS2.lt (i := 0) rfl).2; have HS2 := Lib.hid hS2; clear hS hb hS2 u0 uf)
    | (go_at_call 92; refine (in_no k (-1000) 1000 _ HKK.out).mono ?_; rintro e w' ⟨rfl, rfl⟩))
  have hZ := (HS2.out.store (i := 0) rfl 0 (.int .i64 0)).store (i := 0) rfl 1 (.slice none 0 0)
  exact bodyPost_ret (v := .tuple #[.agg #[.int .i64 0, .slice none 0 0], .bool false]) (by simp [results, Tryd.results48, go_sem, u00, u01, uf0, uf1, ul]) rfl ⟨none, 0, rfl, Own.nil _ _, by first | exact hZ.base | exact HS2.out.base⟩

set_option maxRecDepth 100000 in
set_option maxHeartbeats 4000000 in
theorem truncS_yes (hf : isFn n xs = true) (k1 : -1000 ≤ k) (k2 : k ≤ 1000) : Calls Tryd.prog 48 #[.agg #[.int .i64 n, .slice A xs.length cap], .int .i64 k] w (RetFB w n (tab xs.length (truncV xs k)) true) := by
  have HW := Lib.hid (St.start w)
  have HF := Lib.hid hf
  have hm32 := (isFn_len hf).2
  have HG := Lib.hid (fun W hW => isFnS_yes n A xs cap W (Lib.hid hW) HF.out)
  have HO := Lib.hid (fun s => show truncV xs k s = min k (xs.getD s 0) from rfl)
  generalize truncV xs k = f at HO ⊢
  obtain ⟨m, hm⟩ : ∃ m, xs.length = m := ⟨_, rfl⟩
  rw [hm] at HG hm32 ⊢
  have HX := Lib.hid hm
  clear hf hm
  obtain ⟨i0, hi, hz0, hz1, hz2⟩ := info_parts info_int
  go_enter Tryd.func48, Tryd.ntmps48
  go_wp2_with (first
    | (go_at_call 81; refine St.use (w0 := w) (by exact (HW.out.alloc _ _).alloc _ _) ?_; intro hS; (try simp only [World.size_alloc] at hS); refine (HG.out _ ((h.out.below hS.base).mono hS.size)).mono ?_; rintro e w2 ⟨rfl, hb⟩; have HS := Lib.hid (hS.below hb); clear hS hb)
    | (go_at_call 92; refine (in_yes k (-1000) 1000 _ k1 k2).mono ?_; rintro e w' ⟨rfl, rfl⟩))
  go_loopw [6, 7] (fun v i wr => ∃ (j : Nat) (V : Option Addr) (c : Nat), i = .int .i64 j ∧ j ≤ m ∧ v = .slice V j c ∧ St w wr [il (.slice V j c) j (tab j f), bx (w.heap.size + 1) 26 [.int .i64 0, .slice none 0 0], bx w.heap.size 26 [.int .i64 n, .slice A m cap]]) (fun _ i _ => m - (intOf i).toNat)
  case atStart => exact ⟨0, _, _, rfl, Nat.zero_le _, rfl, HS.out.empty⟩
  case round =>
    obtain ⟨j, V, c, rfl, hj, rfl, hS⟩ := hrel
    obtain ⟨b0, -⟩ := hS.box (i := 2) rfl
    have b00 := b0 0 _ rfl
    have b01 := b0 1 _ rfl
    have HR := Lib.hid hS
    clear b0
    by_cases hlt : j < m
    · have htab := Lib.hid (tab_succ j f)
      have hji : (j : Int) < (m : Int) := by omega
      have hj0 : (0 : Int) ≤ (j : Int) := by omega
      obtain ⟨b, off, rfl, hbl, hc⟩ := (h.out.below hS.base).at_ (k := j) (by rw [HX.out]; exact hlt)
      have hval := HO.out j
      generalize xs.getD j 0 = x at hc hval
      obtain ⟨z, hz⟩ : ∃ z, (if x < k then x else k) = z := ⟨_, rfl⟩
      have hmin : min k x = z := by rw [← hz]; split <;> omega
      rw [hmin] at hval
      rw [hval] at htab
      clear hS hval hmin
      go_wp2_with (at_builtin; refine wpList_app1 rfl (.tmp 25) (.tmp 33) 24 rfl z Tryd.underlying24 hi hz0 hz1 hz2 ((HR.out.alloc _ _).drop 0) (i := 0) rfl rfl rfl (by simp [← hz]) (by omega) ?_; intro V' c' w2 hS2; have HR2 := Lib.hid hS2; clear hS2)
      go_roundw
      case rel => exact ⟨j + 1, V', c', by go_num, by omega, rfl, by rw [htab.out]; exact HR2.out⟩
      case measure => simp [intOf]; omega
    · obtain rfl : j = m := by omega
      have hjn : ¬ (j : Int) < (j : Int) := by omega
      obtain ⟨u0, uf⟩ := hS.box (i := 1) rfl
      have u00 := u0 0 _ rfl
      have u01 := u0 1 _ rfl
      have uf0 := uf 0
      have uf1 := uf 1
      have ul := (hS.lt (i := 1) rfl).2
      clear hS u0 uf
      go_wp2
      have hZ := (HR.out.store (i := 1) rfl 0 (.int .i64 n)).store (i := 1) rfl 1 (.slice V j c)
      have hln : (tab j f).length = j := tab_length _ _
      refine bodyPost_ret (v := .tuple #[.agg #[.int .i64 n, .slice V j c], .bool true]) (by simp [results, Tryd.results48, go_sem, u00, u01, uf0, uf1, ul]) rfl ⟨V, c, by rw [hln], ?_, hZ.base⟩
      have ho := hZ.ownI (i := 0) rfl
      rw [hln]
      exact ho

theorem truncS_any : Calls Tryd.prog 48 #[.agg #[.int .i64 n, .slice A xs.length cap], .int .i64 k] w (RetFB w (truncFn n xs k).1 (truncFn n xs k).2.1 (truncFn n xs k).2.2) := by
  unfold truncFn
  cases hf : isFn n xs
  · rw [if_neg (by simp)]
    exact truncS_no n A xs cap k w h hf
  · by_cases hk : -1000 ≤ k ∧ k ≤ 1000
    · rw [if_pos ⟨rfl, hk⟩]
      exact truncS_yes n A xs cap k w h hf hk.1 hk.2
    · rw [if_neg fun hh => hk hh.2]
      exact truncS_k n A xs cap k w h hf (by omega)

end


end Go.Proofs.YtfpoiiennlhphaaDoor.C
