/-
  The contracts of spec.LeastVector, GreatestVector, PairingOf, IndicatorOf and of what they call.
-/
import Derived.Test.YtgenllnpmjialaaDoorExM
import Derived.Test.YtgenllnpmjialaaDoorAppN
import Derived.Test.YtgenllnpmjialaaDoorSub
namespace Go.Proofs.YtgenllnpmjialaaDoor.C
open Go.RowKit K M
set_option linter.unusedVariables false
set_option linter.unusedSimpArgs false


section

end



section

variable (n s : Int) (w : World)
theorem indS_num (hn : n < 0 ∨ 5 < n) : Calls Tryd.prog 6 #[.int .i64 n, .int .i64 s] w (RetIB w [] false) := by
  have HW := Lib.hid (St.start w)
  have HN := Lib.hid hn
  clear hn
  go_enter Tryd.func6, Tryd.ntmps6
  go_wp2_with (go_at_call 21; refine (in_no n 0 5 _ HN.out).mono ?_; rintro e w' ⟨rfl, rfl⟩)
  go_ret2
  exact ⟨_, _, rfl, HW.out.empty.ownI (i := 0) rfl, HW.out.empty.base⟩

theorem indS_set (h0 : 0 ≤ n) (h5 : n ≤ 5) (hs : isSet n s = false) : Calls Tryd.prog 6 #[.int .i64 n, .int .i64 s] w (RetIB w [] false) := by
  have HW := Lib.hid (St.start w)
  obtain ⟨m, hm⟩ : ∃ m, m = 2 ^ n.toNat := ⟨_, rfl⟩
  have hh := isSet_no hs
  rw [← hm] at hh
  have HM := Lib.hid hm
  have HN := Lib.hid hh
  clear hs hm hh
  go_enter Tryd.func6, Tryd.ntmps6
  go_wp2_with (first | (go_at_call 22; refine (full_any n m _ h0 (by omega) HM.out).mono ?_; rintro e w' ⟨rfl, rfl⟩) | (go_at_call_of 21 (Value.int .i64 n); refine (in_yes n 0 5 _ h0 h5).mono ?_; rintro e w' ⟨rfl, rfl⟩) | (go_at_call 21; refine (in_no s 0 _ _ (by have := HN.out; omega)).mono ?_; rintro e w' ⟨rfl, rfl⟩))
  go_ret2
  exact ⟨_, _, rfl, HW.out.empty.ownI (i := 0) rfl, HW.out.empty.base⟩

set_option maxRecDepth 100000 in
set_option maxHeartbeats 1600000 in
theorem indS_yes (h0 : 0 ≤ n) (h5 : n ≤ 5) (hs : isSet n s = true) : Calls Tryd.prog 6 #[.int .i64 n, .int .i64 s] w (RetIB w (tab n.toNat fun i => if s.toNat.testBit i = true then 1 else 0) true) := by
  have HW := Lib.hid (St.start w)
  obtain ⟨m, hm⟩ : ∃ m, m = 2 ^ n.toNat := ⟨_, rfl⟩
  have hh := isSet_yes hs
  have h32 := (p2_le h0 h5).2
  rw [← hm] at hh h32
  obtain ⟨N, rfl⟩ := Int.eq_ofNat_of_zero_le h0
  obtain ⟨S, rfl⟩ := Int.eq_ofNat_of_zero_le hh.1
  have hS : S < 4294967296 := by omega
  rw [Int.toNat_natCast, Int.toNat_natCast]
  obtain ⟨f, hfn⟩ : ∃ f : Nat → Int, f = fun i => if S.testBit i = true then 1 else 0 := ⟨_, rfl⟩
  have HO := Lib.hid (fun i => show (if S.testBit i = true then 1 else 0) = f i by rw [hfn])
  rw [← hfn]
  have HM := Lib.hid hm
  have HN := Lib.hid hh
  clear hs hm hh hfn
  obtain ⟨i0, hi, hz0, hz1, hz2⟩ := info_parts info_int
  go_enter Tryd.func6, Tryd.ntmps6
  go_wp2_with (first | (go_at_call 22; refine (full_any (N : Int) m _ h0 (by omega) HM.out).mono ?_; rintro e w' ⟨rfl, rfl⟩) | (go_at_call_of 21 (Value.int .i64 (N : Int)); refine (in_yes (N : Int) 0 5 _ h0 h5).mono ?_; rintro e w' ⟨rfl, rfl⟩) | (go_at_call 21; refine (in_yes (S : Int) 0 _ _ (by omega) (by have := HN.out; omega)).mono ?_; rintro e w' ⟨rfl, rfl⟩))
  go_loopw [6, 7] (fun v i wr => ∃ (j : Nat) (V : Option Addr) (c : Nat), i = .int .i64 j ∧ j ≤ N ∧ v = .slice V j c ∧ St w wr [il (.slice V j c) j (tab j f)]) (fun _ i _ => N - (intOf i).toNat)
  case atStart => exact ⟨0, _, _, rfl, Nat.zero_le _, rfl, HW.out.empty⟩
  case round =>
    obtain ⟨j, V, c, rfl, hj, rfl, hS'⟩ := hrel
    have HR := Lib.hid hS'
    by_cases hlt : j < N
    · have htab := Lib.hid (tab_succ j f)
      have hji : (j : Int) < (N : Int) := by omega
      have hj0 : (0 : Int) ≤ (j : Int) := by omega
      have e1 := bit_val S j hS
      rw [HO.out j] at e1
      clear hS'
      go_wp2_with (at_builtin; refine wpList_app1 rfl (.tmp 25) (.tmp 30) 22 rfl (f j) Tryd.underlying22 hi hz0 hz1 hz2 ((HR.out.alloc _ _).drop 0) (i := 0) rfl rfl rfl (by simp) (by omega) ?_; intro V' c' w2 hS2; have HR2 := Lib.hid hS2; clear hS2)
      go_roundw
      case rel => exact ⟨j + 1, V', c', by go_num, by omega, rfl, by rw [htab.out]; exact HR2.out⟩
      case measure => simp [intOf]; omega
    · obtain rfl : j = N := by omega
      have hjn : ¬ (j : Int) < (j : Int) := by omega
      clear hS'
      go_wp2
      go_ret2
      have hln : (tab j f).length = j := tab_length _ _
      exact ⟨V, c, by rw [hln]; rfl, by rw [hln]; exact HR.out.ownI (i := 0) rfl, HR.out.base⟩

theorem indS_any : Calls Tryd.prog 6 #[.int .i64 n, .int .i64 s] w (RetIB w (indOf n s).1 (indOf n s).2) := by
  unfold indOf
  by_cases hn : 0 ≤ n ∧ n ≤ 5
  · cases hs : isSet n s
    · simpa [hn] using indS_set n s w hn.1 hn.2 hs
    · simpa [hn] using indS_yes n s w hn.1 hn.2 hs
  · rw [if_neg (fun hh => hn ⟨hh.1, hh.2.1⟩)]
    exact indS_num n s w (by omega)

end


end Go.Proofs.YtgenllnpmjialaaDoor.C
