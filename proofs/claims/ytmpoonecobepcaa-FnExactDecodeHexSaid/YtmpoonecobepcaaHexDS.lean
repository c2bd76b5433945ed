/-
  The contract of spec.DecodeHex.
-/
import Derived.Test.YtmpoonecobepcaaHexD
namespace Go.Proofs.Ytmpoonecobepcaa.C
open Go.RowKit M K
set_option linter.unusedVariables false

theorem ret_dh {s : ByteArray} {b : Bool} {r : ByteArray} (h : b = dhB s ∧ r = dhS s) : Ending.returned (.tuple #[.string r, .bool b]) = .returned (.tuple #[.string (dhS s), .bool (dhB s)]) := by
  obtain ⟨rfl, rfl⟩ := h; rfl

set_option maxRecDepth 100000 in
set_option maxHeartbeats 1600000 in
theorem sdh_any (s : ByteArray) (w : World) (h4 : s.size ≤ 1048576) :
    Calls Try.prog 19 #[.string s] w fun e w' => e = .returned (.tuple #[.string (dhS s), .bool (dhB s)]) ∧ Below w.heap.size w w' := by
  obtain ⟨i0, hi, hz0, hz1, hz2⟩ := info_parts info_u8
  rcases Nat.mod_two_eq_zero_or_one s.size with hp | hp
  · have hp1 : ((s.size : Int) % 2 == 1) = false := by simp; omega
    have HP := Lib.hid hp
    clear hp
    go_enter Try.func19, Try.ntmps19
    go_wp2
    go_loopw [4, 5, 6, 7] (fun o c _ _ wr => ∃ k : Nat, 2 * k ≤ s.size ∧ c = .int .i64 (2 * (k : Int)) ∧ wr.ownsRow w.heap.size 5 1 o k (cellsOf (unhex s k)) ∧ (¬ o = .slice none 0 0) ∧ AllHex s (2 * k) ∧ Below w.heap.size w wr) (fun _ c _ _ _ => s.size - (intOf c).toNat)
    case atStart => exact ⟨0, Nat.zero_le _, rfl, World.ownsRow_made w _ 0 (Nat.le_refl _) (by unfold maxLen; omega) rfl, by simp, AllHex.zero s, (Below.refl _ _).alloc (Nat.le_refl _) _⟩
    case round =>
      obtain ⟨k, hk, rfl, hown, hne, hall, hb⟩ := hrel
      have HALL := Lib.hid hall
      clear hall
      by_cases hlt : 2 * k < s.size
      · have hlt2 : 2 * k + 1 < s.size := by have := HP.out; omega
        have k0 : (0 : Int) ≤ 2 * (k : Int) := by omega
        have k1 : 2 * (k : Int) < s.size := by omega
        have k2 : 2 * (k : Int) + 1 < s.size := by omega
        have c1 : (s[2 * k].toNat : Int) ≤ 255 := by have := s[2 * k].toNat_lt; omega
        have c2 : (s[2 * k + 1].toNat : Int) ≤ 255 := by have := s[2 * k + 1].toNat_lt; omega
        have b1 := hv_bd (s[2 * k].toNat : Int)
        have b2 := hv_bd (s[2 * k + 1].toNat : Int)
        have E1 := Lib.hid (bt_at s (2 * k) hlt)
        have E2 := Lib.hid (bt_at s (2 * k + 1) hlt2)
        by_cases n1 : hv (s[2 * k].toNat : Int) < 0
        · go_wp2_with (go_at_call 23; refine (fromHex_any _ _ (by omega) (by omega)).mono ?_; rintro e w' ⟨rfl, rfl⟩)
          go_ret2
          exact ⟨ret_dh (by
            have := dh_no (s := s) (fun g => AllHex.not (s := s) (i := 2 * k) (k := s.size) (by rw [E1.out]; exact n1) hlt g.2)
            exact ⟨this.1.symm, this.2.symm⟩), hb⟩
        · have m1 : 0 ≤ hv (s[2 * k].toNat : Int) := by omega
          clear n1
          by_cases n2 : hv (s[2 * k + 1].toNat : Int) < 0
          · go_wp2_with (go_at_call 23; refine (fromHex_any _ _ (by omega) (by omega)).mono ?_; rintro e w' ⟨rfl, rfl⟩)
            go_ret2
            exact ⟨ret_dh (by
              have := dh_no (s := s) (fun g => AllHex.not (s := s) (i := 2 * k + 1) (k := s.size) (by rw [E2.out]; exact n2) hlt2 g.2)
              exact ⟨this.1.symm, this.2.symm⟩), hb⟩
          · have m2 : 0 ≤ hv (s[2 * k + 1].toNat : Int) := by omega
            clear n2
            go_wp2_with (first | (go_at_call 23; refine (fromHex_any _ _ (by omega) (by omega)).mono ?_; rintro e w' ⟨rfl, rfl⟩) | (at_builtin; refine wpList_append_own _ rfl (.tmp 34) (.tmp 40) 36 rfl w.heap.size 5 i0 (.int .u8 0) 1 1 Try.underlying36 hi hz0 hz1 hz2 rfl (by decide) _ k (cellsOf (unhex s k)) rfl (hown.alloc _) ⟨wr.heap.size, 0, none⟩ 1 1 [.int .u8 (16 * hv (s[2 * k].toNat : Int) + hv (s[2 * k + 1].toNat : Int))] rfl rfl (news_one _ _ _) (one_u8 _) ?c3 ?c4 ?c5 ?_))
            case c3 => unfold maxLen; omega
            case c4 => omega
            case c5 => have := hb.size; simp; omega
            intro v1 w1 hown1 hgrow1 hn1
            have es : cellsOf (unhex s k) ++ [.int .u8 (16 * hv (s[2 * k].toNat : Int) + hv (s[2 * k + 1].toNat : Int))] = cellsOf (unhex s (k + 1)) := by
              rw [unhex_succ, E1.out, E2.out, cellsOf_snoc _ _ (by omega) (by omega)]
            rw [es] at hown1
            have hb1 := below_app hb hown hgrow1
            have hall1 : AllHex s (2 * k + 1 + 1) := (HALL.out.succ (by rw [E1.out]; exact m1)).succ (by rw [E2.out]; exact m2)
            have HA1 := Lib.hid hall1
            clear hown hgrow1 hb hall1 es
            go_wp2
            go_roundw
            case rel => exact ⟨k + 1, by omega, by go_num, by simpa using hown1, hn1, HA1.out, hb1⟩
            case measure => simp [intOf]; omega
      · have hend : 2 * k = s.size := by omega
        have HE := Lib.hid hend
        have hcv := conv_own (P := Try.prog) wr 36 9 5 w.heap.size k _ (unhex s k) Try.underlying36 Try.underlying5 Try.underlying9 (unhex_length s k) hown hne
        clear hown hend
        go_wp2
        go_ret2
        exact ⟨ret_dh (by
          have := dh_yes (s := s) HP.out (by rw [← HE.out]; exact HALL.out)
          rw [this.1, this.2, show s.size / 2 = k by have := HE.out; omega]
          exact ⟨rfl, rfl⟩), hb⟩
  · have hp1 : ((s.size : Int) % 2 == 1) = true := by simp; omega
    go_enter Try.func19, Try.ntmps19
    go_wp2
    go_ret2
    exact ⟨ret_dh (by have := dh_no (s := s) (by omega); exact ⟨this.1.symm, this.2.symm⟩), (Below.refl _ _).alloc (Nat.le_refl _) _⟩
end Go.Proofs.Ytmpoonecobepcaa.C
