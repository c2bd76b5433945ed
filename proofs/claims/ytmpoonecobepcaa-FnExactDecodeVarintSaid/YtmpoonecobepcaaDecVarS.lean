/-
  The contract of spec.DecodeVarint.
-/
import Derived.Test.YtmpoonecobepcaaMathD
import Derived.Test.YtmpoonecobepcaaEncVar
import Derived.Outline
import Derived.Deep.RegionWith
namespace Go.Proofs.Ytmpoonecobepcaa.C
open Go.RowKit M K
set_option linter.unusedVariables false

theorem below_draw {w wr w1 : World} (h1 : Below w.heap.size w wr) (h2 : Below wr.drew.heap.size wr.drew w1) : Below w.heap.size w w1 :=
  h1.drew.trans (h2.mono h1.size)

set_option maxRecDepth 100000 in
set_option maxHeartbeats 1600000 in
theorem sdv_yes (s : ByteArray) (k : Nat) (w : World) (h1 : 1 ≤ k) (h2 : k ≤ 7) (h3 : k ≤ s.size) (h4 : s.size ≤ 9223372036854775807) (hok : Hid (OkAt s.data.toList k)) :
    Calls Try.prog 15 #[.string s] w fun e w' => e = .returned (.tuple #[.int .i64 (leL (s.data.toList.take k)), .int .i64 k]) ∧ Below w.heap.size w w' := by
  go_enter Try.func15, Try.ntmps15
  go_wp2
  go_loopw [4, 5, 6] (fun c _ _ wr => ∃ p : Nat, p + 1 ≤ k ∧ c = .int .i64 ((p : Int) + 1) ∧ Below w.heap.size w wr) (fun c _ _ _ => 8 - (intOf c).toNat)
  case atStart => exact ⟨0, by omega, rfl, Below.refl _ _⟩
  case round =>
    obtain ⟨p, hp, rfl, hb⟩ := hrel
    have hp7 : (p : Int) + 1 ≤ 7 := by omega
    have hps : (p : Int) + 1 ≤ s.size := by omega
    obtain ⟨wo, rfl⟩ : ∃ wo : World, wo = wr := ⟨_, rfl⟩
    go_wp2
    go_loop [5, 6] (fun v i => (∃ j : Nat, j ≤ p ∧ i = .int .i64 (j : Int) ∧ v = .int .i64 (leD s (p + 1) (j + 1))) ∨ (i = .int .i64 (-1) ∧ v = .int .i64 (leL (s.data.toList.take (p + 1))))) (fun _ i => (intOf i + 1).toNat)
    case atStart => exact Or.inl ⟨p, Nat.le_refl _, by go_num, by rw [leD_end]⟩
    case round =>
      rcases hrel with ⟨j, hj, rfl, rfl⟩ | ⟨rfl, rfl⟩
      · have hjs : j < s.size := by omega
        have hst := leD_step s (p + 1) j (by omega) (by omega) hjs
        obtain ⟨b0, b1⟩ := leD_bd s (p + 1) (j + 1) (by omega) (by omega)
        have c1 : (s[j].toNat : Int) ≤ 255 := by have := s[j].toNat_lt; omega
        have HS := Lib.hid hst
        clear hst
        go_wp2
        go_round
        case rel =>
          rcases Nat.eq_zero_or_pos j with h0 | h0
          · subst h0
            exact Or.inr ⟨rfl, by rw [← leD_zero, HS.out]⟩
          · obtain ⟨j', rfl⟩ : ∃ j', j = j' + 1 := ⟨j - 1, by omega⟩
            exact Or.inl ⟨j', by omega, by go_num, by rw [HS.out]⟩
        case measure => simp [intOf]
      · obtain ⟨b0, b1, b2⟩ := leL_take s (p + 1) (by omega) (by omega)
        clear b2
        go_wp2_with fail
        have s1 : 0 ≤ (p : Int) + 1 := by omega
        have s2 : ((p : Int) + 1).toNat = p + 1 := by omega
        have s3 : p + 1 ≤ s.size := by omega
        go_region_with (go_at_call 13; refine (sev_yes _ _ b0 b1).mono ?_; rintro e w' ⟨rfl, hb2⟩)
        all_goals
          have hb3 := below_draw hb hb2
          clear s1 s2 s3 hb hb2
          by_cases hl : p + 1 = k
          · subst hl
            have ht := hok.out.test
            go_wp2_with fail
            all_goals first
              | (exfalso; have hq : (encV 6 (leL (s.data.toList.take (p + 1))) == (s.extract 0 (p + 1)).toList) = false := by assumption
                 rw [ht] at hq; cases hq)
              | (go_ret2; exact ⟨rfl, hb3⟩)
          · have ht := OkAt.untest (fun g => hl (g.unique hok.out (by omega) (by omega) (by omega) h1 h2 h3))
            go_wp2_with fail
            all_goals first
              | (exfalso; have hq : (encV 6 (leL (s.data.toList.take (p + 1))) == (s.extract 0 (p + 1)).toList) = true := by assumption
                 rw [ht] at hq; cases hq)
              | (go_roundw
                 case rel => exact ⟨p + 1, by omega, by go_num, hb3⟩
                 case measure => simp [intOf]; omega)

set_option maxRecDepth 100000 in
set_option maxHeartbeats 1600000 in
theorem sdv_no (s : ByteArray) (w : World) (h4 : s.size ≤ 9223372036854775807) (hno : Hid (∀ k, 1 ≤ k → k ≤ 7 → k ≤ s.size → ¬ OkAt s.data.toList k)) :
    Calls Try.prog 15 #[.string s] w fun e w' => e = .returned (.tuple #[.int .i64 0, .int .i64 0]) ∧ Below w.heap.size w w' := by
  go_enter Try.func15, Try.ntmps15
  go_wp2
  go_loopw [4, 5, 6] (fun c _ _ wr => ∃ p : Nat, p ≤ 7 ∧ p ≤ s.size ∧ c = .int .i64 ((p : Int) + 1) ∧ Below w.heap.size w wr) (fun c _ _ _ => 8 - (intOf c).toNat)
  case atStart => exact ⟨0, by omega, by omega, rfl, Below.refl _ _⟩
  case round =>
    obtain ⟨p, hp, hp', rfl, hb⟩ := hrel
    by_cases hin : p < 7 ∧ p < s.size
    · obtain ⟨hi7, his⟩ := hin
      have hp7 : (p : Int) + 1 ≤ 7 := by omega
      have hps : (p : Int) + 1 ≤ s.size := by omega
      obtain ⟨wo, rfl⟩ : ∃ wo : World, wo = wr := ⟨_, rfl⟩
      go_wp2
      go_loop [5, 6] (fun v i => (∃ j : Nat, j ≤ p ∧ i = .int .i64 (j : Int) ∧ v = .int .i64 (leD s (p + 1) (j + 1))) ∨ (i = .int .i64 (-1) ∧ v = .int .i64 (leL (s.data.toList.take (p + 1))))) (fun _ i => (intOf i + 1).toNat)
      case atStart => exact Or.inl ⟨p, Nat.le_refl _, by go_num, by rw [leD_end]⟩
      case round =>
        rcases hrel with ⟨j, hj, rfl, rfl⟩ | ⟨rfl, rfl⟩
        · have hjs : j < s.size := by omega
          have hst := leD_step s (p + 1) j (by omega) (by omega) hjs
          obtain ⟨b0, b1⟩ := leD_bd s (p + 1) (j + 1) (by omega) (by omega)
          have c1 : (s[j].toNat : Int) ≤ 255 := by have := s[j].toNat_lt; omega
          have HS := Lib.hid hst
          clear hst
          go_wp2
          go_round
          case rel =>
            rcases Nat.eq_zero_or_pos j with h0 | h0
            · subst h0
              exact Or.inr ⟨rfl, by rw [← leD_zero, HS.out]⟩
            · obtain ⟨j', rfl⟩ : ∃ j', j = j' + 1 := ⟨j - 1, by omega⟩
              exact Or.inl ⟨j', by omega, by go_num, by rw [HS.out]⟩
          case measure => simp [intOf]
        · obtain ⟨b0, b1, b2⟩ := leL_take s (p + 1) (by omega) (by omega)
          clear b2
          go_wp2_with fail
          have s1 : 0 ≤ (p : Int) + 1 := by omega
          have s2 : ((p : Int) + 1).toNat = p + 1 := by omega
          have s3 : p + 1 ≤ s.size := by omega
          go_region_with (go_at_call 13; refine (sev_yes _ _ b0 b1).mono ?_; rintro e w' ⟨rfl, hb2⟩)
          all_goals
            have hb3 := below_draw hb hb2
            clear s1 s2 s3 hb hb2
            have ht := OkAt.untest (hno.out (p + 1) (by omega) (by omega) (by omega))
            go_wp2_with fail
            all_goals first
              | (exfalso; have hq : (encV 6 (leL (s.data.toList.take (p + 1))) == (s.extract 0 (p + 1)).toList) = true := by assumption
                 rw [ht] at hq; cases hq)
              | (go_roundw
                 case rel => exact ⟨p + 1, by omega, by omega, by go_num, hb3⟩
                 case measure => simp [intOf]; omega)
    · have hin1 : p = 7 ∨ p = s.size := by omega
      clear hin
      rcases hin1 with h7 | h7
      · have hq : decide ((p : Int) + 1 ≤ 7) = false := by simp; omega
        go_wp2_with fail
        go_ret2
        exact ⟨rfl, hb⟩
      · by_cases h8 : (p : Int) + 1 ≤ 7
        · have hq : ¬ (p : Int) + 1 ≤ s.size := by omega
          go_wp2_with fail
          go_ret2
          exact ⟨rfl, hb⟩
        · go_wp2_with fail
          go_ret2
          exact ⟨rfl, hb⟩
end Go.Proofs.Ytmpoonecobepcaa.C
