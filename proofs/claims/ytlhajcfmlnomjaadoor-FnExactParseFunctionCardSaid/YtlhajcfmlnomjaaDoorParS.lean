/-
  The contract of spec.ParseInt.
-/
import Derived.Test.YtlhajcfmlnomjaaDoorMathP
import Derived.Test.YtlhajcfmlnomjaaDoorFmt
namespace Go.Proofs.YtlhajcfmlnomjaaDoor.C
open Go.RowKit M K
open Go.Lib (decDigits itoa nDigits)
set_option linter.unusedVariables false

theorem ret_pi {l : List UInt8} {v : Int} {b : Bool} (h : piB l = b ∧ piR l = v) : Ending.returned (.tuple #[.int .i64 v, .bool b]) = .returned (.tuple #[.int .i64 (piR l), .bool (piB l)]) := by
  rw [h.1, h.2]

theorem isNeg_at (s : ByteArray) (h : 0 < s.size) : isNeg s.data.toList = (s[0] == 45) := by
  have e : s.data.toList.length = s.size := rfl
  have g : s.data.toList[0]? = some s[0] := by rw [List.getElem?_eq_getElem (by omega)]; rfl
  cases hl : s.data.toList with
  | nil => rw [hl] at e; simp at e; omega
  | cons c r =>
    rw [hl] at g
    have : c = s[0] := by simpa using g
    rw [← this]; rfl
theorem isNeg_none (s : ByteArray) (h : s.size = 0) : isNeg s.data.toList = false := by
  have e : s.data.toList = [] := List.eq_nil_of_length_eq_zero h
  rw [e]; rfl
theorem u8_45 (c : UInt8) : ((c.toNat : Int) == 45) = (c == 45) := by
  rw [Bool.eq_iff_iff]
  simp only [beq_iff_eq]
  constructor
  · intro h
    have h2 : c.toNat = (45 : UInt8).toNat := by show c.toNat = 45; omega
    exact UInt8.toNat_inj.1 h2
  · intro h; subst h; rfl

theorem pv_take (s : ByteArray) (i : Nat) (hi : i < s.size) : (48 ≤ (s[i].toNat : Int) → (s[i].toNat : Int) ≤ 57 → pvV (s.data.toList.take (i + 1)) = pvV (s.data.toList.take i) * 10 + ((s[i].toNat : Int) - 48) ∧ pvK (s.data.toList.take (i + 1)) = pvK (s.data.toList.take i) + 1) ∧
    ((s[i].toNat : Int) < 48 ∨ 57 < (s[i].toNat : Int) → pvV (s.data.toList.take (i + 1)) = pvV (s.data.toList.take i) ∧ pvK (s.data.toList.take (i + 1)) = pvK (s.data.toList.take i)) := by
  rw [take_snoc s i hi, pvV_snoc, pvK_snoc]
  constructor
  · intro a b
    have : isD s[i] = true := (isD_iff _).2 (by omega)
    rw [if_pos this, if_pos this]; exact ⟨rfl, rfl⟩
  · intro a
    have : ¬ isD s[i] = true := fun h => by have := (isD_iff _).1 h; omega
    rw [if_neg this, if_neg this]; exact ⟨rfl, rfl⟩

theorem pv_take_bd (s : ByteArray) (i : Nat) (h11 : i ≤ 11) (hi : i ≤ s.size) : 0 ≤ pvV (s.data.toList.take i) ∧ pvV (s.data.toList.take i) ≤ 99999999999 ∧ pvK (s.data.toList.take i) ≤ 11 := by
  have e : s.data.toList.length = s.size := rfl
  obtain ⟨a, b, c⟩ := pv_bd i (s.data.toList.take i) (by rw [List.length_take]; omega)
  have := pow10_le (show pvK (s.data.toList.take i) ≤ 11 by omega)
  have e11 : (10 : Int) ^ 11 = 100000000000 := by decide
  exact ⟨a, by omega, by omega⟩

theorem pv_nine (s : ByteArray) (h : pvK s.data.toList ≤ 9) : 0 ≤ pvV s.data.toList ∧ pvV s.data.toList ≤ 999999999 := by
  obtain ⟨a, b, c⟩ := pv_bd s.data.toList.length s.data.toList rfl
  have := pow10_le h
  have e9 : (10 : Int) ^ 9 = 1000000000 := by decide
  exact ⟨a, by omega⟩

set_option maxRecDepth 100000 in
set_option maxHeartbeats 3200000 in
theorem spi_any (s : ByteArray) (w : World) (h4 : s.size ≤ 1048576) :
    Calls Tryd.prog 27 #[.string s] w fun e w' => e = .returned (.tuple #[.int .i64 (piR s.data.toList), .bool (piB s.data.toList)]) ∧ Below w.heap.size w w' := by
  go_enter Tryd.func27, Tryd.ntmps27
  go_wp2
  go_loop [4, 5, 6] (fun v k c => ∃ i : Nat, i ≤ 11 ∧ i ≤ s.size ∧ c = .int .i64 i ∧ v = .int .i64 (pvV (s.data.toList.take i)) ∧ k = .int .i64 (pvK (s.data.toList.take i))) (fun _ _ c => 11 - (intOf c).toNat)
  case atStart => exact ⟨0, by omega, by omega, rfl, rfl, rfl⟩
  case round =>
    obtain ⟨i, hi11, his, rfl, rfl, rfl⟩ := hrel
    obtain ⟨p0, p1, p2⟩ := pv_take_bd s i hi11 his
    by_cases hlt : i < s.size ∧ i < 11
    · obtain ⟨hl1, hl2⟩ := hlt
      obtain ⟨a1, a2⟩ := pv_take s i hl1
      have A1 := Lib.hid a1
      have A2 := Lib.hid a2
      clear a1 a2
      have hc255 : (s[i].toNat : Int) ≤ 255 := by have := s[i].toNat_lt; omega
      by_cases h48 : 48 ≤ (s[i].toNat : Int)
      · by_cases h57 : (s[i].toNat : Int) ≤ 57
        · go_wp2
          go_round
          case rel => exact ⟨i + 1, by omega, by omega, by go_num, by rw [(A1.out h48 h57).1], by rw [(A1.out h48 h57).2]; go_num⟩
          case measure => simp [intOf]; omega
        · go_wp2
          go_round
          case rel => exact ⟨i + 1, by omega, by omega, by go_num, by rw [(A2.out (by omega)).1], by rw [(A2.out (by omega)).2]⟩
          case measure => simp [intOf]; omega
      · go_wp2
        go_round
        case rel => exact ⟨i + 1, by omega, by omega, by go_num, by rw [(A2.out (by omega)).1], by rw [(A2.out (by omega)).2]⟩
        case measure => simp [intOf]; omega
    · have hi2 : i = s.size ∨ i = 11 := by omega
      clear hlt
      by_cases hz : 0 < s.size
      · have hz1 : (0 : Int) < (s.size : Int) := by omega
        by_cases hm : (s[0] == 45) = true
        · have hng : isNeg s.data.toList = true := by rw [isNeg_at s hz]; exact hm
          have hm1 : ((s[0].toNat : Int) == 45) = true := by rw [u8_45]; exact hm
          clear hm
          by_cases h10 : 10 < s.size
          · have HY := Lib.hid (pi_no (l := s.data.toList) (fun h => by have := h.2.1; have e : s.data.toList.length = s.size := rfl; omega))
            by_cases hk9 : (9 : Int) < (pvK (s.data.toList.take i) : Int)
            · go_wp2
              all_goals (go_ret2; exact ⟨ret_pi HY.out, Below.refl _ _⟩)
            · go_wp2
              all_goals (go_ret2; exact ⟨ret_pi HY.out, Below.refl _ _⟩)
          · obtain rfl : i = s.size := by omega
            have hfull : s.data.toList.take s.size = s.data.toList := List.take_of_length_le (Nat.le_refl _)
            rw [hfull] at p0 p1 p2 ⊢
            by_cases hk9 : (9 : Int) < (pvK s.data.toList : Int)
            · have HY := Lib.hid (pi_no (l := s.data.toList) (fun h => by have := h.1; omega))
              go_wp2
              all_goals (go_ret2; exact ⟨ret_pi HY.out, Below.refl _ _⟩)
            · obtain ⟨q0, q1⟩ := pv_nine s (by omega)
              have hpi : piN s.data.toList = (-(pvV s.data.toList)) := by unfold piN; rw [hng]; rfl
              by_cases h3 : itoa (-(pvV s.data.toList)) = s.data.toList
              · have hyes := pi_yes (l := s.data.toList) (by omega) (by have e : s.data.toList.length = s.size := rfl; omega) (by rw [hpi]; exact h3)
                rw [hpi] at hyes
                have ht : (itoa (-(pvV s.data.toList)) == s.toList) = true := by rw [ByteArray.toList_eq, h3]; simp
                have HT := Lib.hid ht
                have HY := Lib.hid hyes
                clear ht h3 hpi hyes hfull
                go_wp2_with (go_at_call 22; refine (sfi_any _ _ (by omega) (by omega)).mono ?_; rintro e w' ⟨rfl, hb⟩)
                all_goals first
                  | (exfalso; have hq : 10 < (s.size : Int) ∨ (!(itoa (-(pvV s.data.toList)) == s.toList)) = true := by assumption
                     rcases hq with hq | hq
                     · omega
                     · rw [HT.out] at hq; cases hq)
                  | (go_ret2; exact ⟨ret_pi HY.out, hb⟩)
              · have hno := pi_no (l := s.data.toList) (fun h => h3 (by rw [← hpi]; exact h.2.2))
                have ht : (itoa (-(pvV s.data.toList)) == s.toList) = false := by rw [ByteArray.toList_eq]; simpa using h3
                have HT := Lib.hid ht
                have HY := Lib.hid hno
                clear ht h3 hpi hno hfull
                go_wp2_with (go_at_call 22; refine (sfi_any _ _ (by omega) (by omega)).mono ?_; rintro e w' ⟨rfl, hb⟩)
                all_goals first
                  | (exfalso; have hq : (s.size : Int) ≤ 10 ∧ (!(itoa (-(pvV s.data.toList)) == s.toList)) = false := by assumption
                     have hq2 := hq.2; rw [HT.out] at hq2; cases hq2)
                  | (go_ret2; exact ⟨ret_pi HY.out, hb⟩)
        · have hng : isNeg s.data.toList = false := by rw [isNeg_at s hz]; simpa using hm
          have hm1 : ((s[0].toNat : Int) == 45) = false := by rw [u8_45]; simpa using hm
          clear hm
          by_cases h10 : 10 < s.size
          · have HY := Lib.hid (pi_no (l := s.data.toList) (fun h => by have := h.2.1; have e : s.data.toList.length = s.size := rfl; omega))
            by_cases hk9 : (9 : Int) < (pvK (s.data.toList.take i) : Int)
            · go_wp2
              all_goals (go_ret2; exact ⟨ret_pi HY.out, Below.refl _ _⟩)
            · go_wp2
              all_goals (go_ret2; exact ⟨ret_pi HY.out, Below.refl _ _⟩)
          · obtain rfl : i = s.size := by omega
            have hfull : s.data.toList.take s.size = s.data.toList := List.take_of_length_le (Nat.le_refl _)
            rw [hfull] at p0 p1 p2 ⊢
            by_cases hk9 : (9 : Int) < (pvK s.data.toList : Int)
            · have HY := Lib.hid (pi_no (l := s.data.toList) (fun h => by have := h.1; omega))
              go_wp2
              all_goals (go_ret2; exact ⟨ret_pi HY.out, Below.refl _ _⟩)
            · obtain ⟨q0, q1⟩ := pv_nine s (by omega)
              have hpi : piN s.data.toList = (pvV s.data.toList) := by unfold piN; rw [hng]; rfl
              by_cases h3 : itoa (pvV s.data.toList) = s.data.toList
              · have hyes := pi_yes (l := s.data.toList) (by omega) (by have e : s.data.toList.length = s.size := rfl; omega) (by rw [hpi]; exact h3)
                rw [hpi] at hyes
                have ht : (itoa (pvV s.data.toList) == s.toList) = true := by rw [ByteArray.toList_eq, h3]; simp
                have HT := Lib.hid ht
                have HY := Lib.hid hyes
                clear ht h3 hpi hyes hfull
                go_wp2_with (go_at_call 22; refine (sfi_any _ _ (by omega) (by omega)).mono ?_; rintro e w' ⟨rfl, hb⟩)
                all_goals first
                  | (exfalso; have hq : 10 < (s.size : Int) ∨ (!(itoa (pvV s.data.toList) == s.toList)) = true := by assumption
                     rcases hq with hq | hq
                     · omega
                     · rw [HT.out] at hq; cases hq)
                  | (go_ret2; exact ⟨ret_pi HY.out, hb⟩)
              · have hno := pi_no (l := s.data.toList) (fun h => h3 (by rw [← hpi]; exact h.2.2))
                have ht : (itoa (pvV s.data.toList) == s.toList) = false := by rw [ByteArray.toList_eq]; simpa using h3
                have HT := Lib.hid ht
                have HY := Lib.hid hno
                clear ht h3 hpi hno hfull
                go_wp2_with (go_at_call 22; refine (sfi_any _ _ (by omega) (by omega)).mono ?_; rintro e w' ⟨rfl, hb⟩)
                all_goals first
                  | (exfalso; have hq : (s.size : Int) ≤ 10 ∧ (!(itoa (pvV s.data.toList) == s.toList)) = false := by assumption
                     have hq2 := hq.2; rw [HT.out] at hq2; cases hq2)
                  | (go_ret2; exact ⟨ret_pi HY.out, hb⟩)
      · have hng : isNeg s.data.toList = false := isNeg_none s (by omega)
        have hz1 : ¬ (0 : Int) < (s.size : Int) := by omega
        by_cases h10 : 10 < s.size
        · have HY := Lib.hid (pi_no (l := s.data.toList) (fun h => by have := h.2.1; have e : s.data.toList.length = s.size := rfl; omega))
          by_cases hk9 : (9 : Int) < (pvK (s.data.toList.take i) : Int)
          · go_wp2
            all_goals (go_ret2; exact ⟨ret_pi HY.out, Below.refl _ _⟩)
          · go_wp2
            all_goals (go_ret2; exact ⟨ret_pi HY.out, Below.refl _ _⟩)
        · obtain rfl : i = s.size := by omega
          have hfull : s.data.toList.take s.size = s.data.toList := List.take_of_length_le (Nat.le_refl _)
          rw [hfull] at p0 p1 p2 ⊢
          by_cases hk9 : (9 : Int) < (pvK s.data.toList : Int)
          · have HY := Lib.hid (pi_no (l := s.data.toList) (fun h => by have := h.1; omega))
            go_wp2
            all_goals (go_ret2; exact ⟨ret_pi HY.out, Below.refl _ _⟩)
          · obtain ⟨q0, q1⟩ := pv_nine s (by omega)
            have hpi : piN s.data.toList = (pvV s.data.toList) := by unfold piN; rw [hng]; rfl
            by_cases h3 : itoa (pvV s.data.toList) = s.data.toList
            · have hyes := pi_yes (l := s.data.toList) (by omega) (by have e : s.data.toList.length = s.size := rfl; omega) (by rw [hpi]; exact h3)
              rw [hpi] at hyes
              have ht : (itoa (pvV s.data.toList) == s.toList) = true := by rw [ByteArray.toList_eq, h3]; simp
              have HT := Lib.hid ht
              have HY := Lib.hid hyes
              clear ht h3 hpi hyes hfull
              go_wp2_with (go_at_call 22; refine (sfi_any _ _ (by omega) (by omega)).mono ?_; rintro e w' ⟨rfl, hb⟩)
              all_goals first
                | (exfalso; have hq : 10 < (s.size : Int) ∨ (!(itoa (pvV s.data.toList) == s.toList)) = true := by assumption
                   rcases hq with hq | hq
                   · omega
                   · rw [HT.out] at hq; cases hq)
                | (go_ret2; exact ⟨ret_pi HY.out, hb⟩)
            · have hno := pi_no (l := s.data.toList) (fun h => h3 (by rw [← hpi]; exact h.2.2))
              have ht : (itoa (pvV s.data.toList) == s.toList) = false := by rw [ByteArray.toList_eq]; simpa using h3
              have HT := Lib.hid ht
              have HY := Lib.hid hno
              clear ht h3 hpi hno hfull
              go_wp2_with (go_at_call 22; refine (sfi_any _ _ (by omega) (by omega)).mono ?_; rintro e w' ⟨rfl, hb⟩)
              all_goals first
                | (exfalso; have hq : (s.size : Int) ≤ 10 ∧ (!(itoa (pvV s.data.toList) == s.toList)) = false := by assumption
                   have hq2 := hq.2; rw [HT.out] at hq2; cases hq2)
                | (go_ret2; exact ⟨ret_pi HY.out, hb⟩)

end Go.Proofs.YtlhajcfmlnomjaaDoor.C
