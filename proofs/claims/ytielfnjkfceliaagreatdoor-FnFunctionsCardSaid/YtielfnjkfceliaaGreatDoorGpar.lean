/-
  Plain mathematics of chapter 1 (decimal numerals read back). Nothing of the translation.
  The contract of spec.ParseInt.
  The contract of impl.ParseInt, and the law that compares it with spec.ParseInt.
-/
import Derived.Test.YtielfnjkfceliaaGreatDoorMathF
import Derived.Test.YtielfnjkfceliaaGreatDoorFmt
import Derived.Lib.OthersKept
import Derived.WalkSmall
namespace Go.Proofs.YtielfnjkfceliaaGreatDoor.M
open Go.Lib (decDigits itoa nDigits)
set_option linter.unusedVariables false

/-- Is a byte a decimal digit? -/
def isD (c : UInt8) : Bool := 48 ≤ c.toNat && c.toNat ≤ 57
theorem isD_iff (c : UInt8) : isD c = true ↔ 48 ≤ c.toNat ∧ c.toNat ≤ 57 := by simp [isD]

/-- The number that the digits among the bytes make, and how many digits there are. -/
def pvV (l : List UInt8) : Int := l.foldl (fun a c => if isD c then a * 10 + ((c.toNat : Int) - 48) else a) 0
def pvK (l : List UInt8) : Nat := (l.filter isD).length
theorem pvV_snoc (l : List UInt8) (c : UInt8) : pvV (l ++ [c]) = if isD c then pvV l * 10 + ((c.toNat : Int) - 48) else pvV l := by simp [pvV, List.foldl_append]
theorem pvK_snoc (l : List UInt8) (c : UInt8) : pvK (l ++ [c]) = if isD c then pvK l + 1 else pvK l := by
  unfold pvK
  rw [List.filter_append]
  cases h : isD c <;> simp [h]

theorem snoc_cases {α : Type} (l : List α) : l = [] ∨ ∃ l' c, l = l' ++ [c] := by
  rcases List.eq_nil_or_concat l with h | ⟨a, b, h⟩
  · exact .inl h
  · exact .inr ⟨a, b, by rw [h]; simp⟩

theorem pv_bd (n : Nat) : ∀ l : List UInt8, l.length = n → 0 ≤ pvV l ∧ pvV l < 10 ^ pvK l ∧ pvK l ≤ n := by
  induction n with
  | zero =>
    intro l h
    have : l = [] := List.eq_nil_of_length_eq_zero h
    subst this
    exact ⟨by decide, by decide, by decide⟩
  | succ n ih =>
    intro l h
    rcases snoc_cases l with rfl | ⟨l', c, rfl⟩
    · simp at h
    · obtain ⟨a, b, d⟩ := ih l' (by simpa using h)
      rw [pvV_snoc, pvK_snoc]
      by_cases hc : isD c = true
      · have := (isD_iff c).1 hc
        have e : (10 : Int) ^ (pvK l' + 1) = 10 ^ pvK l' * 10 := Int.pow_succ ..
        rw [if_pos hc, if_pos hc]
        omega
      · rw [if_neg hc, if_neg hc]
        omega

theorem pow10_le {a b : Nat} (h : a ≤ b) : (10 : Int) ^ a ≤ 10 ^ b := by
  have := Nat.pow_le_pow_right (n := 10) (by decide) h
  exact_mod_cast this

/-- The digits of a numeral are digits. -/
theorem dgt_isD (d : Nat) (h : d < 10) : isD (dgt d) = true ∧ ((dgt d).toNat : Int) = 48 + (d : Int) := by
  have : (dgt d).toNat = (48 + d) % 256 := UInt8.toNat_ofNat'
  exact ⟨(isD_iff _).2 (by omega), by omega⟩
theorem dec_snoc (m : Nat) : decDigits m = (if m < 10 then [] else decDigits (m / 10)) ++ [dgt (m % 10)] := by
  rw [decDigits]
  by_cases h : m < 10
  · rw [dif_pos h, if_pos h, Nat.mod_eq_of_lt h]; rfl
  · rw [dif_neg h, if_neg h]; rfl
theorem dec_read (m : Nat) : pvV (decDigits m) = (m : Int) ∧ pvK (decDigits m) = (decDigits m).length ∧ ∀ c ∈ decDigits m, isD c = true := by
  induction m using Nat.strongRecOn with
  | ind m ih =>
    obtain ⟨h1, h2⟩ := dgt_isD (m % 10) (by omega)
    rw [dec_snoc m]
    by_cases h : m < 10
    · rw [if_pos h, pvV_snoc, pvK_snoc, if_pos h1, if_pos h1]
      refine ⟨?_, by simp [pvK], by simpa using h1⟩
      rw [h2]
      simp [pvV]
      omega
    · obtain ⟨a, b, c⟩ := ih (m / 10) (by omega)
      rw [if_neg h, pvV_snoc, pvK_snoc, if_pos h1, if_pos h1, a, b, h2]
      refine ⟨by omega, by simp, ?_⟩
      intro x hx
      rcases List.mem_append.1 hx with hx | hx
      · exact c x hx
      · have : x = dgt (m % 10) := by simpa using hx
        rw [this]; exact h1
theorem dec_ne (m : Nat) : decDigits m ≠ [] := by rw [dec_snoc]; simp

/-- Does a text open with a minus? -/
def isNeg (l : List UInt8) : Bool := match l with
  | c :: _ => c == 45
  | [] => false
theorem itoa_read (n : Int) : (isNeg (itoa n) = true ↔ n < 0) ∧ pvV (itoa n) = (n.natAbs : Int) ∧ pvK (itoa n) + (if isNeg (itoa n) then 1 else 0) = (itoa n).length ∧
    (∀ c ∈ (if isNeg (itoa n) then (itoa n).drop 1 else itoa n), isD c = true) := by
  have nd : isD 45 = false := by decide
  by_cases h : n < 0
  · have e : itoa n = 45 :: decDigits n.natAbs := by unfold itoa; rw [if_pos h]
    obtain ⟨a, b, c⟩ := dec_read n.natAbs
    have i : isNeg (45 :: decDigits n.natAbs) = true := rfl
    rw [e, i]
    refine ⟨⟨fun _ => h, fun _ => rfl⟩, ?_, ?_, by simpa using c⟩
    · rw [← a]; simp [pvV, nd]
    · simp only [pvK, List.filter_cons, nd] at b ⊢
      simp at b ⊢
      omega
  · have e : itoa n = decDigits n.toNat := by unfold itoa; rw [if_neg h]
    obtain ⟨a, b, c⟩ := dec_read n.toNat
    have i : isNeg (decDigits n.toNat) = false := by
      cases hl : decDigits n.toNat with
      | nil => rfl
      | cons x r =>
        have := c x (by rw [hl]; simp)
        have := (isD_iff x).1 this
        show (x == 45) = false
        rw [beq_eq_false_iff_ne]
        intro e2
        subst e2
        revert this; decide
    rw [e, i]
    refine ⟨⟨fun h2 => by simp at h2, fun h2 => absurd h2 h⟩, by rw [a]; omega, by simpa using b, by simpa using c⟩

/-- What ParseInt finds in a text. -/
def piN (l : List UInt8) : Int := if isNeg l then -(pvV l) else pvV l
/-- Is the text a numeral of at most nine digits? -/
def piB (l : List UInt8) : Bool := decide (pvK l ≤ 9 ∧ l.length ≤ 10 ∧ itoa (piN l) = l)
def piR (l : List UInt8) : Int := if piB l then piN l else 0
theorem pi_yes {l : List UInt8} (h1 : pvK l ≤ 9) (h2 : l.length ≤ 10) (h3 : itoa (piN l) = l) : piB l = true ∧ piR l = piN l := by
  have : piB l = true := decide_eq_true ⟨h1, h2, h3⟩
  exact ⟨this, by unfold piR; rw [this]; rfl⟩
theorem pi_no {l : List UInt8} (h : ¬ (pvK l ≤ 9 ∧ l.length ≤ 10 ∧ itoa (piN l) = l)) : piB l = false ∧ piR l = 0 := by
  have : piB l = false := decide_eq_false h
  exact ⟨this, by unfold piR; rw [this]; rfl⟩

/-- What a text that is accepted looks like. -/
theorem pi_form {l : List UInt8} (h : pvK l ≤ 9 ∧ l.length ≤ 10 ∧ itoa (piN l) = l) :
    (∀ c ∈ (if isNeg l then l.drop 1 else l), isD c = true) ∧ (if isNeg l then l.drop 1 else l).length ≤ 9 := by
  obtain ⟨h1, h2, h3⟩ := h
  obtain ⟨_, _, c, d⟩ := itoa_read (piN l)
  rw [h3] at c d
  refine ⟨d, ?_⟩
  split at c
  · rename_i hn; rw [if_pos hn]; simp; omega
  · rename_i hn; rw [if_neg hn]; omega

end Go.Proofs.YtielfnjkfceliaaGreatDoor.M

namespace Go.Proofs.YtielfnjkfceliaaGreatDoor.C
open Go.RowKit M K
open Go.Lib (decDigits itoa nDigits)
set_option linter.unusedVariables false

theorem ret_pi {l : List UInt8} {v : Int} {b : Bool} (h : piB l = b ∧ piR l = v) : Ending.returned (.tuple #[.int .i64 v, .bool b]) = .returned (.tuple #[.int .i64 (piR l), .bool (piB l)]) := by
  rw [h.1, h.2]

theorem isNeg_at (s : ByteArray) (h : 0 < s.size) : isNeg s.data.toList = (s[0] == 45) := by
  have e : s.data.toList.length = s.size := rfl
  have g : s.data.toList[0]? = some s[0] := by rw [List.getElem?_eq_getElem (by omega)]; rfl
  cases hl : s.data.toList with
  | nil => rw [hl] at e; simp at e; omega
  | cons c r =>
    rw [hl] at g
    have : c = s[0] := by simpa using g
    rw [← this]; rfl
theorem isNeg_none (s : ByteArray) (h : s.size = 0) : isNeg s.data.toList = false := by
  have e : s.data.toList = [] := List.eq_nil_of_length_eq_zero h
  rw [e]; rfl
theorem u8_45 (c : UInt8) : ((c.toNat : Int) == 45) = (c == 45) := by
  rw [Bool.eq_iff_iff]
  simp only [beq_iff_eq]
  constructor
  · intro h
    have h2 : c.toNat = (45 : UInt8).toNat := by show c.toNat = 45; omega
    exact UInt8.toNat_inj.1 h2
  · intro h; subst h; rfl

theorem pv_take (s : ByteArray) (i : Nat) (hi : i < s.size) : (48 ≤ (s[i].toNat : Int) → (s[i].toNat : Int) ≤ 57 → pvV (s.data.toList.take (i + 1)) = pvV (s.data.toList.take i) * 10 + ((s[i].toNat : Int) - 48) ∧ pvK (s.data.toList.take (i + 1)) = pvK (s.data.toList.take i) + 1) ∧
    ((s[i].toNat : Int) < 48 ∨ 57 < (s[i].toNat : Int) → pvV (s.data.toList.take (i + 1)) = pvV (s.data.toList.take i) ∧ pvK (s.data.toList.take (i + 1)) = pvK (s.data.toList.take i)) := by
  rw [take_snoc s i hi, pvV_snoc, pvK_snoc]
  constructor
  · intro a b
    have : isD s[i] = true := (isD_iff _).2 (by omega)
    rw [if_pos this, if_pos this]; exact ⟨rfl, rfl⟩
  · intro a
    have : ¬ isD s[i] = true := fun h => by have := (isD_iff _).1 h; omega
    rw [if_neg this, if_neg this]; exact ⟨rfl, rfl⟩

theorem pv_take_bd (s : ByteArray) (i : Nat) (h11 : i ≤ 11) (hi : i ≤ s.size) : 0 ≤ pvV (s.data.toList.take i) ∧ pvV (s.data.toList.take i) ≤ 99999999999 ∧ pvK (s.data.toList.take i) ≤ 11 := by
  have e : s.data.toList.length = s.size := rfl
  obtain ⟨a, b, c⟩ := pv_bd i (s.data.toList.take i) (by rw [List.length_take]; omega)
  have := pow10_le (show pvK (s.data.toList.take i) ≤ 11 by omega)
  have e11 : (10 : Int) ^ 11 = 100000000000 := by decide
  exact ⟨a, by omega, by omega⟩

theorem pv_nine (s : ByteArray) (h : pvK s.data.toList ≤ 9) : 0 ≤ pvV s.data.toList ∧ pvV s.data.toList ≤ 999999999 := by
  obtain ⟨a, b, c⟩ := pv_bd s.data.toList.length s.data.toList rfl
  have := pow10_le h
  have e9 : (10 : Int) ^ 9 = 1000000000 := by decide
  exact ⟨a, by omega⟩

set_option maxRecDepth 100000 in
set_option maxHeartbeats 3200000 in
theorem spi_any (s : ByteArray) (w : World) (h4 : s.size ≤ 1048576) :
    Calls Tryz.prog 61 #[.string s] w fun e w' => e = .returned (.tuple #[.int .i64 (piR s.data.toList), .bool (piB s.data.toList)]) ∧ Below w.heap.size w w' := by
  go_enter Tryz.func61, Tryz.ntmps61
  go_wp2
  go_loop [4, 5, 6] (fun v k c => ∃ i : Nat, i ≤ 11 ∧ i ≤ s.size ∧ c = .int .i64 i ∧ v = .int .i64 (pvV (s.data.toList.take i)) ∧ k = .int .i64 (pvK (s.data.toList.take i))) (fun _ _ c => 11 - (intOf c).toNat)
  case atStart => exact ⟨0, by omega, by omega, rfl, rfl, rfl⟩
  case round =>
    obtain ⟨i, hi11, his, rfl, rfl, rfl⟩ := hrel
    obtain ⟨p0, p1, p2⟩ := pv_take_bd s i hi11 his
    by_cases hlt : i < s.size ∧ i < 11
    · obtain ⟨hl1, hl2⟩ := hlt
      obtain ⟨a1, a2⟩ := pv_take s i hl1
      have A1 := Lib.hid a1
      have A2 := Lib.hid a2
      clear a1 a2
      have hc255 : (s[i].toNat : Int) ≤ 255 := by have := s[i].toNat_lt; omega
      by_cases h48 : 48 ≤ (s[i].toNat : Int)
      · by_cases h57 : (s[i].toNat : Int) ≤ 57
        · go_wp2
          go_round
          case rel => exact ⟨i + 1, by omega, by omega, by go_num, by rw [(A1.out h48 h57).1], by rw [(A1.out h48 h57).2]; go_num⟩
          case measure => simp [intOf]; omega
        · go_wp2
          go_round
          case rel => exact ⟨i + 1, by omega, by omega, by go_num, by rw [(A2.out (by omega)).1], by rw [(A2.out (by omega)).2]⟩
          case measure => simp [intOf]; omega
      · go_wp2
        go_round
        case rel => exact ⟨i + 1, by omega, by omega, by go_num, by rw [(A2.out (by omega)).1], by rw [(A2.out (by omega)).2]⟩
        case measure => simp [intOf]; omega
    · have hi2 : i = s.size ∨ i = 11 := by omega
      clear hlt
      by_cases hz : 0 < s.size
      · have hz1 : (0 : Int) < (s.size : Int) := by omega
        by_cases hm : (s[0] == 45) = true
        · have hng : isNeg s.data.toList = true := by rw [isNeg_at s hz]; exact hm
          have hm1 : ((s[0].toNat : Int) == 45) = true := by rw [u8_45]; exact hm
          clear hm
          by_cases h10 : 10 < s.size
          · have HY := Lib.hid (pi_no (l := s.data.toList) (fun h => by have := h.2.1; have e : s.data.toList.length = s.size := rfl; omega))
            by_cases hk9 : (9 : Int) < (pvK (s.data.toList.take i) : Int)
            · go_wp2
              all_goals (go_ret2; exact ⟨ret_pi HY.out, Below.refl _ _⟩)
            · go_wp2
              all_goals (go_ret2; exact ⟨ret_pi HY.out, Below.refl _ _⟩)
          · obtain rfl : i = s.size := by omega
            have hfull : s.data.toList.take s.size = s.data.toList := List.take_of_length_le (Nat.le_refl _)
            rw [hfull] at p0 p1 p2 ⊢
            by_cases hk9 : (9 : Int) < (pvK s.data.toList : Int)
            · have HY := Lib.hid (pi_no (l := s.data.toList) (fun h => by have := h.1; omega))
              go_wp2
              all_goals (go_ret2; exact ⟨ret_pi HY.out, Below.refl _ _⟩)
            · obtain ⟨q0, q1⟩ := pv_nine s (by omega)
              have hpi : piN s.data.toList = (-(pvV s.data.toList)) := by unfold piN; rw [hng]; rfl
              by_cases h3 : itoa (-(pvV s.data.toList)) = s.data.toList
              · have hyes := pi_yes (l := s.data.toList) (by omega) (by have e : s.data.toList.length = s.size := rfl; omega) (by rw [hpi]; exact h3)
                rw [hpi] at hyes
                have ht : (itoa (-(pvV s.data.toList)) == s.toList) = true := by rw [ByteArray.toList_eq, h3]; simp
                have HT := Lib.hid ht
                have HY := Lib.hid hyes
                clear ht h3 hpi hyes hfull
                go_wp2_with (go_at_call 49; refine (sfi_any _ _ (by omega) (by omega)).mono ?_; rintro e w' ⟨rfl, hb⟩)
                all_goals first
                  | (exfalso; have hq : 10 < (s.size : Int) ∨ (!(itoa (-(pvV s.data.toList)) == s.toList)) = true := by assumption
                     rcases hq with hq | hq
                     · omega
                     · rw [HT.out] at hq; cases hq)
                  | (go_ret2; exact ⟨ret_pi HY.out, hb⟩)
              · have hno := pi_no (l := s.data.toList) (fun h => h3 (by rw [← hpi]; exact h.2.2))
                have ht : (itoa (-(pvV s.data.toList)) == s.toList) = false := by rw [ByteArray.toList_eq]; simpa using h3
                have HT := Lib.hid ht
                have HY := Lib.hid hno
                clear ht h3 hpi hno hfull
                go_wp2_with (go_at_call 49; refine (sfi_any _ _ (by omega) (by omega)).mono ?_; rintro e w' ⟨rfl, hb⟩)
                all_goals first
                  | (exfalso; have hq : (s.size : Int) ≤ 10 ∧ (!(itoa (-(pvV s.data.toList)) == s.toList)) = false := by assumption
                     have hq2 := hq.2; rw [HT.out] at hq2; cases hq2)
                  | (go_ret2; exact ⟨ret_pi HY.out, hb⟩)
        · have hng : isNeg s.data.toList = false := by rw [isNeg_at s hz]; simpa using hm
          have hm1 : ((s[0].toNat : Int) == 45) = false := by rw [u8_45]; simpa using hm
          clear hm
          by_cases h10 : 10 < s.size
          · have HY := Lib.hid (pi_no (l := s.data.toList) (fun h => by have := h.2.1; have e : s.data.toList.length = s.size := rfl; omega))
            by_cases hk9 : (9 : Int) < (pvK (s.data.toList.take i) : Int)
            · go_wp2
              all_goals (go_ret2; exact ⟨ret_pi HY.out, Below.refl _ _⟩)
            · go_wp2
              all_goals (go_ret2; exact ⟨ret_pi HY.out, Below.refl _ _⟩)
          · obtain rfl : i = s.size := by omega
            have hfull : s.data.toList.take s.size = s.data.toList := List.take_of_length_le (Nat.le_refl _)
            rw [hfull] at p0 p1 p2 ⊢
            by_cases hk9 : (9 : Int) < (pvK s.data.toList : Int)
            · have HY := Lib.hid (pi_no (l := s.data.toList) (fun h => by have := h.1; omega))
              go_wp2
              all_goals (go_ret2; exact ⟨ret_pi HY.out, Below.refl _ _⟩)
            · obtain ⟨q0, q1⟩ := pv_nine s (by omega)
              have hpi : piN s.data.toList = (pvV s.data.toList) := by unfold piN; rw [hng]; rfl
              by_cases h3 : itoa (pvV s.data.toList) = s.data.toList
              · have hyes := pi_yes (l := s.data.toList) (by omega) (by have e : s.data.toList.length = s.size := rfl; omega) (by rw [hpi]; exact h3)
                rw [hpi] at hyes
                have ht : (itoa (pvV s.data.toList) == s.toList) = true := by rw [ByteArray.toList_eq, h3]; simp
                have HT := Lib.hid ht
                have HY := Lib.hid hyes
                clear ht h3 hpi hyes hfull
                go_wp2_with (go_at_call 49; refine (sfi_any _ _ (by omega) (by omega)).mono ?_; rintro e w' ⟨rfl, hb⟩)
                all_goals first
                  | (exfalso; have hq : 10 < (s.size : Int) ∨ (!(itoa (pvV s.data.toList) == s.toList)) = true := by assumption
                     rcases hq with hq | hq
                     · omega
                     · rw [HT.out] at hq; cases hq)
                  | (go_ret2; exact ⟨ret_pi HY.out, hb⟩)
              · have hno := pi_no (l := s.data.toList) (fun h => h3 (by rw [← hpi]; exact h.2.2))
                have ht : (itoa (pvV s.data.toList) == s.toList) = false := by rw [ByteArray.toList_eq]; simpa using h3
                have HT := Lib.hid ht
                have HY := Lib.hid hno
                clear ht h3 hpi hno hfull
                go_wp2_with (go_at_call 49; refine (sfi_any _ _ (by omega) (by omega)).mono ?_; rintro e w' ⟨rfl, hb⟩)
                all_goals first
                  | (exfalso; have hq : (s.size : Int) ≤ 10 ∧ (!(itoa (pvV s.data.toList) == s.toList)) = false := by assumption
                     have hq2 := hq.2; rw [HT.out] at hq2; cases hq2)
                  | (go_ret2; exact ⟨ret_pi HY.out, hb⟩)
      · have hng : isNeg s.data.toList = false := isNeg_none s (by omega)
        have hz1 : ¬ (0 : Int) < (s.size : Int) := by omega
        by_cases h10 : 10 < s.size
        · have HY := Lib.hid (pi_no (l := s.data.toList) (fun h => by have := h.2.1; have e : s.data.toList.length = s.size := rfl; omega))
          by_cases hk9 : (9 : Int) < (pvK (s.data.toList.take i) : Int)
          · go_wp2
            all_goals (go_ret2; exact ⟨ret_pi HY.out, Below.refl _ _⟩)
          · go_wp2
            all_goals (go_ret2; exact ⟨ret_pi HY.out, Below.refl _ _⟩)
        · obtain rfl : i = s.size := by omega
          have hfull : s.data.toList.take s.size = s.data.toList := List.take_of_length_le (Nat.le_refl _)
          rw [hfull] at p0 p1 p2 ⊢
          by_cases hk9 : (9 : Int) < (pvK s.data.toList : Int)
          · have HY := Lib.hid (pi_no (l := s.data.toList) (fun h => by have := h.1; omega))
            go_wp2
            all_goals (go_ret2; exact ⟨ret_pi HY.out, Below.refl _ _⟩)
          · obtain ⟨q0, q1⟩ := pv_nine s (by omega)
            have hpi : piN s.data.toList = (pvV s.data.toList) := by unfold piN; rw [hng]; rfl
            by_cases h3 : itoa (pvV s.data.toList) = s.data.toList
            · have hyes := pi_yes (l := s.data.toList) (by omega) (by have e : s.data.toList.length = s.size := rfl; omega) (by rw [hpi]; exact h3)
              rw [hpi] at hyes
              have ht : (itoa (pvV s.data.toList) == s.toList) = true := by rw [ByteArray.toList_eq, h3]; simp
              have HT := Lib.hid ht
              have HY := Lib.hid hyes
              clear ht h3 hpi hyes hfull
              go_wp2_with (go_at_call 49; refine (sfi_any _ _ (by omega) (by omega)).mono ?_; rintro e w' ⟨rfl, hb⟩)
              all_goals first
                | (exfalso; have hq : 10 < (s.size : Int) ∨ (!(itoa (pvV s.data.toList) == s.toList)) = true := by assumption
                   rcases hq with hq | hq
                   · omega
                   · rw [HT.out] at hq; cases hq)
                | (go_ret2; exact ⟨ret_pi HY.out, hb⟩)
            · have hno := pi_no (l := s.data.toList) (fun h => h3 (by rw [← hpi]; exact h.2.2))
              have ht : (itoa (pvV s.data.toList) == s.toList) = false := by rw [ByteArray.toList_eq]; simpa using h3
              have HT := Lib.hid ht
              have HY := Lib.hid hno
              clear ht h3 hpi hno hfull
              go_wp2_with (go_at_call 49; refine (sfi_any _ _ (by omega) (by omega)).mono ?_; rintro e w' ⟨rfl, hb⟩)
              all_goals first
                | (exfalso; have hq : (s.size : Int) ≤ 10 ∧ (!(itoa (pvV s.data.toList) == s.toList)) = false := by assumption
                   have hq2 := hq.2; rw [HT.out] at hq2; cases hq2)
                | (go_ret2; exact ⟨ret_pi HY.out, hb⟩)

end Go.Proofs.YtielfnjkfceliaaGreatDoor.C

namespace Go.Proofs.YtielfnjkfceliaaGreatDoor.C
open Go.RowKit M K
open Go.Lib (decDigits itoa nDigits)
set_option linter.unusedVariables false

/-- The text behind its sign. -/
def Tail (D : ByteArray) (l : List UInt8) : Prop := D.data.toList = if isNeg l then l.drop 1 else l

theorem tail_no {D : ByteArray} {l : List UInt8} (h : Tail D l) (p : Nat) (hp : p < D.size) (hd : isD D[p] = false) : piB l = false ∧ piR l = 0 :=
  pi_no (fun g => by
    have := (pi_form g).1 D[p] (by rw [← h]; exact List.getElem_mem (l := D.data.toList) (n := p) hp)
    rw [hd] at this; cases this)
theorem tail_long {D : ByteArray} {l : List UInt8} (h : Tail D l) (hp : 9 < D.size) : piB l = false ∧ piR l = 0 :=
  pi_no (fun g => by
    have := (pi_form g).2
    rw [← h] at this
    have e : D.data.toList.length = D.size := rfl
    omega)
theorem tail_all {D : ByteArray} {l : List UInt8} (h : Tail D l) (ha : ∀ p (hp : p < D.size), isD D[p] = true) (h9 : D.size ≤ 9) : pvV l = pvV D.data.toList ∧ pvK l ≤ 9 ∧ l.length ≤ 10 := by
  have e : D.data.toList.length = D.size := rfl
  have hall : ∀ c ∈ D.data.toList, isD c = true := fun c hc => by
    obtain ⟨p, hp, rfl⟩ := List.getElem_of_mem hc
    exact ha p hp
  have hk : pvK D.data.toList ≤ 9 := by have := (pv_bd _ D.data.toList rfl).2.2; omega
  have nd : isD 45 = false := by decide
  unfold Tail at h
  cases l with
  | nil => rw [h]; exact ⟨rfl, by decide, by decide⟩
  | cons c r =>
    by_cases hn : isNeg (c :: r) = true
    · rw [if_pos hn] at h
      have hc : c = 45 := by simpa [isNeg] using hn
      subst hc
      have hr : r = D.data.toList := by simpa using h.symm
      rw [← hr] at hk e ⊢
      refine ⟨by simp [pvV, nd], ?_, by simp; omega⟩
      simpa [pvK, List.filter_cons, nd] using hk
    · rw [if_neg hn] at h
      rw [h] at hk e ⊢
      exact ⟨rfl, hk, by omega⟩

theorem digit_range (x : Int) (h : ¬ (48 ≤ x ∧ x ≤ 57)) : hv x < 0 ∨ 9 < hv x := by
  unfold hv; rw [if_neg h]; split <;> omega
theorem digit_worth (x : Int) (h : 48 ≤ x ∧ x ≤ 57) : hv x = x - 48 := by unfold hv; rw [if_pos h]

theorem pv_small (D : ByteArray) (p : Nat) (h9 : D.size ≤ 9) (hp : p ≤ D.size) : 0 ≤ pvV (D.data.toList.take p) ∧ pvV (D.data.toList.take p) ≤ 999999999 := by
  have e : D.data.toList.length = D.size := rfl
  obtain ⟨a, b, c⟩ := pv_bd p (D.data.toList.take p) (by rw [List.length_take]; omega)
  have := pow10_le (show pvK (D.data.toList.take p) ≤ 9 by omega)
  have e9 : (10 : Int) ^ 9 = 1000000000 := by decide
  exact ⟨a, by omega⟩

theorem isD_false {c : UInt8} (h : ¬ (48 ≤ (c.toNat : Int) ∧ (c.toNat : Int) ≤ 57)) : isD c = false := by
  have := isD_iff c
  cases hc : isD c with
  | false => rfl
  | true => have := this.1 hc; omega

theorem isNeg_pos_tail (s : ByteArray) (h : 0 < s.size) (hn : isNeg s.data.toList = true) : Tail (s.extract 1 s.size) s.data.toList := by
  unfold Tail
  rw [if_pos hn]
  simp [ByteArray.data_extract]
  exact List.take_of_length_le (by have e : s.data.toList.length = s.size := rfl
                                   rw [List.length_tail]; omega)
theorem isNeg_no_tail (s : ByteArray) (hn : isNeg s.data.toList = false) : Tail s s.data.toList := by
  unfold Tail; rw [if_neg (by rw [hn]; simp)]

set_option maxRecDepth 100000 in
set_option maxHeartbeats 1600000 in
theorem ipi_neg (s : ByteArray) (w : World) (h4 : s.size ≤ 1048576) (HT : Hid (Tab w)) (hz : 0 < s.size) (hm : (s[0] == 45) = true) :
    Calls Tryz.prog 48 #[.string s] w fun e w' => e = .returned (.tuple #[.int .i64 (piR s.data.toList), .bool (piB s.data.toList)]) ∧ Below w.heap.size w w' := by
  have hng : isNeg s.data.toList = true := by rw [isNeg_at s hz]; exact hm
  have hm1 : ((s[0].toNat : Int) == 45) = true := by rw [u8_45]; exact hm
  have hne : (s.toList.isEmpty) = false := by rw [ByteArray.toList_eq]; cases hl : s.data.toList with
    | nil => have e : s.data.toList.length = s.size := rfl
             rw [hl] at e; simp at e; omega
    | cons _ _ => rfl
  have HTL := Lib.hid (isNeg_pos_tail s hz hng)
  have HNG := Lib.hid hng
  clear hm hng
  obtain ⟨D, hD⟩ : ∃ D, s.extract 1 s.size = D := ⟨_, rfl⟩
  have hz1 : (1 : Int) ≤ (s.size : Int) := by omega
  have hz2 : 1 ≤ s.size := by omega
  rw [hD] at HTL
  by_cases h9 : 9 < D.size
  · have hlong := Lib.hid (tail_long HTL.out h9)
    have h9i : (9 : Int) < (D.size : Int) := by omega
    go_enter Tryz.func48, Tryz.ntmps48
    go_wp2
    all_goals (go_ret2; exact ⟨ret_pi hlong.out, Below.refl _ _⟩)
  · have h9i : decide ((9 : Int) < (D.size : Int)) = false := by simp; omega
    have h9n : D.size ≤ 9 := by omega
    clear h9
    go_enter Tryz.func48, Tryz.ntmps48
    go_wp2
    go_loopw [6, 8, 9] (fun v _ _ wr => ∃ pos : Nat, pos ≤ D.size ∧ (∀ p (hp : p < D.size), p < pos → isD D[p] = true) ∧ wr.heap[w.heap.size]? = some (.stringIter D pos) ∧ v = .int .i64 (pvV (D.data.toList.take pos)) ∧ Below w.heap.size w wr) (fun _ _ _ wr => D.size - wr.iterPos w.heap.size)
    case atStart => exact ⟨0, Nat.zero_le _, fun p _ h => absurd h (by omega), World.iter_heap w D 0, rfl, (Below.refl _ _).alloc (Nat.le_refl _) _⟩
    case round =>
      obtain ⟨pos, hpos, hall, hit, rfl, hb⟩ := hrel
      have HALL := Lib.hid hall
      have HIT := Lib.hid hit
      have HPOS := Lib.hid (iterPos_of hit)
      clear hall
      obtain ⟨p0, p1⟩ := pv_small D pos h9n hpos
      by_cases hlt : pos < D.size
      · have E1 := Lib.hid ((pv_take D pos hlt).1)
        by_cases ha : D[pos].toNat < 128
        · have hnx : ∀ ty, (Instr.next (.pointer (some ⟨w.heap.size, 0, none⟩)) true ty).run Tryz.prog wr = _ := fun ty => Lib.run_next_ascii_at wr w.heap.size D pos ty hit hlt ha
          clear hit
          have hit1 := Lib.iterAt_heap wr w.heap.size D pos (pos + 1) HIT.out
          have hb1 := Lib.below_iterAt hb (k := w.heap.size) (by omega) D (pos + 1)
          have hdb := hv_bd (D[pos].toNat : Int)
          go_wp2_with fail
          generalize wr.iterAt w.heap.size D (pos + 1) = wn at hit1 hb1 ⊢
          clear hnx hb HIT
          have HIT1 := Lib.hid hit1
          clear hit1
          by_cases hd : 48 ≤ (D[pos].toNat : Int) ∧ (D[pos].toNat : Int) ≤ 57
          · have hw := digit_worth _ hd
            have hd0 : 0 ≤ hv (D[pos].toNat : Int) := by omega
            have hd9 : hv (D[pos].toNat : Int) ≤ 9 := by omega
            have HW := Lib.hid hw
            have HD := Lib.hid hd
            clear hw hd
            refine (digitOf_any _ _ (by omega) (by omega)).mono ?_
            rintro e w' ⟨rfl, rfl⟩
            go_wp2
            go_roundw
            case rel =>
              refine ⟨pos + 1, by omega, ?_, HIT1.out, ?_, hb1⟩
              · intro p hp hpp
                rcases Nat.lt_or_ge p pos with l | l
                · exact HALL.out p hp l
                · obtain rfl : p = pos := by omega
                  exact (isD_iff _).2 (by have := HD.out; omega)
              · rw [(E1.out HD.out.1 HD.out.2).1, HW.out]; congr 1; omega
            case measure => rw [HPOS.out, iterPos_of HIT1.out]; omega
          · have hr := digit_range _ hd
            have HNO := Lib.hid (tail_no HTL.out pos hlt (isD_false hd))
            clear hd
            refine (digitOf_any _ _ (by omega) (by omega)).mono ?_
            rintro e w' ⟨rfl, rfl⟩
            rcases hr with hr | hr
            · go_wp2
              go_ret2
              exact ⟨ret_pi HNO.out, hb1⟩
            · have hr0 : 0 ≤ hv (D[pos].toNat : Int) := by omega
              go_wp2
              go_ret2
              exact ⟨ret_pi HNO.out, hb1⟩
        · have ha2 : 128 ≤ D[pos].toNat := by omega
          obtain ⟨r1, r2⟩ := decode_high D pos hlt ha2
          have hnx : ∀ ty, (Instr.next (.pointer (some ⟨w.heap.size, 0, none⟩)) true ty).run Tryz.prog wr = _ := fun ty => Lib.run_next_any_at wr w.heap.size D pos ty hit hlt
          have r3 := decode_le D pos
          have hb1 := Lib.below_iterAt hb (k := w.heap.size) (by omega) D (pos + (Utf8.decode D pos).2)
          clear hit ha
          have hneg : hv ((Utf8.decode D pos).1 : Int) = -1 := hv_high _ (by omega)
          have hd0 : hv ((Utf8.decode D pos).1 : Int) < 0 := by omega
          clear hneg
          have HNO := Lib.hid (tail_no HTL.out pos hlt (isD_false (by omega)))
          go_wp2_with fail
          generalize wr.iterAt w.heap.size D (pos + (Utf8.decode D pos).2) = wn at hb1 ⊢
          refine (digitOf_any _ _ (by omega) (by omega)).mono ?_
          rintro e w' ⟨rfl, rfl⟩
          clear hnx
          go_wp2
          go_ret2
          exact ⟨ret_pi HNO.out, hb1⟩
      · have hnx : ∀ ty, (Instr.next (.pointer (some ⟨w.heap.size, 0, none⟩)) true ty).run Tryz.prog wr = _ := fun ty => Lib.run_next_end_at wr w.heap.size D pos ty hit hlt
        obtain rfl : pos = D.size := by omega
        have hfull : D.data.toList.take D.size = D.data.toList := List.take_of_length_le (Nat.le_refl _)
        rw [hfull] at p0 p1 ⊢
        obtain ⟨g1, g2, g3⟩ := tail_all HTL.out (fun p hp => HALL.out p hp hp) h9n
        have hpi : piN s.data.toList = (-(pvV D.data.toList)) := by unfold piN; rw [HNG.out, g1]; rfl
        have HTB := Lib.hid (tab_on HT.out hb)
        by_cases h3 : itoa (-(pvV D.data.toList)) = s.data.toList
        · have hyes := pi_yes g2 g3 (by rw [hpi]; exact h3)
          rw [hpi] at hyes
          have ht : (itoa (-(pvV D.data.toList)) == s.toList) = true := by rw [ByteArray.toList_eq, h3]; simp
          have HQ := Lib.hid ht
          have HY := Lib.hid hyes
          clear ht h3 hpi hyes hfull g1 g2 g3 hit
          go_wp2_with (go_at_call 44; refine (ifi_any _ _ (by omega) (by omega) HTB).mono ?_; rintro e w' ⟨rfl, hb2⟩)
          all_goals first
            | (exfalso; have hq : (!(itoa (-(pvV D.data.toList)) == s.toList)) = true := by assumption
               rw [HQ.out] at hq; cases hq)
            | (go_ret2; exact ⟨ret_pi HY.out, below_two hb hb2⟩)
        · have hno := pi_no (l := s.data.toList) (fun h => h3 (by rw [← hpi]; exact h.2.2))
          have ht : (itoa (-(pvV D.data.toList)) == s.toList) = false := by rw [ByteArray.toList_eq]; simpa using h3
          have HQ := Lib.hid ht
          have HY := Lib.hid hno
          clear ht h3 hpi hno hfull g1 g2 g3 hit
          go_wp2_with (go_at_call 44; refine (ifi_any _ _ (by omega) (by omega) HTB).mono ?_; rintro e w' ⟨rfl, hb2⟩)
          all_goals first
            | (exfalso; have hq : (!(itoa (-(pvV D.data.toList)) == s.toList)) = false := by assumption
               rw [HQ.out] at hq; cases hq)
            | (go_ret2; exact ⟨ret_pi HY.out, below_two hb hb2⟩)

set_option maxRecDepth 100000 in
set_option maxHeartbeats 1600000 in
theorem ipi_pos (s : ByteArray) (w : World) (h4 : s.size ≤ 1048576) (HT : Hid (Tab w)) (hz : 0 < s.size) (hm : (s[0] == 45) = false) :
    Calls Tryz.prog 48 #[.string s] w fun e w' => e = .returned (.tuple #[.int .i64 (piR s.data.toList), .bool (piB s.data.toList)]) ∧ Below w.heap.size w w' := by
  have hng : isNeg s.data.toList = false := by rw [isNeg_at s hz]; exact hm
  have hm1 : ((s[0].toNat : Int) == 45) = false := by rw [u8_45]; exact hm
  have hne : (s.toList.isEmpty) = false := by rw [ByteArray.toList_eq]; cases hl : s.data.toList with
    | nil => have e : s.data.toList.length = s.size := rfl
             rw [hl] at e; simp at e; omega
    | cons _ _ => rfl
  have HTL := Lib.hid (isNeg_no_tail s hng)
  have HNG := Lib.hid hng
  clear hm hng
  by_cases h9 : 9 < s.size
  · have hlong := Lib.hid (tail_long HTL.out h9)
    have h9i : (9 : Int) < (s.size : Int) := by omega
    go_enter Tryz.func48, Tryz.ntmps48
    go_wp2
    all_goals (go_ret2; exact ⟨ret_pi hlong.out, Below.refl _ _⟩)
  · have h9i : decide ((9 : Int) < (s.size : Int)) = false := by simp; omega
    have h9n : s.size ≤ 9 := by omega
    clear h9
    go_enter Tryz.func48, Tryz.ntmps48
    go_wp2
    go_loopw [6, 8, 9] (fun v _ _ wr => ∃ pos : Nat, pos ≤ s.size ∧ (∀ p (hp : p < s.size), p < pos → isD s[p] = true) ∧ wr.heap[w.heap.size]? = some (.stringIter s pos) ∧ v = .int .i64 (pvV (s.data.toList.take pos)) ∧ Below w.heap.size w wr) (fun _ _ _ wr => s.size - wr.iterPos w.heap.size)
    case atStart => exact ⟨0, Nat.zero_le _, fun p _ h => absurd h (by omega), World.iter_heap w s 0, rfl, (Below.refl _ _).alloc (Nat.le_refl _) _⟩
    case round =>
      obtain ⟨pos, hpos, hall, hit, rfl, hb⟩ := hrel
      have HALL := Lib.hid hall
      have HIT := Lib.hid hit
      have HPOS := Lib.hid (iterPos_of hit)
      clear hall
      obtain ⟨p0, p1⟩ := pv_small s pos h9n hpos
      by_cases hlt : pos < s.size
      · have E1 := Lib.hid ((pv_take s pos hlt).1)
        by_cases ha : s[pos].toNat < 128
        · have hnx : ∀ ty, (Instr.next (.pointer (some ⟨w.heap.size, 0, none⟩)) true ty).run Tryz.prog wr = _ := fun ty => Lib.run_next_ascii_at wr w.heap.size s pos ty hit hlt ha
          clear hit
          have hit1 := Lib.iterAt_heap wr w.heap.size s pos (pos + 1) HIT.out
          have hb1 := Lib.below_iterAt hb (k := w.heap.size) (by omega) s (pos + 1)
          have hdb := hv_bd (s[pos].toNat : Int)
          go_wp2_with fail
          generalize wr.iterAt w.heap.size s (pos + 1) = wn at hit1 hb1 ⊢
          clear hnx hb HIT
          have HIT1 := Lib.hid hit1
          clear hit1
          by_cases hd : 48 ≤ (s[pos].toNat : Int) ∧ (s[pos].toNat : Int) ≤ 57
          · have hw := digit_worth _ hd
            have hd0 : 0 ≤ hv (s[pos].toNat : Int) := by omega
            have hd9 : hv (s[pos].toNat : Int) ≤ 9 := by omega
            have HW := Lib.hid hw
            have HD := Lib.hid hd
            clear hw hd
            refine (digitOf_any _ _ (by omega) (by omega)).mono ?_
            rintro e w' ⟨rfl, rfl⟩
            go_wp2
            go_roundw
            case rel =>
              refine ⟨pos + 1, by omega, ?_, HIT1.out, ?_, hb1⟩
              · intro p hp hpp
                rcases Nat.lt_or_ge p pos with l | l
                · exact HALL.out p hp l
                · obtain rfl : p = pos := by omega
                  exact (isD_iff _).2 (by have := HD.out; omega)
              · rw [(E1.out HD.out.1 HD.out.2).1, HW.out]; congr 1; omega
            case measure => rw [HPOS.out, iterPos_of HIT1.out]; omega
          · have hr := digit_range _ hd
            have HNO := Lib.hid (tail_no HTL.out pos hlt (isD_false hd))
            clear hd
            refine (digitOf_any _ _ (by omega) (by omega)).mono ?_
            rintro e w' ⟨rfl, rfl⟩
            rcases hr with hr | hr
            · go_wp2
              go_ret2
              exact ⟨ret_pi HNO.out, hb1⟩
            · have hr0 : 0 ≤ hv (s[pos].toNat : Int) := by omega
              go_wp2
              go_ret2
              exact ⟨ret_pi HNO.out, hb1⟩
        · have ha2 : 128 ≤ s[pos].toNat := by omega
          obtain ⟨r1, r2⟩ := decode_high s pos hlt ha2
          have hnx : ∀ ty, (Instr.next (.pointer (some ⟨w.heap.size, 0, none⟩)) true ty).run Tryz.prog wr = _ := fun ty => Lib.run_next_any_at wr w.heap.size s pos ty hit hlt
          have r3 := decode_le s pos
          have hb1 := Lib.below_iterAt hb (k := w.heap.size) (by omega) s (pos + (Utf8.decode s pos).2)
          clear hit ha
          have hneg : hv ((Utf8.decode s pos).1 : Int) = -1 := hv_high _ (by omega)
          have hd0 : hv ((Utf8.decode s pos).1 : Int) < 0 := by omega
          clear hneg
          have HNO := Lib.hid (tail_no HTL.out pos hlt (isD_false (by omega)))
          go_wp2_with fail
          generalize wr.iterAt w.heap.size s (pos + (Utf8.decode s pos).2) = wn at hb1 ⊢
          refine (digitOf_any _ _ (by omega) (by omega)).mono ?_
          rintro e w' ⟨rfl, rfl⟩
          clear hnx
          go_wp2
          go_ret2
          exact ⟨ret_pi HNO.out, hb1⟩
      · have hnx : ∀ ty, (Instr.next (.pointer (some ⟨w.heap.size, 0, none⟩)) true ty).run Tryz.prog wr = _ := fun ty => Lib.run_next_end_at wr w.heap.size s pos ty hit hlt
        obtain rfl : pos = s.size := by omega
        have hfull : s.data.toList.take s.size = s.data.toList := List.take_of_length_le (Nat.le_refl _)
        rw [hfull] at p0 p1 ⊢
        obtain ⟨g1, g2, g3⟩ := tail_all HTL.out (fun p hp => HALL.out p hp hp) h9n
        have hpi : piN s.data.toList = (pvV s.data.toList) := by unfold piN; rw [HNG.out, g1]; rfl
        have HTB := Lib.hid (tab_on HT.out hb)
        by_cases h3 : itoa (pvV s.data.toList) = s.data.toList
        · have hyes := pi_yes g2 g3 (by rw [hpi]; exact h3)
          rw [hpi] at hyes
          have ht : (itoa (pvV s.data.toList) == s.toList) = true := by rw [ByteArray.toList_eq, h3]; simp
          have HQ := Lib.hid ht
          have HY := Lib.hid hyes
          clear ht h3 hpi hyes hfull g1 g2 g3 hit
          go_wp2_with (go_at_call 44; refine (ifi_any _ _ (by omega) (by omega) HTB).mono ?_; rintro e w' ⟨rfl, hb2⟩)
          all_goals first
            | (exfalso; have hq : (!(itoa (pvV s.data.toList) == s.toList)) = true := by assumption
               rw [HQ.out] at hq; cases hq)
            | (go_ret2; exact ⟨ret_pi HY.out, below_two hb hb2⟩)
        · have hno := pi_no (l := s.data.toList) (fun h => h3 (by rw [← hpi]; exact h.2.2))
          have ht : (itoa (pvV s.data.toList) == s.toList) = false := by rw [ByteArray.toList_eq]; simpa using h3
          have HQ := Lib.hid ht
          have HY := Lib.hid hno
          clear ht h3 hpi hno hfull g1 g2 g3 hit
          go_wp2_with (go_at_call 44; refine (ifi_any _ _ (by omega) (by omega) HTB).mono ?_; rintro e w' ⟨rfl, hb2⟩)
          all_goals first
            | (exfalso; have hq : (!(itoa (pvV s.data.toList) == s.toList)) = false := by assumption
               rw [HQ.out] at hq; cases hq)
            | (go_ret2; exact ⟨ret_pi HY.out, below_two hb hb2⟩)

set_option maxRecDepth 100000 in
set_option maxHeartbeats 1600000 in
theorem ipi_zero (s : ByteArray) (w : World) (HT : Hid (Tab w)) (hz : s.size = 0) :
    Calls Tryz.prog 48 #[.string s] w fun e w' => e = .returned (.tuple #[.int .i64 (piR s.data.toList), .bool (piB s.data.toList)]) ∧ Below w.heap.size w w' := by
  obtain rfl : s = ⟨#[]⟩ := by
    have e : s.data.toList.length = s.size := rfl
    have : s.data.toList = [] := List.eq_nil_of_length_eq_zero (by omega)
    have h2 : s.data = #[] := by simpa using this
    cases s; simp at h2; rw [h2]
  have HY := Lib.hid (pi_no (l := []) (by
    intro h
    have := h.2.2
    have h0 : itoa (piN []) = [48] := by
      rw [show piN [] = ((0 : Nat) : Int) from rfl, Lib.itoa_nonneg, Lib.decDigits_one (by decide)]; rfl
    rw [h0] at this; cases this))
  go_enter Tryz.func48, Tryz.ntmps48
  go_wp2
  go_loopw [6, 8, 9] (fun v _ _ wr => v = .int .i64 0 ∧ wr.heap[w.heap.size]? = some (.stringIter ⟨#[]⟩ 0) ∧ Below w.heap.size w wr) (fun _ _ _ wr => 0)
  case atStart => exact ⟨rfl, World.iter_heap w _ 0, (Below.refl _ _).alloc (Nat.le_refl _) _⟩
  case round =>
    obtain ⟨rfl, hit, hb⟩ := hrel
    have hnx : ∀ ty, (Instr.next (.pointer (some ⟨w.heap.size, 0, none⟩)) true ty).run Tryz.prog wr = _ := fun ty => Lib.run_next_end_at wr w.heap.size ⟨#[]⟩ 0 ty hit (by decide)
    have HTB := Lib.hid (tab_on HT.out hb)
    have h0 : itoa 0 = [48] := by
      rw [show (0 : Int) = ((0 : Nat) : Int) from rfl, Lib.itoa_nonneg, Lib.decDigits_one (by decide)]; rfl
    have H0 := Lib.hid h0
    clear hit h0
    go_wp2_with fail
    refine (ifi_any _ _ (by omega) (by omega) HTB).mono ?_
    rw [H0.out]
    rintro e w' ⟨rfl, hb2⟩
    clear hnx
    go_wp2
    go_ret2
    exact ⟨ret_pi HY.out, below_two hb hb2⟩

theorem ipi_any (s : ByteArray) (w : World) (h4 : s.size ≤ 1048576) (HT : Hid (Tab w)) :
    Calls Tryz.prog 48 #[.string s] w fun e w' => e = .returned (.tuple #[.int .i64 (piR s.data.toList), .bool (piB s.data.toList)]) ∧ Below w.heap.size w w' := by
  by_cases hz : 0 < s.size
  · by_cases hm : (s[0] == 45) = true
    · exact ipi_neg s w h4 HT hz hm
    · exact ipi_pos s w h4 HT hz (by simpa using hm)
  · exact ipi_zero s w HT (by omega)

end Go.Proofs.YtielfnjkfceliaaGreatDoor.C
