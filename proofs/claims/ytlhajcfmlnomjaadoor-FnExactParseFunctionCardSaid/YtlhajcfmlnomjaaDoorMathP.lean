/-
  Plain mathematics of chapter 1 (decimal numerals read back). Nothing of the translation.
-/
import Derived.Test.YtlhajcfmlnomjaaDoorMathF
namespace Go.Proofs.YtlhajcfmlnomjaaDoor.M
open Go.Lib (decDigits itoa nDigits)
set_option linter.unusedVariables false

/-- Is a byte a decimal digit? -/
def isD (c : UInt8) : Bool := 48 ≤ c.toNat && c.toNat ≤ 57
theorem isD_iff (c : UInt8) : isD c = true ↔ 48 ≤ c.toNat ∧ c.toNat ≤ 57 := by simp [isD]

/-- The number that the digits among the bytes make, and how many digits there are. -/
def pvV (l : List UInt8) : Int := l.foldl (fun a c => if isD c then a * 10 + ((c.toNat : Int) - 48) else a) 0
def pvK (l : List UInt8) : Nat := (l.filter isD).length
theorem pvV_snoc (l : List UInt8) (c : UInt8) : pvV (l ++ [c]) = if isD c then pvV l * 10 + ((c.toNat : Int) - 48) else pvV l := by simp [pvV, List.foldl_append]
theorem pvK_snoc (l : List UInt8) (c : UInt8) : pvK (l ++ [c]) = if isD c then pvK l + 1 else pvK l := by
  unfold pvK
  rw [List.filter_append]
  cases h : isD c <;> simp [h]

theorem snoc_cases {α : Type} (l : List α) : l = [] ∨ ∃ l' c, l = l' ++ [c] := by
  rcases List.eq_nil_or_concat l with h | ⟨a, b, h⟩
  · exact .inl h
  · exact .inr ⟨a, b, by rw [h]; simp⟩

theorem pv_bd (n : Nat) : ∀ l : List UInt8, l.length = n → 0 ≤ pvV l ∧ pvV l < 10 ^ pvK l ∧ pvK l ≤ n := by
  induction n with
  | zero =>
    intro l h
    have : l = [] := List.eq_nil_of_length_eq_zero h
    subst this
    exact ⟨by decide, by decide, by decide⟩
  | succ n ih =>
    intro l h
    rcases snoc_cases l with rfl | ⟨l', c, rfl⟩
    · simp at h
    · obtain ⟨a, b, d⟩ := ih l' (by simpa using h)
      rw [pvV_snoc, pvK_snoc]
      by_cases hc : isD c = true
      · have := (isD_iff c).1 hc
        have e : (10 : Int) ^ (pvK l' + 1) = 10 ^ pvK l' * 10 := Int.pow_succ ..
        rw [if_pos hc, if_pos hc]
        omega
      · rw [if_neg hc, if_neg hc]
        omega

theorem pow10_le {a b : Nat} (h : a ≤ b) : (10 : Int) ^ a ≤ 10 ^ b := by
  have := Nat.pow_le_pow_right (n := 10) (by decide) h
  exact_mod_cast this

/-- The digits of a numeral are digits. -/
theorem dgt_isD (d : Nat) (h : d < 10) : isD (dgt d) = true ∧ ((dgt d).toNat : Int) = 48 + (d : Int) := by
  have : (dgt d).toNat = (48 + d) % 256 := UInt8.toNat_ofNat'
  exact ⟨(isD_iff _).2 (by omega), by omega⟩
theorem dec_snoc (m : Nat) : decDigits m = (if m < 10 then [] else decDigits (m / 10)) ++ [dgt (m % 10)] := by
  rw [decDigits]
  by_cases h : m < 10
  · rw [dif_pos h, if_pos h, Nat.mod_eq_of_lt h]; rfl
  · rw [dif_neg h, if_neg h]; rfl
theorem dec_read (m : Nat) : pvV (decDigits m) = (m : Int) ∧ pvK (decDigits m) = (decDigits m).length ∧ ∀ c ∈ decDigits m, isD c = true := by
  induction m using Nat.strongRecOn with
  | ind m ih =>
    obtain ⟨h1, h2⟩ := dgt_isD (m % 10) (by omega)
    rw [dec_snoc m]
    by_cases h : m < 10
    · rw [if_pos h, pvV_snoc, pvK_snoc, if_pos h1, if_pos h1]
      refine ⟨?_, by simp [pvK], by simpa using h1⟩
      rw [h2]
      simp [pvV]
      omega
    · obtain ⟨a, b, c⟩ := ih (m / 10) (by omega)
      rw [if_neg h, pvV_snoc, pvK_snoc, if_pos h1, if_pos h1, a, b, h2]
      refine ⟨by omega, by simp, ?_⟩
      intro x hx
      rcases List.mem_append.1 hx with hx | hx
      · exact c x hx
      · have : x = dgt (m % 10) := by simpa using hx
        rw [this]; exact h1
theorem dec_ne (m : Nat) : decDigits m ≠ [] := by rw [dec_snoc]; simp

/-- Does a text open with a minus? -/
def isNeg (l : List UInt8) : Bool := match l with
  | c :: _ => c == 45
  | [] => false
theorem itoa_read (n : Int) : (isNeg (itoa n) = true ↔ n < 0) ∧ pvV (itoa n) = (n.natAbs : Int) ∧ pvK (itoa n) + (if isNeg (itoa n) then 1 else 0) = (itoa n).length ∧
    (∀ c ∈ (if isNeg (itoa n) then (itoa n).drop 1 else itoa n), isD c = true) := by
  have nd : isD 45 = false := by decide
  by_cases h : n < 0
  · have e : itoa n = 45 :: decDigits n.natAbs := by unfold itoa; rw [if_pos h]
    obtain ⟨a, b, c⟩ := dec_read n.natAbs
    have i : isNeg (45 :: decDigits n.natAbs) = true := rfl
    rw [e, i]
    refine ⟨⟨fun _ => h, fun _ => rfl⟩, ?_, ?_, by simpa using c⟩
    · rw [← a]; simp [pvV, nd]
    · simp only [pvK, List.filter_cons, nd] at b ⊢
      simp at b ⊢
      omega
  · have e : itoa n = decDigits n.toNat := by unfold itoa; rw [if_neg h]
    obtain ⟨a, b, c⟩ := dec_read n.toNat
    have i : isNeg (decDigits n.toNat) = false := by
      cases hl : decDigits n.toNat with
      | nil => rfl
      | cons x r =>
        have := c x (by rw [hl]; simp)
        have := (isD_iff x).1 this
        show (x == 45) = false
        rw [beq_eq_false_iff_ne]
        intro e2
        subst e2
        revert this; decide
    rw [e, i]
    refine ⟨⟨fun h2 => by simp at h2, fun h2 => absurd h2 h⟩, by rw [a]; omega, by simpa using b, by simpa using c⟩

/-- What ParseInt finds in a text. -/
def piN (l : List UInt8) : Int := if isNeg l then -(pvV l) else pvV l
/-- Is the text a numeral of at most nine digits? -/
def piB (l : List UInt8) : Bool := decide (pvK l ≤ 9 ∧ l.length ≤ 10 ∧ itoa (piN l) = l)
def piR (l : List UInt8) : Int := if piB l then piN l else 0
theorem pi_yes {l : List UInt8} (h1 : pvK l ≤ 9) (h2 : l.length ≤ 10) (h3 : itoa (piN l) = l) : piB l = true ∧ piR l = piN l := by
  have : piB l = true := decide_eq_true ⟨h1, h2, h3⟩
  exact ⟨this, by unfold piR; rw [this]; rfl⟩
theorem pi_no {l : List UInt8} (h : ¬ (pvK l ≤ 9 ∧ l.length ≤ 10 ∧ itoa (piN l) = l)) : piB l = false ∧ piR l = 0 := by
  have : piB l = false := decide_eq_false h
  exact ⟨this, by unfold piR; rw [this]; rfl⟩

/-- What a text that is accepted looks like. -/
theorem pi_form {l : List UInt8} (h : pvK l ≤ 9 ∧ l.length ≤ 10 ∧ itoa (piN l) = l) :
    (∀ c ∈ (if isNeg l then l.drop 1 else l), isD c = true) ∧ (if isNeg l then l.drop 1 else l).length ≤ 9 := by
  obtain ⟨h1, h2, h3⟩ := h
  obtain ⟨_, _, c, d⟩ := itoa_read (piN l)
  rw [h3] at c d
  refine ⟨d, ?_⟩
  split at c
  · rename_i hn; rw [if_pos hn]; simp; omega
  · rename_i hn; rw [if_neg hn]; omega

end Go.Proofs.YtlhajcfmlnomjaaDoor.M
