/-
  Sums over the listed elements of a set, as plain mathematics.
-/
import Derived.Test.YtpefnfkodcidkaaDoorSubM
import Derived.Test.YtpefnfkodcidkaaDoorElsM
namespace Go.Proofs.YtpefnfkodcidkaaDoor.M
set_option linter.unusedVariables false
/-- The weights of listed elements, added up. -/
def wsum (ws : List Int) : List Int → Int
  | [] => 0
  | e :: l => ws.getD e.toNat 0 + wsum ws l
theorem div_pow_succ (S i : Nat) : S / 2 ^ i / 2 = S / 2 ^ (i + 1) := by rw [Nat.div_div_eq_div_mul, Nat.pow_succ]
theorem testBit_div (S i : Nat) : S.testBit i = decide (S / 2 ^ i % 2 = 1) := by rw [Nat.testBit_eq_decide_div_mod_eq]
theorem wsum_els (ws : List Int) (S : Nat) : ∀ f i, f + i = 10 → S < 2 ^ 10 → weigh ws S i + wsum ws (elsF f i (S / 2 ^ i)) = weigh ws S 10
  | 0, i, h, hS => by
    obtain rfl : i = 10 := by omega
    simp [elsF, wsum]
  | f + 1, i, h, hS => by
    have ih := wsum_els ws S f (i + 1) (by omega) hS
    rw [← ih]
    have hb := testBit_div S i
    rw [← div_pow_succ]
    show weigh ws S i + _ = (if S.testBit i = true then weigh ws S i + ws.getD i 0 else weigh ws S i) + _
    by_cases h1 : S / 2 ^ i % 2 = 1
    · rw [elsF_odd h1, hb]
      simp only [h1, decide_true, if_true, wsum, Int.toNat_natCast]
      omega
    · rw [hb]
      simp only [h1, decide_false]
      by_cases h0 : 0 < S / 2 ^ i
      · rw [elsF_even h0 h1]
        simp
      · have e : S / 2 ^ i = 0 := Nat.eq_zero_of_not_pos h0
        rw [e, elsF_zero, show 0 / 2 = 0 from rfl, elsF_zero]
        simp
theorem weigh_up (ws : List Int) (S n : Nat) (hS : S < 2 ^ n) : ∀ c, weigh ws S (n + c) = weigh ws S n
  | 0 => rfl
  | c + 1 => by
    have h1 : S.testBit (n + c) = false := Nat.testBit_lt_two_pow (Nat.lt_of_lt_of_le hS (Nat.pow_le_pow_right (by decide) (by omega)))
    show (if S.testBit (n + c) = true then _ else weigh ws S (n + c)) = _
    rw [h1]
    exact weigh_up ws S n hS c
theorem weigh_els (ws : List Int) (S n : Nat) (hS : S < 2 ^ n) (hn : n ≤ 10) : wsum ws (els S) = weigh ws S n := by
  have h := wsum_els ws S 10 0 rfl (Nat.lt_of_lt_of_le hS (Nat.pow_le_pow_right (by decide) hn))
  rw [Nat.pow_zero, Nat.div_one] at h
  have h2 := weigh_up ws S n hS (10 - n)
  rw [show n + (10 - n) = 10 by omega] at h2
  have h0 : weigh ws S 0 = 0 := rfl
  rw [h0] at h
  unfold els
  omega
theorem elsF_mem : ∀ (f i x n : Nat), x < 2 ^ n → ∀ e ∈ elsF f i x, (i : Int) ≤ e ∧ e < (i : Int) + (n : Int)
  | 0, _, _, _, _, e, he => by simp [elsF] at he
  | f + 1, i, x, 0, hx, e, he => by
    have : x = 0 := by simpa using hx
    subst this
    rw [elsF_zero] at he
    cases he
  | f + 1, i, x, n + 1, hx, e, he => by
    have hx2 : x / 2 < 2 ^ n := by rw [Nat.pow_succ] at hx; omega
    by_cases h1 : x % 2 = 1
    · rw [elsF_odd h1] at he
      rcases List.mem_cons.1 he with rfl | he
      · omega
      · have := elsF_mem f (i + 1) (x / 2) n hx2 e he
        omega
    · by_cases h0 : 0 < x
      · rw [elsF_even h0 h1] at he
        have := elsF_mem f (i + 1) (x / 2) n hx2 e he
        omega
      · obtain rfl : x = 0 := by omega
        rw [elsF_zero] at he
        cases he
theorem els_at (S n : Nat) (hS : S < 2 ^ n) {k : Nat} (hk : k < (els S).length) : 0 ≤ (els S).getD k 0 ∧ (els S).getD k 0 < (n : Int) := by
  have e : (els S).getD k 0 = (els S)[k] := by rw [List.getD_eq_getElem?_getD, List.getElem?_eq_getElem hk]; rfl
  have := elsF_mem 10 0 S n hS (els S)[k] (List.getElem_mem hk)
  rw [e]
  omega
theorem wsum_drop (ws l : List Int) {k : Nat} (hk : k < l.length) : wsum ws (l.drop k) = ws.getD (l.getD k 0).toNat 0 + wsum ws (l.drop (k + 1)) := by
  have e : l.getD k 0 = l[k] := by rw [List.getD_eq_getElem?_getD, List.getElem?_eq_getElem hk]; rfl
  rw [List.drop_eq_getElem_cons hk, e]
  rfl

end Go.Proofs.YtpefnfkodcidkaaDoor.M
