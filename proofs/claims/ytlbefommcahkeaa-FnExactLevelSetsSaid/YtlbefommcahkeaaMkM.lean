/-
  The usual functions as plain mathematics: functions of the size, lists whose differences do not grow, cuts, covers.
-/
import Derived.Test.YtlbefommcahkeaaSubM
namespace Go.Proofs.Ytlbefommcahkeaa.M
set_option linter.unusedVariables false

/-- How many ones x has, of f places. -/
def onesF : Nat → Nat → Nat
  | 0, _ => 0
  | f + 1, x => x % 2 + onesF f (x / 2)
/-- The size of a set of at most ten elements. -/
def ones (x : Nat) : Nat := onesF 10 x
theorem onesF_le : ∀ f x, onesF f x ≤ f
  | 0, _ => Nat.le_refl _
  | f + 1, x => by
    have := onesF_le f (x / 2)
    unfold onesF
    omega
theorem onesF_zero : ∀ f, onesF f 0 = 0
  | 0 => rfl
  | f + 1 => by unfold onesF; simpa using onesF_zero f
theorem ones_le5 : ∀ n, n ≤ 5 → ∀ s, s < 2 ^ n → ones s ≤ n := by decide +kernel
theorem ones_full : ∀ k, k ≤ 5 → ones (2 ^ k - 1) = k := by decide +kernel
/-- The function of the size. -/
def sizeFn (v : List Int) : Int × List Int × Bool := if 1 ≤ v.length ∧ v.length ≤ 6 then made ((v.length - 1 : Nat) : Int) (tab (2 ^ (v.length - 1)) fun s => v.getD (ones s) 0) else (0, [], false)
theorem sizeFn_len (v : List Int) : (sizeFn v).2.1.length ≤ 32 := by
  unfold sizeFn; split <;> first | exact made_len _ _ | exact Nat.zero_le _
/-- The function of the size is made exactly if there are from 1 to 6 values, all within the range. -/
theorem sizeFn_is (v : List Int) : (sizeFn v).2.2 = decide (1 ≤ v.length ∧ v.length ≤ 6 ∧ ∀ k, k < v.length → -1000 ≤ v.getD k 0 ∧ v.getD k 0 ≤ 1000) := by
  by_cases h : 1 ≤ v.length ∧ v.length ≤ 6
  · obtain ⟨h1, h6⟩ := h
    obtain ⟨n, hn⟩ : ∃ n, v.length = n + 1 := ⟨v.length - 1, by omega⟩
    have key : isFn (n : Int) (tab (2 ^ n) fun s => v.getD (ones s) 0) = decide (1 ≤ v.length ∧ v.length ≤ 6 ∧ ∀ k, k < v.length → -1000 ≤ v.getD k 0 ∧ v.getD k 0 ≤ 1000) := by
      by_cases hv : ∀ k, k < v.length → -1000 ≤ v.getD k 0 ∧ v.getD k 0 ≤ 1000
      · rw [isFn_mk (by omega) (by omega) (by rw [tab_length, Int.toNat_natCast]) fun k hk => by
          rw [tab_length] at hk
          rw [tab_at _ hk]
          have := ones_le5 n (by omega) k hk
          exact hv _ (by omega)]
        exact (decide_eq_true ⟨h1, h6, hv⟩).symm
      · rw [decide_eq_false fun hh => hv hh.2.2]
        cases hf : isFn (n : Int) (tab (2 ^ n) fun s => v.getD (ones s) 0)
        · rfl
        · exfalso
          refine hv fun k hk => ?_
          obtain ⟨_, _, _, hb⟩ := isFn_yes hf
          have hkn : k ≤ n := by omega
          have hp : 2 ^ k - 1 < 2 ^ n := by
            have h2 : 2 ^ k ≤ 2 ^ n := Nat.pow_le_pow_right (by decide) hkn
            have h3 := Nat.two_pow_pos k
            omega
          have := hb (2 ^ k - 1) (by rw [tab_length]; exact hp)
          rw [tab_at _ hp, ones_full k (by omega)] at this
          exact this
    unfold sizeFn
    rw [if_pos ⟨h1, h6⟩, ← key, hn, Nat.add_sub_cancel]
    unfold made
    split
    · rename_i e; exact e.symm
    · rename_i e; simpa using e
  · unfold sizeFn
    rw [if_neg h, decide_eq_false fun hh => h ⟨hh.1, hh.2.1⟩]
/-- The first one that is none. -/
theorem first_bad {p : Nat → Prop} {c : Nat} (h : ¬ ∀ k, k < c → p k) : ∃ j, j < c ∧ ¬ p j ∧ ∀ k, k < j → p k := by
  have key : ∀ c, (∀ k, k < c → p k) ∨ ∃ j, j < c ∧ ¬ p j ∧ ∀ k, k < j → p k := by
    intro c
    induction c with
    | zero => exact .inl fun k hk => absurd hk (by omega)
    | succ c ih =>
      rcases ih with h1 | ⟨j, hj, hb, hv⟩
      · by_cases hc : p c
        · exact .inl fun k hk => by
            by_cases e : k = c
            · subst e; exact hc
            · exact h1 k (by omega)
        · exact .inr ⟨c, by omega, hc, h1⟩
      · exact .inr ⟨j, by omega, hb, hv⟩
  rcases key c with h1 | h1
  · exact absurd h1 h
  · exact h1
/-- The differences do not grow. -/
def concaveTo (v : List Int) (c : Nat) : Prop := ∀ i, i < c → 2 ≤ i → v.getD i 0 - v.getD (i - 1) 0 ≤ v.getD (i - 1) 0 - v.getD (i - 2) 0
instance (v : List Int) (c : Nat) : Decidable (concaveTo v c) := by unfold concaveTo; infer_instance
def concave (v : List Int) : Bool := decide (1 ≤ v.length ∧ v.length ≤ 6 ∧ (∀ k, k < v.length → -1000 ≤ v.getD k 0 ∧ v.getD k 0 ≤ 1000) ∧ concaveTo v v.length)

end Go.Proofs.Ytlbefommcahkeaa.M
