/-
  How far weights lie below values: the least of some sets, as plain mathematics.
-/
import Derived.Test.YtpefnfkodcidkaaDoorBsM
import Derived.Test.YtpefnfkodcidkaaDoorLpM
namespace Go.Proofs.YtpefnfkodcidkaaDoor.M
set_option linter.unusedVariables false
set_option linter.unusedSimpArgs false

/-- How far the weight of the sets c and x lies below its value. -/
def slackV (xs ws : List Int) (c x : Nat) : Int := xs.getD (c ||| x) 0 - weigh ws (c ||| x) ws.length
theorem cap_le {xs ws : List Int} {p : Nat → Bool} : ∀ m s, s < m → p s = true → capTo xs ws p m ≤ xs.getD s 0 - weigh ws s ws.length
  | 0, s, h, _ => absurd h (by omega)
  | m + 1, s, h, hp => by
    unfold capTo
    by_cases e : s = m
    · subst e
      rw [if_pos hp]
      omega
    · have := cap_le (xs := xs) (ws := ws) (p := p) m s (by omega) hp
      split <;> omega
theorem cap_at {xs ws : List Int} {p : Nat → Bool} : ∀ m, capTo xs ws p m = 100000 ∨ ∃ s, s < m ∧ p s = true ∧ capTo xs ws p m = xs.getD s 0 - weigh ws s ws.length
  | 0 => .inl rfl
  | m + 1 => by
    unfold capTo
    by_cases hp : p m = true
    · rw [if_pos hp]
      by_cases hm : capTo xs ws p m ≤ xs.getD m 0 - weigh ws m ws.length
      · rw [Int.min_eq_left hm]
        rcases cap_at (xs := xs) (ws := ws) (p := p) m with h | ⟨s, h1, h2, h3⟩
        · exact .inl h
        · exact .inr ⟨s, by omega, h2, h3⟩
      · exact .inr ⟨m, by omega, hp, by omega⟩
    · rw [if_neg hp]
      rcases cap_at (xs := xs) (ws := ws) (p := p) m with h | ⟨s, h1, h2, h3⟩
      · exact .inl h
      · exact .inr ⟨s, by omega, h2, h3⟩
theorem cap_least {xs ws : List Int} {p : Nat → Bool} {c F n : Nat} (hl : xs.length = 2 ^ n) (hin : ∀ x, x &&& F = x → (c ||| x) < 2 ^ n ∧ p (c ||| x) = true) (hout : ∀ s, s < 2 ^ n → p s = true → c ||| (s &&& F) = s)
    (hb : ∀ s, s < 2 ^ n → xs.getD s 0 - weigh ws s ws.length ≤ 100000) : capTo xs ws p xs.length = slackV xs ws c (leastTo (slackV xs ws c) F F) := by
  obtain ⟨h1, h2⟩ := least_in (slackV xs ws c) F F
  have hmin := least_min (slackV xs ws c) F F
  obtain ⟨a1, a2⟩ := hin _ h1
  have hle : capTo xs ws p xs.length ≤ slackV xs ws c (leastTo (slackV xs ws c) F F) := cap_le xs.length _ (by rw [hl]; exact a1) a2
  have hup := hb _ a1
  rcases cap_at (xs := xs) (ws := ws) (p := p) xs.length with h | ⟨s, b1, b2, b3⟩
  · have h3 : slackV xs ws c (leastTo (slackV xs ws c) F F) ≤ 100000 := hup
    omega
  · rw [hl] at b1
    have h3 := hmin (s &&& F) Nat.and_le_right (by rw [Nat.and_assoc, Nat.and_self])
    have h4 : slackV xs ws c (s &&& F) = xs.getD s 0 - weigh ws s ws.length := by unfold slackV; rw [hout s b1 b2]
    omega
theorem below_least {xs ws : List Int} {n : Nat} (hl : xs.length = 2 ^ n) : belowTo xs ws xs.length = decide (0 ≤ slackV xs ws 0 (leastTo (slackV xs ws 0) (2 ^ n - 1) (2 ^ n - 1))) := by
  have hp := Nat.two_pow_pos n
  obtain ⟨h1, h2⟩ := least_in (slackV xs ws 0) (2 ^ n - 1) (2 ^ n - 1)
  have hmin := least_min (slackV xs ws 0) (2 ^ n - 1) (2 ^ n - 1)
  have hz : ∀ x, slackV xs ws 0 x = xs.getD x 0 - weigh ws x ws.length := fun x => by unfold slackV; rw [Nat.zero_or]
  generalize leastTo (slackV xs ws 0) (2 ^ n - 1) (2 ^ n - 1) = r at *
  by_cases h0 : 0 ≤ slackV xs ws 0 r
  · rw [decide_eq_true h0, below_at]
    intro s hs
    have h3 := hmin s (by omega) (by rw [Nat.and_two_pow_sub_one_eq_mod]; exact Nat.mod_eq_of_lt (by omega))
    rw [hz, hz] at h3
    rw [hz] at h0
    omega
  · rw [decide_eq_false h0]
    rw [hz] at h0
    exact below_no (s := r) (by omega) (by omega)
/-- All sets; those with e; those with e and without d. -/
def freeAll (n : Nat) : Nat := (0 ||| 0) ^^^ (2 ^ n - 1)
def freeOne (n e : Nat) : Nat := ((0 ||| 2 ^ e) ||| 0) ^^^ (2 ^ n - 1)
def freeTwo (n e d : Nat) : Nat := ((0 ||| 2 ^ e) ||| (0 ||| 2 ^ d)) ^^^ (2 ^ n - 1)
theorem freeAll_eq (n : Nat) : freeAll n = 2 ^ n - 1 := by unfold freeAll; simp
theorem freeAll_lt : ∀ n, n < 6 → freeAll n < 2 ^ n := by decide
theorem freeOne_lt : ∀ n, n < 6 → ∀ e, e < n → freeOne n e < 2 ^ n := by decide
theorem freeTwo_lt : ∀ n, n < 6 → ∀ e, e < n → ∀ d, d < n → freeTwo n e d < 2 ^ n := by decide
theorem one_in' : ∀ n, n < 6 → ∀ e, e < n → ∀ x, x < 2 ^ n → x &&& freeOne n e = x → ((0 ||| 2 ^ e) ||| x) < 2 ^ n ∧ ((0 ||| 2 ^ e) ||| x).testBit e = true := by decide +kernel
theorem one_in {n e : Nat} (hn : n ≤ 5) (he : e < n) (x : Nat) (hx : x &&& freeOne n e = x) : ((0 ||| 2 ^ e) ||| x) < 2 ^ n ∧ ((0 ||| 2 ^ e) ||| x).testBit e = true :=
  one_in' n (by omega) e he x (by have h1 := freeOne_lt n (by omega) e he; have h2 : x &&& freeOne n e ≤ freeOne n e := Nat.and_le_right; omega) hx
theorem one_out : ∀ n, n < 6 → ∀ e, e < n → ∀ s, s < 2 ^ n → s.testBit e = true → (0 ||| 2 ^ e) ||| (s &&& freeOne n e) = s := by decide +kernel
theorem two_in' : ∀ n, n < 6 → ∀ e, e < n → ∀ d, d < n → ∀ x, x < 2 ^ n → (x &&& freeTwo n e d != x || e == d || (decide (((0 ||| 2 ^ e) ||| x) < 2 ^ n) && (((0 ||| 2 ^ e) ||| x).testBit e && !((0 ||| 2 ^ e) ||| x).testBit d))) = true := by decide +kernel
theorem two_in {n e d : Nat} (hn : n ≤ 5) (he : e < n) (hd : d < n) (hed : e ≠ d) (x : Nat) (hx : x &&& freeTwo n e d = x) : ((0 ||| 2 ^ e) ||| x) < 2 ^ n ∧ (((0 ||| 2 ^ e) ||| x).testBit e && !((0 ||| 2 ^ e) ||| x).testBit d) = true := by
  have h1 := freeTwo_lt n (by omega) e he d hd
  have h2 : x &&& freeTwo n e d ≤ freeTwo n e d := Nat.and_le_right
  have h3 := two_in' n (by omega) e he d hd x (by omega)
  rw [hx, show (x != x) = false by simp, show (e == d) = false from beq_eq_false_iff_ne.2 hed, Bool.false_or, Bool.false_or, Bool.and_eq_true, decide_eq_true_eq] at h3
  exact h3
theorem two_out : ∀ n, n < 6 → ∀ e, e < n → ∀ d, d < n → ∀ s, s < 2 ^ n → (s.testBit e && !s.testBit d) = true → (0 ||| 2 ^ e) ||| (s &&& freeTwo n e d) = s := by decide +kernel
theorem slack_bd {xs ws : List Int} (hv : ∀ k, k < xs.length → -1000 ≤ xs.getD k 0 ∧ xs.getD k 0 ≤ 1000) (h : isVec5 ws = true) (s : Nat) (hs : s < xs.length) : -26000 ≤ xs.getD s 0 - weigh ws s ws.length ∧ xs.getD s 0 - weigh ws s ws.length ≤ 26000 := by
  have h1 := hv s hs
  have h2 := vec5_weigh h s
  omega
theorem tight_len (n : Int) (xs ws : List Int) : (tightSets n xs ws).1.length ≤ 1048576 := by
  unfold tightSets
  cases q : isBelow n xs ws
  · simp
  · have h1 := tightTo_len xs ws xs.length
    have h2 := (isFn_len (ground_fn (isBelow_yes q).1)).2
    show (tightTo xs ws xs.length).length ≤ 1048576
    omega

end Go.Proofs.YtpefnfkodcidkaaDoor.M
