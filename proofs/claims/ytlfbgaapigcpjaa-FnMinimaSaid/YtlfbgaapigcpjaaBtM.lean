/-
  The first set with the least value between two sets, reached by the parts of the other elements, as plain mathematics.
-/
import Derived.Test.YtlfbgaapigcpjaaAllM
import Derived.Test.YtlfbgaapigcpjaaPtA
namespace Go.Proofs.Ytlfbgaapigcpjaa.M
set_option linter.unusedVariables false
set_option linter.unusedSimpArgs false

def Btw (a b s : Nat) : Prop := s &&& a = a ∧ s &&& b = 0
theorem btw_all {xs : List Int} {a b : Nat} (hz : a &&& b = 0) : ∀ m, (∀ s, Btw a b s → s < m → xs.getD (btwTo xs a b m) 0 ≤ xs.getD s 0) ∧ (∀ s, Btw a b s → s < btwTo xs a b m → xs.getD (btwTo xs a b m) 0 < xs.getD s 0) ∧ Btw a b (btwTo xs a b m)
  | 0 => ⟨fun s _ h => absurd h (by omega), fun s hs h => by
      have : s &&& a ≤ s := Nat.and_le_left
      have e := hs.1
      have h2 : s < a := h
      omega, ⟨Nat.and_self a, hz⟩⟩
  | m + 1 => by
    obtain ⟨h1, h2, h3⟩ := btw_all (xs := xs) hz m
    rw [btwTo]
    split
    · rename_i h
      refine ⟨fun s hs hlt => ?_, fun s hs hlt => ?_, ⟨h.1, h.2.1⟩⟩
      · by_cases e : s = m
        · subst e; exact Int.le_refl _
        · have := h1 s hs (by omega); have := h.2.2; omega
      · have := h1 s hs (by omega); have := h.2.2; omega
    · rename_i h
      refine ⟨fun s hs hlt => ?_, h2, h3⟩
      by_cases e : s = m
      · subst e
        exact Int.not_lt.1 fun hh => h ⟨hs.1, hs.2, hh⟩
      · exact h1 s hs (by omega)
theorem least_first (v : Nat → Int) (s : Nat) : ∀ c x, x < leastTo v s c → x &&& s = x → v (leastTo v s c) < v x
  | 0, x, h, _ => absurd h (by simp [leastTo])
  | c + 1, x, h, hx => by
    rw [leastTo] at h ⊢
    split at h
    · rename_i hh
      rw [if_pos hh]
      have := least_min v s c x (by omega) hx
      have := hh.2
      omega
    · rename_i hh
      rw [if_neg hh]
      exact least_first v s c x h hx
theorem btw_bits' : ∀ n, n < 6 → ∀ a, a < 2 ^ n → ∀ b, b < 2 ^ n → ∀ x, x < 2 ^ n → (a &&& b != 0 || x &&& ((a ||| b) ^^^ (2 ^ n - 1)) != x || ((a ||| x) &&& a == a && ((a ||| x) &&& b == 0 && a ||| x == a + x))) = true := by decide +kernel
theorem btw_out' : ∀ n, n < 6 → ∀ a, a < 2 ^ n → ∀ b, b < 2 ^ n → ∀ s, s < 2 ^ n → (a &&& b != 0 || s &&& a != a || s &&& b != 0 || a ||| (s &&& ((a ||| b) ^^^ (2 ^ n - 1))) == s) = true := by decide +kernel
theorem btw_bits {n a b x : Nat} (hn : n ≤ 5) (ha : a < 2 ^ n) (hb : b < 2 ^ n) (hz : a &&& b = 0) (hx : x &&& ((a ||| b) ^^^ (2 ^ n - 1)) = x) : x < 2 ^ n ∧ Btw a b (a ||| x) ∧ a ||| x = a + x := by
  have hF : (a ||| b) ^^^ (2 ^ n - 1) < 2 ^ n := Nat.xor_lt_two_pow (Nat.or_lt_two_pow ha hb) (by have := Nat.two_pow_pos n; omega)
  have hxF : x < 2 ^ n := by have : x &&& ((a ||| b) ^^^ (2 ^ n - 1)) ≤ (a ||| b) ^^^ (2 ^ n - 1) := Nat.and_le_right; omega
  have h := btw_bits' n (by omega) a ha b hb x hxF
  rw [hx, hz] at h
  simp only [bne_self_eq_false, Bool.false_or, Bool.and_eq_true, beq_iff_eq] at h
  exact ⟨hxF, ⟨h.1, h.2.1⟩, h.2.2⟩
theorem btw_out {n a b s : Nat} (hn : n ≤ 5) (ha : a < 2 ^ n) (hb : b < 2 ^ n) (hz : a &&& b = 0) (hs : s < 2 ^ n) (hB : Btw a b s) : a ||| (s &&& ((a ||| b) ^^^ (2 ^ n - 1))) = s := by
  have h := btw_out' n (by omega) a ha b hb s hs
  rw [hB.1, hB.2, hz] at h
  simp only [bne_self_eq_false, Bool.false_or, beq_iff_eq] at h
  exact h
def btwV (xs : List Int) (a x : Nat) : Int := xs.getD (a ||| x) 0
theorem btw_least {n a b F : Nat} {xs : List Int} (hn : n ≤ 5) (hl : xs.length = 2 ^ n) (ha : a < 2 ^ n) (hb : b < 2 ^ n) (hz : a &&& b = 0) (hF : (a ||| b) ^^^ (2 ^ n - 1) = F) :
    a ||| leastTo (btwV xs a) F F = btwTo xs a b xs.length := by
  obtain ⟨h1, h2, h3⟩ := btw_all (xs := xs) hz xs.length
  have h4 : btwTo xs a b xs.length < xs.length := btwTo_lt (by omega) _ (Nat.le_refl _)
  obtain ⟨l1, l2⟩ := least_in (btwV xs a) F F
  have l3 := least_min (btwV xs a) F F
  have l4 := least_first (btwV xs a) F F
  generalize btwTo xs a b xs.length = B at *
  generalize leastTo (btwV xs a) F F = r at *
  subst hF
  obtain ⟨r1, r2, r3⟩ := btw_bits hn ha hb hz l1
  have hrl : a ||| r < 2 ^ n := Nat.or_lt_two_pow ha r1
  have hB := btw_out hn ha hb hz (by omega) h3
  have hBF : B &&& ((a ||| b) ^^^ (2 ^ n - 1)) &&& ((a ||| b) ^^^ (2 ^ n - 1)) = B &&& ((a ||| b) ^^^ (2 ^ n - 1)) := by rw [Nat.and_assoc, Nat.and_self]
  obtain ⟨q1, q2, q3⟩ := btw_bits hn ha hb hz hBF
  have m1 := h1 _ r2 (by omega)
  rcases Nat.lt_trichotomy (a ||| r) B with hlt | he | hgt
  · have := h2 _ r2 hlt
    have m2 := l3 _ Nat.and_le_right hBF
    unfold btwV at m2
    rw [hB] at m2
    omega
  · exact he
  · have := l4 (B &&& ((a ||| b) ^^^ (2 ^ n - 1))) (by omega) hBF
    unfold btwV at this
    rw [hB] at this
    omega

end Go.Proofs.Ytlfbgaapigcpjaa.M
