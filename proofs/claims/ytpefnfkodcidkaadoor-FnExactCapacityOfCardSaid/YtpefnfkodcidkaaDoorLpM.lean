/-
  The least part of a set: what a walk over its parts keeps, as plain mathematics.
-/
import Derived.Test.YtpefnfkodcidkaaDoorCvM
import Derived.Test.YtpefnfkodcidkaaDoorPtM
namespace Go.Proofs.YtpefnfkodcidkaaDoor.M
open Go.RowKit
set_option linter.unusedVariables false
set_option linter.unusedSimpArgs false

/-- The best of those that have come. -/
def bestOf (v : Nat → Int) (l : List Nat) : Nat := l.foldl (fun b x => if v x < v b then x else b) 0
theorem best_nil (v : Nat → Int) : bestOf v [] = 0 := rfl
theorem best_snoc (v : Nat → Int) (l : List Nat) (x : Nat) : bestOf v (l ++ [x]) = if v x < v (bestOf v l) then x else bestOf v l := by
  unfold bestOf; rw [List.foldl_append]; rfl
/-- The least part of s up to c of the least value. -/
def leastTo (v : Nat → Int) (s : Nat) : Nat → Nat
  | 0 => 0
  | x + 1 => if (x + 1) &&& s = x + 1 ∧ v (x + 1) < v (leastTo v s x) then x + 1 else leastTo v s x
theorem least_split (xs ys : List Int) (s : Nat) : ∀ c, leastTo (partV xs ys s) s c = splitTo xs ys s c
  | 0 => rfl
  | c + 1 => by unfold leastTo splitTo; rw [least_split xs ys s c]
theorem least_in (v : Nat → Int) (s : Nat) : ∀ c, leastTo v s c &&& s = leastTo v s c ∧ leastTo v s c ≤ c
  | 0 => by simp [leastTo]
  | c + 1 => by
    have ih := least_in v s c
    unfold leastTo
    split
    · rename_i h; exact ⟨h.1, Nat.le_refl _⟩
    · exact ⟨ih.1, by omega⟩
theorem least_min (v : Nat → Int) (s : Nat) : ∀ c x, x ≤ c → x &&& s = x → v (leastTo v s c) ≤ v x
  | 0, x, hx, _ => by
    obtain rfl : x = 0 := by omega
    exact Int.le_refl _
  | c + 1, x, hx, hs => by
    have ih := least_min v s c
    unfold leastTo
    split
    · rename_i h
      by_cases e : x = c + 1
      · subst e; exact Int.le_refl _
      · have := ih x (by omega) hs; omega
    · rename_i h
      by_cases e : x = c + 1
      · subst e
        by_cases hlt : v (c + 1) < v (leastTo v s c)
        · exact absurd ⟨hs, hlt⟩ h
        · omega
      · exact ih x (by omega) hs
theorem best_least (v : Nat → Int) (s : Nat) : ∀ c, bestOf v ((List.range (c + 1)).filter fun x => x &&& s == x) = leastTo v s c
  | 0 => by
    have h : (List.range (0 + 1)).filter (fun x => x &&& s == x) = [0] := by
      simp [List.range_succ]
    rw [h]
    unfold bestOf leastTo
    simp
  | c + 1 => by
    have ih := best_least v s c
    rw [List.range_succ, List.filter_append]
    unfold leastTo
    by_cases h : (c + 1) &&& s = c + 1
    · rw [List.filter_cons_of_pos (by simpa using h), List.filter_nil, best_snoc, ih]
      by_cases hv : v (c + 1) < v (leastTo v s c)
      · rw [if_pos hv, if_pos ⟨h, hv⟩]
      · rw [if_neg hv, if_neg fun hh => hv hh.2]
    · rw [List.filter_cons_of_neg (by simpa using h), List.filter_nil, List.append_nil, ih, if_neg fun hh => h hh.1]
theorem parts_filter : ∀ s, s < 32 → (List.range (2 ^ ones s)).map (partN s) = (List.range (s + 1)).filter fun x => x &&& s == x := by decide +kernel
theorem best_parts (v : Nat → Int) {s : Nat} (h : s < 32) : bestOf v ((List.range (2 ^ ones s)).map (partN s)) = leastTo v s s := by
  rw [parts_filter s h, best_least]
theorem part_in : ∀ s, s < 32 → ∀ i, i < 32 → i < 2 ^ ones s → partN s i &&& s = partN s i := by decide +kernel
/-- A part of s. -/
abbrev Part (s : Nat) := { x : Nat // x &&& s = x }
def partP (s : Nat) (i : Nat) : Part s := if h : partN s i &&& s = partN s i then ⟨partN s i, h⟩ else ⟨0, by simp⟩
theorem partP_val {s i : Nat} (h : s < 32) (hi : i < 2 ^ ones s) : (partP s i).1 = partN s i := by
  unfold partP
  rw [dif_pos (part_in s h i (by have := ones_pow h; omega) hi)]
theorem best_partsP (v : Nat → Int) {s : Nat} (h : s < 32) : bestOf v (((List.range (2 ^ ones s)).map (partP s)).map Subtype.val) = leastTo v s s := by
  rw [← best_parts v h, List.map_map]
  refine congrArg _ (List.map_congr_left fun i hi => ?_)
  exact partP_val h (List.mem_range.1 hi)
theorem split_best (xs ys : List Int) {s : Nat} (h : s < 32) : bestOf (partV xs ys s) (((List.range (2 ^ ones s)).map (partP s)).map Subtype.val) = split xs ys s := by
  rw [best_partsP _ h, least_split]; rfl
-- hulls
def supV (xs : List Int) (s x : Nat) : Int := xs.getD (s ||| x) 0
theorem compl_sup : ∀ n, n < 6 → ∀ s, s < 2 ^ n → ∀ x, x < 2 ^ n → x &&& s = s → s ||| (x &&& compl n s) = x := by decide +kernel
theorem hull_least {n : Nat} {xs : List Int} {s : Nat} (h5 : n ≤ 5) (hl : xs.length = 2 ^ n) (hs : s < 2 ^ n) : supV xs s (leastTo (supV xs s) (compl n s) (compl n s)) = hullV xs s := by
  obtain ⟨h1, h2⟩ := least_in (supV xs s) (compl n s) (compl n s)
  have hmin := least_min (supV xs s) (compl n s) (compl n s)
  obtain ⟨x, hx1, hx2, hx3⟩ := hull_at (xs := xs) (s := s) (by omega)
  have hc : compl n s < 2 ^ n := by unfold compl; have := Nat.two_pow_pos n; omega
  have ha := hmin (x &&& compl n s) Nat.and_le_right (by rw [Nat.and_assoc, Nat.and_self])
  unfold supV at ha ⊢
  rw [compl_sup n (by omega) s hs x (by omega) hx1] at ha
  have hb := hull_le (xs := xs) (s := s) (x := s ||| leastTo (supV xs s) (compl n s) (compl n s)) (by rw [hl]; exact Nat.or_lt_two_pow hs (by omega)) (by
    apply Nat.eq_of_testBit_eq; intro q
    rw [Nat.testBit_and, Nat.testBit_or]
    cases s.testBit q <;> simp)
  unfold supV at hb
  omega
theorem xor_part : ∀ s : Nat, s < 32 → ∀ x : Nat, x < 32 → x &&& s = x → bits .xor .i64 (s : Int) (x : Int) = ((s - x : Nat) : Int) := by decide +kernel

end Go.Proofs.YtpefnfkodcidkaaDoor.M
