/-
  The contracts of the law's own helpers on functions (a number and a list): size, copy, comparison, marks.
  The parts of a set, one after another, as plain mathematics.
  The least part of a set: what a walk over its parts keeps, as plain mathematics.
  How far weights lie below values: the least of some sets, as plain mathematics.
-/
import Derived.Test.YtffbiflgmlabaaaGreatDoorBase
import Derived.Test.YtffbiflgmlabaaaGreatDoorAllM
namespace Go.Proofs.YtffbiflgmlabaaaGreatDoor.C
open Go.RowKit K
set_option linter.unusedVariables false
set_option linter.unusedSimpArgs false

end Go.Proofs.YtffbiflgmlabaaaGreatDoor.C

namespace Go.Proofs.YtffbiflgmlabaaaGreatDoor.M
open Go.RowKit
set_option linter.unusedVariables false

/-- Part number i of s, in ascending order. -/
def partN (s i : Nat) : Nat := spread (els s) i (ones s)
def parts (s : Nat) : List Int := tab (2 ^ ones s) fun i => ((partN s i : Nat) : Int)
theorem parts_len (s : Nat) : (parts s).length = 2 ^ ones s := tab_length _ _
theorem parts_at {s i : Nat} (h : i < 2 ^ ones s) : (parts s).getD i 0 = ((partN s i : Nat) : Int) := by unfold parts; rw [tab_at _ h]
theorem part_zero (s : Nat) : partN s 0 = 0 := spread_zero _ _
theorem part_le : ∀ s, s < 32 → ∀ i, i < 32 → partN s i ≤ s := by decide +kernel
theorem part_up : ∀ s, s < 32 → ∀ i, i < 32 → i + 1 < 2 ^ ones s → partN s i < partN s (i + 1) := by decide +kernel
theorem part_last : ∀ s, s < 32 → partN s (2 ^ ones s - 1) = s := by decide +kernel
theorem part_next : ∀ s, s < 32 → ∀ i, i < 32 → i + 1 < 2 ^ ones s → bits .and .i64 (IntKind.i64.wrap (bits .or .i64 (partN s i : Int) (bits .xor .i64 (-1) (s : Int)) + 1)) (s : Int) = ((partN s (i + 1) : Nat) : Int) := by decide +kernel
theorem ones_pow {s : Nat} (h : s < 32) : 2 ^ ones s ≤ 32 := by
  have h1 := ones_le5 5 (Nat.le_refl _) s (by omega)
  exact Nat.le_trans (Nat.pow_le_pow_right (by decide) h1) (by decide)
theorem part_ne {s i : Nat} (h : s < 32) (hi : i + 1 < 2 ^ ones s) : ((partN s i : Int) == (s : Int)) = false := by
  have h1 := ones_pow h
  have h2 := part_up s h i (by omega) hi
  have h3 := part_le s h (i + 1) (by omega)
  exact beq_eq_false_iff_ne.2 (by omega)
theorem part_end {s i : Nat} (h : s < 32) (hi : i + 1 = 2 ^ ones s) : partN s i = s := by
  have := part_last s h
  rwa [← hi, Nat.add_sub_cancel] at this
theorem restV_part (xs : List Int) (s i : Nat) : restV xs s i = xs.getD (partN s i) 0 := rfl
theorem contV_part (xs : List Int) (s r i : Nat) : contV xs s r i = xs.getD (s ||| partN r i) 0 - xs.getD s 0 := rfl

end Go.Proofs.YtffbiflgmlabaaaGreatDoor.M

namespace Go.Proofs.YtffbiflgmlabaaaGreatDoor.M
open Go.RowKit
set_option linter.unusedVariables false
set_option linter.unusedSimpArgs false

/-- The best of those that have come. -/
def bestOf (v : Nat → Int) (l : List Nat) : Nat := l.foldl (fun b x => if v x < v b then x else b) 0
theorem best_nil (v : Nat → Int) : bestOf v [] = 0 := rfl
theorem best_snoc (v : Nat → Int) (l : List Nat) (x : Nat) : bestOf v (l ++ [x]) = if v x < v (bestOf v l) then x else bestOf v l := by
  unfold bestOf; rw [List.foldl_append]; rfl
/-- The least part of s up to c of the least value. -/
def leastTo (v : Nat → Int) (s : Nat) : Nat → Nat
  | 0 => 0
  | x + 1 => if (x + 1) &&& s = x + 1 ∧ v (x + 1) < v (leastTo v s x) then x + 1 else leastTo v s x
theorem least_split (xs ys : List Int) (s : Nat) : ∀ c, leastTo (partV xs ys s) s c = splitTo xs ys s c
  | 0 => rfl
  | c + 1 => by unfold leastTo splitTo; rw [least_split xs ys s c]
theorem least_in (v : Nat → Int) (s : Nat) : ∀ c, leastTo v s c &&& s = leastTo v s c ∧ leastTo v s c ≤ c
  | 0 => by simp [leastTo]
  | c + 1 => by
    have ih := least_in v s c
    unfold leastTo
    split
    · rename_i h; exact ⟨h.1, Nat.le_refl _⟩
    · exact ⟨ih.1, by omega⟩
theorem least_min (v : Nat → Int) (s : Nat) : ∀ c x, x ≤ c → x &&& s = x → v (leastTo v s c) ≤ v x
  | 0, x, hx, _ => by
    obtain rfl : x = 0 := by omega
    exact Int.le_refl _
  | c + 1, x, hx, hs => by
    have ih := least_min v s c
    unfold leastTo
    split
    · rename_i h
      by_cases e : x = c + 1
      · subst e; exact Int.le_refl _
      · have := ih x (by omega) hs; omega
    · rename_i h
      by_cases e : x = c + 1
      · subst e
        by_cases hlt : v (c + 1) < v (leastTo v s c)
        · exact absurd ⟨hs, hlt⟩ h
        · omega
      · exact ih x (by omega) hs
theorem best_least (v : Nat → Int) (s : Nat) : ∀ c, bestOf v ((List.range (c + 1)).filter fun x => x &&& s == x) = leastTo v s c
  | 0 => by
    have h : (List.range (0 + 1)).filter (fun x => x &&& s == x) = [0] := by
      simp [List.range_succ]
    rw [h]
    unfold bestOf leastTo
    simp
  | c + 1 => by
    have ih := best_least v s c
    rw [List.range_succ, List.filter_append]
    unfold leastTo
    by_cases h : (c + 1) &&& s = c + 1
    · rw [List.filter_cons_of_pos (by simpa using h), List.filter_nil, best_snoc, ih]
      by_cases hv : v (c + 1) < v (leastTo v s c)
      · rw [if_pos hv, if_pos ⟨h, hv⟩]
      · rw [if_neg hv, if_neg fun hh => hv hh.2]
    · rw [List.filter_cons_of_neg (by simpa using h), List.filter_nil, List.append_nil, ih, if_neg fun hh => h hh.1]
theorem parts_filter : ∀ s, s < 32 → (List.range (2 ^ ones s)).map (partN s) = (List.range (s + 1)).filter fun x => x &&& s == x := by decide +kernel
theorem best_parts (v : Nat → Int) {s : Nat} (h : s < 32) : bestOf v ((List.range (2 ^ ones s)).map (partN s)) = leastTo v s s := by
  rw [parts_filter s h, best_least]
theorem part_in : ∀ s, s < 32 → ∀ i, i < 32 → i < 2 ^ ones s → partN s i &&& s = partN s i := by decide +kernel
/-- A part of s. -/
abbrev Part (s : Nat) := { x : Nat // x &&& s = x }
def partP (s : Nat) (i : Nat) : Part s := if h : partN s i &&& s = partN s i then ⟨partN s i, h⟩ else ⟨0, by simp⟩
theorem partP_val {s i : Nat} (h : s < 32) (hi : i < 2 ^ ones s) : (partP s i).1 = partN s i := by
  unfold partP
  rw [dif_pos (part_in s h i (by have := ones_pow h; omega) hi)]
theorem best_partsP (v : Nat → Int) {s : Nat} (h : s < 32) : bestOf v (((List.range (2 ^ ones s)).map (partP s)).map Subtype.val) = leastTo v s s := by
  rw [← best_parts v h, List.map_map]
  refine congrArg _ (List.map_congr_left fun i hi => ?_)
  exact partP_val h (List.mem_range.1 hi)
theorem split_best (xs ys : List Int) {s : Nat} (h : s < 32) : bestOf (partV xs ys s) (((List.range (2 ^ ones s)).map (partP s)).map Subtype.val) = split xs ys s := by
  rw [best_partsP _ h, least_split]; rfl
-- hulls
def supV (xs : List Int) (s x : Nat) : Int := xs.getD (s ||| x) 0
theorem compl_sup : ∀ n, n < 6 → ∀ s, s < 2 ^ n → ∀ x, x < 2 ^ n → x &&& s = s → s ||| (x &&& compl n s) = x := by decide +kernel
theorem hull_least {n : Nat} {xs : List Int} {s : Nat} (h5 : n ≤ 5) (hl : xs.length = 2 ^ n) (hs : s < 2 ^ n) : supV xs s (leastTo (supV xs s) (compl n s) (compl n s)) = hullV xs s := by
  obtain ⟨h1, h2⟩ := least_in (supV xs s) (compl n s) (compl n s)
  have hmin := least_min (supV xs s) (compl n s) (compl n s)
  obtain ⟨x, hx1, hx2, hx3⟩ := hull_at (xs := xs) (s := s) (by omega)
  have hc : compl n s < 2 ^ n := by unfold compl; have := Nat.two_pow_pos n; omega
  have ha := hmin (x &&& compl n s) Nat.and_le_right (by rw [Nat.and_assoc, Nat.and_self])
  unfold supV at ha ⊢
  rw [compl_sup n (by omega) s hs x (by omega) hx1] at ha
  have hb := hull_le (xs := xs) (s := s) (x := s ||| leastTo (supV xs s) (compl n s) (compl n s)) (by rw [hl]; exact Nat.or_lt_two_pow hs (by omega)) (by
    apply Nat.eq_of_testBit_eq; intro q
    rw [Nat.testBit_and, Nat.testBit_or]
    cases s.testBit q <;> simp)
  unfold supV at hb
  omega
theorem xor_part : ∀ s : Nat, s < 32 → ∀ x : Nat, x < 32 → x &&& s = x → bits .xor .i64 (s : Int) (x : Int) = ((s - x : Nat) : Int) := by decide +kernel

end Go.Proofs.YtffbiflgmlabaaaGreatDoor.M

namespace Go.Proofs.YtffbiflgmlabaaaGreatDoor.M
set_option linter.unusedVariables false
set_option linter.unusedSimpArgs false

/-- How far the weight of the sets c and x lies below its value. -/
def slackV (xs ws : List Int) (c x : Nat) : Int := xs.getD (c ||| x) 0 - weigh ws (c ||| x) ws.length
theorem cap_le {xs ws : List Int} {p : Nat → Bool} : ∀ m s, s < m → p s = true → capTo xs ws p m ≤ xs.getD s 0 - weigh ws s ws.length
  | 0, s, h, _ => absurd h (by omega)
  | m + 1, s, h, hp => by
    unfold capTo
    by_cases e : s = m
    · subst e
      rw [if_pos hp]
      omega
    · have := cap_le (xs := xs) (ws := ws) (p := p) m s (by omega) hp
      split <;> omega
theorem cap_at {xs ws : List Int} {p : Nat → Bool} : ∀ m, capTo xs ws p m = 100000 ∨ ∃ s, s < m ∧ p s = true ∧ capTo xs ws p m = xs.getD s 0 - weigh ws s ws.length
  | 0 => .inl rfl
  | m + 1 => by
    unfold capTo
    by_cases hp : p m = true
    · rw [if_pos hp]
      by_cases hm : capTo xs ws p m ≤ xs.getD m 0 - weigh ws m ws.length
      · rw [Int.min_eq_left hm]
        rcases cap_at (xs := xs) (ws := ws) (p := p) m with h | ⟨s, h1, h2, h3⟩
        · exact .inl h
        · exact .inr ⟨s, by omega, h2, h3⟩
      · exact .inr ⟨m, by omega, hp, by omega⟩
    · rw [if_neg hp]
      rcases cap_at (xs := xs) (ws := ws) (p := p) m with h | ⟨s, h1, h2, h3⟩
      · exact .inl h
      · exact .inr ⟨s, by omega, h2, h3⟩
theorem cap_least {xs ws : List Int} {p : Nat → Bool} {c F n : Nat} (hl : xs.length = 2 ^ n) (hin : ∀ x, x &&& F = x → (c ||| x) < 2 ^ n ∧ p (c ||| x) = true) (hout : ∀ s, s < 2 ^ n → p s = true → c ||| (s &&& F) = s)
    (hb : ∀ s, s < 2 ^ n → xs.getD s 0 - weigh ws s ws.length ≤ 100000) : capTo xs ws p xs.length = slackV xs ws c (leastTo (slackV xs ws c) F F) := by
  obtain ⟨h1, h2⟩ := least_in (slackV xs ws c) F F
  have hmin := least_min (slackV xs ws c) F F
  obtain ⟨a1, a2⟩ := hin _ h1
  have hle : capTo xs ws p xs.length ≤ slackV xs ws c (leastTo (slackV xs ws c) F F) := cap_le xs.length _ (by rw [hl]; exact a1) a2
  have hup := hb _ a1
  rcases cap_at (xs := xs) (ws := ws) (p := p) xs.length with h | ⟨s, b1, b2, b3⟩
  · have h3 : slackV xs ws c (leastTo (slackV xs ws c) F F) ≤ 100000 := hup
    omega
  · rw [hl] at b1
    have h3 := hmin (s &&& F) Nat.and_le_right (by rw [Nat.and_assoc, Nat.and_self])
    have h4 : slackV xs ws c (s &&& F) = xs.getD s 0 - weigh ws s ws.length := by unfold slackV; rw [hout s b1 b2]
    omega
theorem below_least {xs ws : List Int} {n : Nat} (hl : xs.length = 2 ^ n) : belowTo xs ws xs.length = decide (0 ≤ slackV xs ws 0 (leastTo (slackV xs ws 0) (2 ^ n - 1) (2 ^ n - 1))) := by
  have hp := Nat.two_pow_pos n
  obtain ⟨h1, h2⟩ := least_in (slackV xs ws 0) (2 ^ n - 1) (2 ^ n - 1)
  have hmin := least_min (slackV xs ws 0) (2 ^ n - 1) (2 ^ n - 1)
  have hz : ∀ x, slackV xs ws 0 x = xs.getD x 0 - weigh ws x ws.length := fun x => by unfold slackV; rw [Nat.zero_or]
  generalize leastTo (slackV xs ws 0) (2 ^ n - 1) (2 ^ n - 1) = r at *
  by_cases h0 : 0 ≤ slackV xs ws 0 r
  · rw [decide_eq_true h0, below_at]
    intro s hs
    have h3 := hmin s (by omega) (by rw [Nat.and_two_pow_sub_one_eq_mod]; exact Nat.mod_eq_of_lt (by omega))
    rw [hz, hz] at h3
    rw [hz] at h0
    omega
  · rw [decide_eq_false h0]
    rw [hz] at h0
    exact below_no (s := r) (by omega) (by omega)
/-- All sets; those with e; those with e and without d. -/
def freeAll (n : Nat) : Nat := (0 ||| 0) ^^^ (2 ^ n - 1)
def freeOne (n e : Nat) : Nat := ((0 ||| 2 ^ e) ||| 0) ^^^ (2 ^ n - 1)
def freeTwo (n e d : Nat) : Nat := ((0 ||| 2 ^ e) ||| (0 ||| 2 ^ d)) ^^^ (2 ^ n - 1)
theorem freeAll_eq (n : Nat) : freeAll n = 2 ^ n - 1 := by unfold freeAll; simp
theorem freeAll_lt : ∀ n, n < 6 → freeAll n < 2 ^ n := by decide
theorem freeOne_lt : ∀ n, n < 6 → ∀ e, e < n → freeOne n e < 2 ^ n := by decide
theorem freeTwo_lt : ∀ n, n < 6 → ∀ e, e < n → ∀ d, d < n → freeTwo n e d < 2 ^ n := by decide
theorem one_in' : ∀ n, n < 6 → ∀ e, e < n → ∀ x, x < 2 ^ n → x &&& freeOne n e = x → ((0 ||| 2 ^ e) ||| x) < 2 ^ n ∧ ((0 ||| 2 ^ e) ||| x).testBit e = true := by decide +kernel
theorem one_in {n e : Nat} (hn : n ≤ 5) (he : e < n) (x : Nat) (hx : x &&& freeOne n e = x) : ((0 ||| 2 ^ e) ||| x) < 2 ^ n ∧ ((0 ||| 2 ^ e) ||| x).testBit e = true :=
  one_in' n (by omega) e he x (by have h1 := freeOne_lt n (by omega) e he; have h2 : x &&& freeOne n e ≤ freeOne n e := Nat.and_le_right; omega) hx
theorem one_out : ∀ n, n < 6 → ∀ e, e < n → ∀ s, s < 2 ^ n → s.testBit e = true → (0 ||| 2 ^ e) ||| (s &&& freeOne n e) = s := by decide +kernel
theorem two_in' : ∀ n, n < 6 → ∀ e, e < n → ∀ d, d < n → ∀ x, x < 2 ^ n → (x &&& freeTwo n e d != x || e == d || (decide (((0 ||| 2 ^ e) ||| x) < 2 ^ n) && (((0 ||| 2 ^ e) ||| x).testBit e && !((0 ||| 2 ^ e) ||| x).testBit d))) = true := by decide +kernel
theorem two_in {n e d : Nat} (hn : n ≤ 5) (he : e < n) (hd : d < n) (hed : e ≠ d) (x : Nat) (hx : x &&& freeTwo n e d = x) : ((0 ||| 2 ^ e) ||| x) < 2 ^ n ∧ (((0 ||| 2 ^ e) ||| x).testBit e && !((0 ||| 2 ^ e) ||| x).testBit d) = true := by
  have h1 := freeTwo_lt n (by omega) e he d hd
  have h2 : x &&& freeTwo n e d ≤ freeTwo n e d := Nat.and_le_right
  have h3 := two_in' n (by omega) e he d hd x (by omega)
  rw [hx, show (x != x) = false by simp, show (e == d) = false from beq_eq_false_iff_ne.2 hed, Bool.false_or, Bool.false_or, Bool.and_eq_true, decide_eq_true_eq] at h3
  exact h3
theorem two_out : ∀ n, n < 6 → ∀ e, e < n → ∀ d, d < n → ∀ s, s < 2 ^ n → (s.testBit e && !s.testBit d) = true → (0 ||| 2 ^ e) ||| (s &&& freeTwo n e d) = s := by decide +kernel
theorem slack_bd {xs ws : List Int} (hv : ∀ k, k < xs.length → -1000 ≤ xs.getD k 0 ∧ xs.getD k 0 ≤ 1000) (h : isVec5 ws = true) (s : Nat) (hs : s < xs.length) : -26000 ≤ xs.getD s 0 - weigh ws s ws.length ∧ xs.getD s 0 - weigh ws s ws.length ≤ 26000 := by
  have h1 := hv s hs
  have h2 := vec5_weigh h s
  omega
theorem tight_len (n : Int) (xs ws : List Int) : (tightSets n xs ws).1.length ≤ 1048576 := by
  unfold tightSets
  cases q : isBelow n xs ws
  · simp
  · have h1 := tightTo_len xs ws xs.length
    have h2 := (isFn_len (ground_fn (isBelow_yes q).1)).2
    show (tightTo xs ws xs.length).length ≤ 1048576
    omega

end Go.Proofs.YtffbiflgmlabaaaGreatDoor.M
