/-
  Convolutions, increasing hulls, truncations as plain mathematics.
-/
import Derived.Test.YtlbefommcahkeaaReM
namespace Go.Proofs.Ytlbefommcahkeaa.M
set_option linter.unusedVariables false
set_option linter.unusedSimpArgs false

/-- f of a part and g of the rest. -/
def partV (xs ys : List Int) (s x : Nat) : Int := xs.getD x 0 + ys.getD (s - x) 0
/-- The least part below c with the least sum. -/
def splitTo (xs ys : List Int) (s : Nat) : Nat → Nat
  | 0 => 0
  | x + 1 => if (x + 1) &&& s = x + 1 ∧ partV xs ys s (x + 1) < partV xs ys s (splitTo xs ys s x) then x + 1 else splitTo xs ys s x
def split (xs ys : List Int) (s : Nat) : Nat := splitTo xs ys s s
def convV (xs ys : List Int) (s : Nat) : Int := partV xs ys s (split xs ys s)
def fits (n : Int) (xs : List Int) (m : Int) (ys : List Int) : Bool := isFn n xs && (isFn m ys && decide (n = m))
def convFn (n : Int) (xs : List Int) (m : Int) (ys : List Int) : Int × List Int × Bool := if fits n xs m ys = true then made n (tab xs.length (convV xs ys)) else (0, [], false)
def splitOf (n : Int) (xs : List Int) (m : Int) (ys : List Int) (s : Int) : Int × Bool := if fits n xs m ys = true ∧ isSet n s = true then (((split xs ys s.toNat : Nat) : Int), true) else (0, false)
/-- The least value of those from s on, c of them, that contain s. -/
def hullTo (xs : List Int) (s : Nat) : Nat → Int
  | 0 => xs.getD s 0
  | c + 1 => if (s + c) &&& s = s then min (hullTo xs s c) (xs.getD (s + c) 0) else hullTo xs s c
def hullV (xs : List Int) (s : Nat) : Int := hullTo xs s (xs.length - s)
def hullFn (n : Int) (xs : List Int) : Int × List Int × Bool := if isFn n xs = true then (n, tab xs.length (hullV xs), true) else (0, [], false)
def truncV (xs : List Int) (k : Int) (s : Nat) : Int := min k (xs.getD s 0)
def truncFn (n : Int) (xs : List Int) (k : Int) : Int × List Int × Bool := if isFn n xs = true ∧ -1000 ≤ k ∧ k ≤ 1000 then (n, tab xs.length (truncV xs k), true) else (0, [], false)
def reduceFn (n : Int) (xs ws : List Int) : Int × List Int × Bool := if (modFn ws 0).2.2 = true ∧ isFn n xs = true ∧ (modFn ws 0).1 = n then convFn n xs (modFn ws 0).1 (modFn ws 0).2.1 else (0, [], false)
theorem convFn_len (n : Int) (xs : List Int) (m : Int) (ys : List Int) : (convFn n xs m ys).2.1.length ≤ 32 := by
  unfold convFn; split <;> first | exact made_len _ _ | exact Nat.zero_le _
theorem hullFn_len (n : Int) (xs : List Int) : (hullFn n xs).2.1.length ≤ 32 := by
  unfold hullFn
  split
  · rename_i h
    show (tab _ _).length ≤ 32
    rw [tab_length]; exact (isFn_len h).2
  · exact Nat.zero_le _
theorem truncFn_len (n : Int) (xs : List Int) (k : Int) : (truncFn n xs k).2.1.length ≤ 32 := by
  unfold truncFn
  split
  · rename_i h
    show (tab _ _).length ≤ 32
    rw [tab_length]; exact (isFn_len h.1).2
  · exact Nat.zero_le _
theorem reduceFn_len (n : Int) (xs ws : List Int) : (reduceFn n xs ws).2.1.length ≤ 32 := by
  unfold reduceFn; split <;> first | exact convFn_len _ _ _ _ | exact Nat.zero_le _
theorem fits_yes {n : Int} {xs : List Int} {m : Int} {ys : List Int} (h : fits n xs m ys = true) : isFn n xs = true ∧ isFn m ys = true ∧ n = m := by
  unfold fits at h
  simpa using h

-- the split
theorem splitTo_in (xs ys : List Int) (s : Nat) : ∀ c, splitTo xs ys s c &&& s = splitTo xs ys s c ∧ splitTo xs ys s c ≤ c
  | 0 => by simp [splitTo]
  | c + 1 => by
    have ih := splitTo_in xs ys s c
    unfold splitTo
    split
    · rename_i h; exact ⟨h.1, Nat.le_refl _⟩
    · exact ⟨ih.1, by omega⟩
theorem splitTo_min (xs ys : List Int) (s : Nat) : ∀ c x, x ≤ c → x &&& s = x → partV xs ys s (splitTo xs ys s c) ≤ partV xs ys s x
  | 0, x, hx, _ => by
    obtain rfl : x = 0 := by omega
    exact Int.le_refl _
  | c + 1, x, hx, hs => by
    have ih := splitTo_min xs ys s c
    unfold splitTo
    split
    · rename_i h
      by_cases e : x = c + 1
      · subst e; exact Int.le_refl _
      · have := ih x (by omega) hs; omega
    · rename_i h
      by_cases e : x = c + 1
      · subst e
        by_cases hlt : partV xs ys s (c + 1) < partV xs ys s (splitTo xs ys s c)
        · exact absurd ⟨hs, hlt⟩ h
        · omega
      · exact ih x (by omega) hs
theorem and_le_of {x s : Nat} (h : x &&& s = x) : x ≤ s := by
  have := Nat.and_le_right (n := x) (m := s)
  omega
theorem split_in (xs ys : List Int) (s : Nat) : split xs ys s &&& s = split xs ys s ∧ split xs ys s ≤ s := splitTo_in xs ys s s
theorem split_min (xs ys : List Int) {s x : Nat} (h : x &&& s = x) : convV xs ys s ≤ partV xs ys s x := splitTo_min xs ys s s x (and_le_of h) h
-- the hull
theorem hullTo_at (xs : List Int) (s : Nat) : ∀ c, ∃ x, x &&& s = s ∧ (x = s ∨ x < s + c) ∧ hullTo xs s c = xs.getD x 0
  | 0 => ⟨s, Nat.and_self s, .inl rfl, rfl⟩
  | c + 1 => by
    obtain ⟨x, h1, h2, h3⟩ := hullTo_at xs s c
    unfold hullTo
    split
    · rename_i h
      by_cases hm : hullTo xs s c ≤ xs.getD (s + c) 0
      · exact ⟨x, h1, by omega, by rw [← h3]; omega⟩
      · exact ⟨s + c, h, by omega, by omega⟩
    · exact ⟨x, h1, by omega, h3⟩
theorem hullTo_le (xs : List Int) (s : Nat) : ∀ c, hullTo xs s c ≤ xs.getD s 0 ∧ ∀ d, d < c → (s + d) &&& s = s → hullTo xs s c ≤ xs.getD (s + d) 0
  | 0 => ⟨Int.le_refl _, fun d hd => absurd hd (by omega)⟩
  | c + 1 => by
    obtain ⟨h1, h2⟩ := hullTo_le xs s c
    unfold hullTo
    split
    · rename_i h
      refine ⟨by omega, fun d hd hs => ?_⟩
      by_cases e : d = c
      · subst e; omega
      · have := h2 d (by omega) hs; omega
    · rename_i h
      refine ⟨h1, fun d hd hs => ?_⟩
      by_cases e : d = c
      · subst e; exact absurd hs h
      · exact h2 d (by omega) hs
theorem hull_at {xs : List Int} {s : Nat} (hs : s < xs.length) : ∃ x, x &&& s = s ∧ x < xs.length ∧ hullV xs s = xs.getD x 0 := by
  obtain ⟨x, h1, h2, h3⟩ := hullTo_at xs s (xs.length - s)
  exact ⟨x, h1, by omega, h3⟩
theorem hull_le {xs : List Int} {s x : Nat} (hx : x < xs.length) (h : x &&& s = s) : hullV xs s ≤ xs.getD x 0 := by
  have hle : s ≤ x := by
    have := Nat.and_le_left (n := x) (m := s)
    omega
  have := (hullTo_le xs s (xs.length - s)).2 (x - s) (by omega) (by rw [show s + (x - s) = x by omega]; exact h)
  rwa [show s + (x - s) = x by omega] at this

-- submodular functions, by unions and intersections
structure Sb (n : Nat) (xs : List Int) : Prop where
  len : xs.length = 2 ^ n
  sub : ∀ s i k, s < 2 ^ n → i < n → k < n → i ≠ k → s.testBit i = false → s.testBit k = false → xs.getD (s ||| 2 ^ i ||| 2 ^ k) 0 + xs.getD s 0 ≤ xs.getD (s ||| 2 ^ i) 0 + xs.getD (s ||| 2 ^ k) 0
theorem sb_of {n : Nat} {xs : List Int} (h : isSub (n : Int) xs = true) : Sb n xs := by
  obtain ⟨hf, hsub⟩ := sub_iff.1 h
  obtain ⟨-, -, hl, -⟩ := isFn_yes hf
  rw [Int.toNat_natCast] at hl
  refine ⟨hl, fun s i k hs hi hk hne t1 t2 => ?_⟩
  rcases Nat.lt_or_gt_of_ne hne with hlt | hlt
  · exact bad_false (n := n) (hsub s i k (by omega) hi hk hlt) t1 t2
  · have := bad_false (n := n) (hsub s k i (by omega) hk hi hlt) t2 t1
    rw [or_swap] at this
    omega
/-- To be submodular it is enough that any two supersets by one element do. -/
theorem sub_of {n : Nat} {xs : List Int} (hf : isFn (n : Int) xs = true) (h : ∀ s i k, s < 2 ^ n → i < n → k < n → i < k → s.testBit i = false → s.testBit k = false → xs.getD (s ||| 2 ^ i ||| 2 ^ k) 0 + xs.getD s 0 ≤ xs.getD (s ||| 2 ^ i) 0 + xs.getD (s ||| 2 ^ k) 0) : isSub (n : Int) xs = true := by
  obtain ⟨-, -, hl, -⟩ := isFn_yes hf
  rw [Int.toNat_natCast] at hl
  refine sub_iff.2 ⟨hf, fun s i k hs hi hk hik => ?_⟩
  unfold bad
  cases t1 : s.testBit i
  · cases t2 : s.testBit k
    · have := h s i k (by omega) hi hk hik t1 t2
      simp only [Bool.not_false, Bool.true_and, decide_eq_false_iff_not]
      omega
    · simp
  · simp
theorem low_bit (D j q : Nat) : (D % 2 ^ j).testBit q = (decide (q < j) && D.testBit q) := Nat.testBit_mod_two_pow D j q
theorem Sb.gain_low {n : Nat} {xs : List Int} (p : Sb n xs) {S D e : Nat} (hS : S < 2 ^ n) (hD : D < 2 ^ n) (he : e < n) (ht : (S ||| D).testBit e = false) : ∀ j, j ≤ n → xs.getD ((S ||| D % 2 ^ j) ||| 2 ^ e) 0 + xs.getD S 0 ≤ xs.getD (S ||| D % 2 ^ j) 0 + xs.getD (S ||| 2 ^ e) 0
  | 0, _ => by rw [Nat.pow_zero, Nat.mod_one, Nat.or_zero]; omega
  | j + 1, hj => by
    have ih := Sb.gain_low p hS hD he ht j (by omega)
    have hT := low_lt hS hD j
    rw [Nat.testBit_or, Bool.or_eq_false_iff] at ht
    rw [or_low]
    split
    · rename_i hd
      have hTe : (S ||| D % 2 ^ j).testBit e = false := by rw [Nat.testBit_or, low_bit, ht.1, ht.2]; simp
      have hje : j ≠ e := fun h => by subst h; rw [ht.2] at hd; cases hd
      generalize S ||| D % 2 ^ j = T at ih hT hTe ⊢
      by_cases t1 : T.testBit j = true
      · rwa [or_bit t1]
      · have := p.sub T j e hT (by omega) he hje (by simpa using t1) hTe
        omega
    · exact ih
theorem Sb.gain {n : Nat} {xs : List Int} (p : Sb n xs) {S T e : Nat} (hS : S < 2 ^ n) (hT : T < 2 ^ n) (h : S ||| T = T) (he : e < n) (ht : T.testBit e = false) : xs.getD (T ||| 2 ^ e) 0 + xs.getD S 0 ≤ xs.getD T 0 + xs.getD (S ||| 2 ^ e) 0 := by
  have := p.gain_low hS hT he (by rw [h]; exact ht) n (Nat.le_refl _)
  rwa [Nat.mod_eq_of_lt hT, h] at this
theorem Sb.four_low {n : Nat} {xs : List Int} (p : Sb n xs) {X Y : Nat} (hX : X < 2 ^ n) (hY : Y < 2 ^ n) : ∀ j, j ≤ n → xs.getD (X ||| Y % 2 ^ j) 0 + xs.getD (X &&& Y) 0 ≤ xs.getD X 0 + xs.getD ((X &&& Y) ||| Y % 2 ^ j) 0
  | 0, _ => by rw [Nat.pow_zero, Nat.mod_one, Nat.or_zero, Nat.or_zero]; omega
  | j + 1, hj => by
    have ih := Sb.four_low p hX hY j (by omega)
    have hXY : X &&& Y < 2 ^ n := Nat.lt_of_le_of_lt Nat.and_le_left hX
    have hA := low_lt hX hY j
    have hB := low_lt hXY hY j
    rw [or_low, or_low]
    by_cases hd : Y.testBit j = true
    · rw [if_pos hd, if_pos hd]
      by_cases hx : X.testBit j = true
      · rw [or_bit (s := X ||| Y % 2 ^ j) (by rw [Nat.testBit_or, hx]; rfl), or_bit (s := (X &&& Y) ||| Y % 2 ^ j) (by rw [Nat.testBit_or, Nat.testBit_and, hx, hd]; rfl)]
        exact ih
      · have hx' : X.testBit j = false := by simpa using hx
        have := p.gain (S := (X &&& Y) ||| Y % 2 ^ j) (T := X ||| Y % 2 ^ j) (e := j) hB hA (by
          apply Nat.eq_of_testBit_eq; intro q
          simp only [Nat.testBit_or, Nat.testBit_and]
          cases X.testBit q <;> cases Y.testBit q <;> cases (Y % 2 ^ j).testBit q <;> rfl) (by omega) (by rw [Nat.testBit_or, low_bit, hx']; simp)
        omega
    · rw [if_neg hd, if_neg hd]
      exact ih
/-- Submodular, by the union and what is common. -/
theorem Sb.four {n : Nat} {xs : List Int} (p : Sb n xs) {X Y : Nat} (hX : X < 2 ^ n) (hY : Y < 2 ^ n) : xs.getD (X ||| Y) 0 + xs.getD (X &&& Y) 0 ≤ xs.getD X 0 + xs.getD Y 0 := by
  have := p.four_low hX hY n (Nat.le_refl _)
  rwa [Nat.mod_eq_of_lt hY, show (X &&& Y) ||| Y = Y by
    apply Nat.eq_of_testBit_eq; intro q
    rw [Nat.testBit_or, Nat.testBit_and]
    cases X.testBit q <;> cases Y.testBit q <;> rfl] at this

end Go.Proofs.Ytlbefommcahkeaa.M
