/-
  Bases, capacities, corners as plain mathematics.
-/
import Derived.Test.YtlbefommcahkeaaSubM
import Derived.Test.YtlbefommcahkeaaCvM
namespace Go.Proofs.Ytlbefommcahkeaa.M
set_option linter.unusedVariables false
set_option linter.unusedSimpArgs false

-- vectors of chapter 8
def isVec5 (ws : List Int) : Bool := decide (ws.length ≤ 5) && ws.all fun x => decide (-5000 ≤ x) && decide (x ≤ 5000)
theorem isVec5_yes {ws : List Int} (h : isVec5 ws = true) : ws.length ≤ 5 ∧ ∀ k, k < ws.length → -5000 ≤ ws.getD k 0 ∧ ws.getD k 0 ≤ 5000 := by
  simp only [isVec5, Bool.and_eq_true, decide_eq_true_eq, List.all_eq_true] at h
  refine ⟨h.1, fun k hk => ?_⟩
  have := h.2 ws[k] (List.getElem_mem hk)
  simpa [hk] using this
theorem isVec5_mk {ws : List Int} (h1 : ws.length ≤ 5) (h : ∀ k, k < ws.length → -5000 ≤ ws.getD k 0 ∧ ws.getD k 0 ≤ 5000) : isVec5 ws = true := by
  simp only [isVec5, Bool.and_eq_true, decide_eq_true_eq, List.all_eq_true]
  refine ⟨h1, fun x hx => ?_⟩
  obtain ⟨k, hk, rfl⟩ := List.mem_iff_getElem.1 hx
  have := h k hk
  simpa [hk] using this
theorem isVec5_good {ws : List Int} (h : ∀ k, k < ws.length → -5000 ≤ ws.getD k 0 ∧ ws.getD k 0 ≤ 5000) : isVec5 ws = decide (ws.length ≤ 5) := by
  by_cases h5 : ws.length ≤ 5
  · rw [isVec5_mk h5 h, decide_eq_true h5]
  · rw [decide_eq_false h5]
    unfold isVec5
    rw [decide_eq_false h5, Bool.false_and]
theorem isVec5_bad {ws : List Int} {j : Nat} (hj : j < ws.length) (hb : ws.getD j 0 < -5000 ∨ 5000 < ws.getD j 0) : isVec5 ws = false := by
  cases h : isVec5 ws
  · rfl
  · have := (isVec5_yes h).2 j hj
    omega
/-- The first number that is none. -/
theorem vec5_bad {ws : List Int} (h : ¬ ∀ k, k < ws.length → -5000 ≤ ws.getD k 0 ∧ ws.getD k 0 ≤ 5000) : ∃ j, j < ws.length ∧ (ws.getD j 0 < -5000 ∨ 5000 < ws.getD j 0) ∧ ∀ k, k < j → -5000 ≤ ws.getD k 0 ∧ ws.getD k 0 ≤ 5000 := by
  have key : ∀ c, (∀ k, k < c → -5000 ≤ ws.getD k 0 ∧ ws.getD k 0 ≤ 5000) ∨ ∃ j, j < c ∧ (ws.getD j 0 < -5000 ∨ 5000 < ws.getD j 0) ∧ ∀ k, k < j → -5000 ≤ ws.getD k 0 ∧ ws.getD k 0 ≤ 5000 := by
    intro c
    induction c with
    | zero => exact .inl fun k hk => absurd hk (by omega)
    | succ c ih =>
      rcases ih with h1 | ⟨j, hj, hb, hv⟩
      · by_cases hc : -5000 ≤ ws.getD c 0 ∧ ws.getD c 0 ≤ 5000
        · exact .inl fun k hk => by
            by_cases e : k = c
            · subst e; exact hc
            · exact h1 k (by omega)
        · exact .inr ⟨c, by omega, by omega, h1⟩
      · exact .inr ⟨j, by omega, hb, hv⟩
  rcases key ws.length with h1 | h1
  · exact absurd h1 h
  · exact h1
theorem weigh5_bd {ws : List Int} (hv : ∀ k, k < ws.length → -5000 ≤ ws.getD k 0 ∧ ws.getD k 0 ≤ 5000) (s : Nat) : ∀ i, i ≤ ws.length → -5000 * (i : Int) ≤ weigh ws s i ∧ weigh ws s i ≤ 5000 * (i : Int)
  | 0, _ => by simp [weigh]
  | i + 1, hi => by
    have h1 := weigh5_bd hv s i (by omega)
    have h2 := hv i (by omega)
    unfold weigh
    split <;> omega

/-- No set below s weighs more than its value. -/
def belowTo (xs ws : List Int) : Nat → Bool
  | 0 => true
  | s + 1 => belowTo xs ws s && decide (weigh ws s ws.length ≤ xs.getD s 0)
theorem below_at {xs ws : List Int} : ∀ m, belowTo xs ws m = true ↔ ∀ s, s < m → weigh ws s ws.length ≤ xs.getD s 0
  | 0 => by simp [belowTo]
  | m + 1 => by
    unfold belowTo
    rw [Bool.and_eq_true, decide_eq_true_eq, below_at m]
    constructor
    · rintro ⟨h1, h2⟩ s hs
      by_cases e : s = m
      · subst e; exact h2
      · exact h1 s (by omega)
    · exact fun h => ⟨fun s hs => h s (by omega), h m (by omega)⟩
theorem below_no {xs ws : List Int} {m s : Nat} (hs : s < m) (h : xs.getD s 0 < weigh ws s ws.length) : belowTo xs ws m = false := by
  cases hb : belowTo xs ws m
  · rfl
  · have := (below_at m).1 hb s hs
    omega
def isBelow (n : Int) (xs ws : List Int) : Bool := isGround n xs && (decide ((ws.length : Int) = n) && (isVec5 ws && belowTo xs ws xs.length))
theorem isBelow_yes {n : Int} {xs ws : List Int} (h : isBelow n xs ws = true) : isGround n xs = true ∧ (ws.length : Int) = n ∧ isVec5 ws = true ∧ belowTo xs ws xs.length = true := by
  unfold isBelow at h
  simpa using h
theorem ground_fn {n : Int} {xs : List Int} (h : isGround n xs = true) : isFn n xs = true := by
  unfold isGround at h
  rw [Bool.and_eq_true] at h
  exact h.1
def isBase (n : Int) (xs ws : List Int) : Bool := isBelow n xs ws && decide (weigh ws (xs.length - 1) ws.length = xs.getD (xs.length - 1) 0)
/-- The tight sets below m. -/
def tightTo (xs ws : List Int) : Nat → List Int
  | 0 => []
  | s + 1 => if weigh ws s ws.length = xs.getD s 0 then tightTo xs ws s ++ [(s : Int)] else tightTo xs ws s
def tightSets (n : Int) (xs ws : List Int) : List Int × Bool := if isBelow n xs ws = true then (tightTo xs ws xs.length, true) else ([], false)
theorem tightTo_len (xs ws : List Int) : ∀ m, (tightTo xs ws m).length ≤ m
  | 0 => Nat.le_refl _
  | m + 1 => by
    have := tightTo_len xs ws m
    unfold tightTo
    split
    · rw [List.length_append]; simp; omega
    · omega
/-- The least difference of value and weight of the sets below m that p takes. -/
def capTo (xs ws : List Int) (p : Nat → Bool) : Nat → Int
  | 0 => 100000
  | s + 1 => if p s = true then min (capTo xs ws p s) (xs.getD s 0 - weigh ws s ws.length) else capTo xs ws p s
def capOf (n : Int) (xs ws : List Int) (e : Int) : Int × Bool := if isBelow n xs ws = true ∧ 0 ≤ e ∧ e < n then (capTo xs ws (fun s => s.testBit e.toNat) xs.length, true) else (0, false)
def exchOf (n : Int) (xs ws : List Int) (e d : Int) : Int × Bool := if isBelow n xs ws = true ∧ (0 ≤ e ∧ e < n) ∧ (0 ≤ d ∧ d < n) ∧ e ≠ d then (capTo xs ws (fun s => s.testBit e.toNat && !s.testBit d.toNat) xs.length, true) else (0, false)
theorem capTo_bd {xs ws : List Int} {p : Nat → Bool} (hv : ∀ k, k < xs.length → -1000 ≤ xs.getD k 0 ∧ xs.getD k 0 ≤ 1000) (hw : ∀ s, -25000 ≤ weigh ws s ws.length ∧ weigh ws s ws.length ≤ 25000) : ∀ m, m ≤ xs.length → -26000 ≤ capTo xs ws p m ∧ capTo xs ws p m ≤ 100000
  | 0, _ => by simp [capTo]
  | m + 1, h => by
    have ih := capTo_bd (p := p) hv hw m (by omega)
    have h1 := hv m (by omega)
    have h2 := hw m
    unfold capTo
    split <;> omega
theorem vec5_weigh {ws : List Int} (h : isVec5 ws = true) (s : Nat) : -25000 ≤ weigh ws s ws.length ∧ weigh ws s ws.length ≤ 25000 := by
  obtain ⟨h5, hv⟩ := isVec5_yes h
  have := weigh5_bd hv s ws.length (Nat.le_refl _)
  omega
-- orders and corners
def seenTo (p : List Int) : Nat → Nat
  | 0 => 0
  | i + 1 => seenTo p i ||| 2 ^ (p.getD i 0).toNat
def permTo (n : Int) (p : List Int) : Nat → Bool
  | 0 => true
  | i + 1 => permTo n p i && (decide (0 ≤ p.getD i 0 ∧ p.getD i 0 ≤ n - 1) && !(seenTo p i).testBit (p.getD i 0).toNat)
def isPerm (n : Int) (p : List Int) : Bool := permTo n p p.length && decide ((p.length : Int) = n)
theorem perm_no {n : Int} {p : List Int} {j : Nat} (hb : ¬ (0 ≤ p.getD j 0 ∧ p.getD j 0 ≤ n - 1) ∨ (seenTo p j).testBit (p.getD j 0).toNat = true) : ∀ m, j < m → permTo n p m = false
  | 0, h => absurd h (by omega)
  | m + 1, h => by
    unfold permTo
    by_cases e : j = m
    · subst e
      rcases hb with hb | hb
      · rw [decide_eq_false hb]; simp
      · rw [hb]; simp
    · rw [perm_no hb m (by omega), Bool.false_and]
theorem perm_at {n : Int} {p : List Int} : ∀ m, permTo n p m = true → ∀ i, i < m → (0 ≤ p.getD i 0 ∧ p.getD i 0 ≤ n - 1) ∧ (seenTo p i).testBit (p.getD i 0).toNat = false
  | 0, _, i, h => absurd h (by omega)
  | m + 1, hp, i, h => by
    unfold permTo at hp
    simp only [Bool.and_eq_true, decide_eq_true_eq, Bool.not_eq_true'] at hp
    by_cases e : i = m
    · subst e; exact hp.2
    · exact perm_at m hp.1 i (by omega)
theorem seen_lt {N : Nat} {p : List Int} : ∀ m, (∀ i, i < m → 0 ≤ p.getD i 0 ∧ p.getD i 0 ≤ (N : Int) - 1) → seenTo p m < 2 ^ N
  | 0, _ => Nat.two_pow_pos N
  | m + 1, h => by
    have h1 := h m (by omega)
    exact or_lt (seen_lt m fun i hi => h i (by omega)) (by omega)
def cornerTo (xs : List Int) (n : Nat) (p : List Int) : Nat → List Int
  | 0 => List.replicate n 0
  | i + 1 => (cornerTo xs n p i).set (p.getD i 0).toNat (xs.getD (seenTo p (i + 1)) 0 - xs.getD (seenTo p i) 0)
theorem cornerTo_len (xs : List Int) (n : Nat) (p : List Int) : ∀ m, (cornerTo xs n p m).length = n
  | 0 => by simp [cornerTo]
  | m + 1 => by unfold cornerTo; rw [List.length_set]; exact cornerTo_len xs n p m
def cornerOf (n : Int) (xs p : List Int) : List Int × Bool := if isGround n xs = true ∧ isPerm n p = true then (cornerTo xs n.toNat p p.length, true) else ([], false)

end Go.Proofs.Ytlbefommcahkeaa.M
