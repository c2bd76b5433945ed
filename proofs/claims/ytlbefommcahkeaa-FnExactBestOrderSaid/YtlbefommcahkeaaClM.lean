/-
  Closures and flats as plain mathematics.
-/
import Derived.Test.YtlbefommcahkeaaSubF
namespace Go.Proofs.Ytlbefommcahkeaa.M
set_option linter.unusedVariables false

/-- Elements that add nothing to s are added. -/
def addZ (xs : List Int) (s : Nat) : Nat → Nat
  | 0 => s
  | e + 1 => if xs.getD (s ||| 2 ^ e) 0 = xs.getD s 0 then addZ xs s e ||| 2 ^ e else addZ xs s e
def clos (n : Nat) (xs : List Int) (s : Nat) : Nat := addZ xs s n
def closureOf (n : Int) (xs : List Int) (s : Int) : Int := if isPoly n xs = true ∧ isSet n s = true then ((clos n.toNat xs s.toNat : Nat) : Int) else -1
def isFlat (n : Int) (xs : List Int) (s : Int) : Bool := decide (0 ≤ s) && decide (closureOf n xs s = s)
/-- The flats below m. -/
def flatsTo (n : Nat) (xs : List Int) : Nat → List Int
  | 0 => []
  | m + 1 => if clos n xs m = m then flatsTo n xs m ++ [(m : Int)] else flatsTo n xs m
def flatsOf (n : Int) (xs : List Int) : List Int × Bool := if isPoly n xs = true then (flatsTo n.toNat xs xs.length, true) else ([], false)
theorem flatsTo_len (n : Nat) (xs : List Int) : ∀ m, (flatsTo n xs m).length ≤ m
  | 0 => Nat.le_refl _
  | m + 1 => by
    have := flatsTo_len n xs m
    unfold flatsTo
    split
    · rw [List.length_append]; simp; omega
    · omega

/-- What is asked of a polymatroid, of its values alone. -/
structure Pol (n : Nat) (xs : List Int) : Prop where
  fn : isFn (n : Int) xs = true
  len : xs.length = 2 ^ n
  zero : xs.getD 0 0 = 0
  inc : ∀ s i, s < 2 ^ n → i < n → xs.getD s 0 ≤ xs.getD (s ||| 2 ^ i) 0
  sub : ∀ s i k, s < 2 ^ n → i < n → k < n → i ≠ k → s.testBit i = false → s.testBit k = false → xs.getD (s ||| 2 ^ i ||| 2 ^ k) 0 + xs.getD s 0 ≤ xs.getD (s ||| 2 ^ i) 0 + xs.getD (s ||| 2 ^ k) 0
theorem or_swap (s a b : Nat) : s ||| a ||| b = s ||| b ||| a := by
  apply Nat.eq_of_testBit_eq; intro q
  simp only [Nat.testBit_or]
  cases s.testBit q <;> cases a.testBit q <;> cases b.testBit q <;> rfl
theorem pol_of {n : Nat} {xs : List Int} (h : isPoly (n : Int) xs = true) : Pol n xs := by
  unfold isPoly isGround isInc at h
  simp only [Bool.and_eq_true, decide_eq_true_eq] at h
  obtain ⟨⟨hf, h0⟩, ⟨-, hi⟩, hs⟩ := h
  obtain ⟨-, -, hl, -⟩ := isFn_yes hf
  rw [Int.toNat_natCast] at hl hi
  refine ⟨hf, hl, h0, fun s i hs' hi' => ?_, fun s i k hs' hi' hk' hne t1 t2 => ?_⟩
  · have h1 := List.all_eq_true.1 hi s (List.mem_range.2 (by omega))
    have h2 := List.all_eq_true.1 h1 i (List.mem_range.2 hi')
    unfold incAt at h2
    exact of_decide_eq_true h2
  · rcases Nat.lt_or_gt_of_ne hne with hlt | hlt
    · exact bad_false (n := n) ((sub_iff.1 hs).2 s i k (by omega) hi' hk' hlt) t1 t2
    · have := bad_false (n := n) ((sub_iff.1 hs).2 s k i (by omega) hk' hi' hlt) t2 t1
      rw [or_swap] at this
      omega
theorem or_bit {s i : Nat} (h : s.testBit i = true) : s ||| 2 ^ i = s := by
  apply Nat.eq_of_testBit_eq; intro q
  rw [Nat.testBit_or, Nat.testBit_two_pow]
  by_cases e : i = q
  · subst e; simp [h]
  · simp [e]
theorem or_low (S D j : Nat) : S ||| D % 2 ^ (j + 1) = if D.testBit j = true then (S ||| D % 2 ^ j) ||| 2 ^ j else S ||| D % 2 ^ j := by
  apply Nat.eq_of_testBit_eq; intro q
  by_cases h : D.testBit j = true
  · rw [if_pos h]
    simp only [Nat.testBit_or, Nat.testBit_mod_two_pow, Nat.testBit_two_pow]
    by_cases e : j = q
    · subst e; simp [h]
    · have : decide (q < j + 1) = decide (q < j) := by rw [decide_eq_decide]; omega
      rw [this]; simp [e]
  · rw [if_neg h]
    simp only [Nat.testBit_or, Nat.testBit_mod_two_pow]
    by_cases e : j = q
    · subst e; simp [h]
    · have : decide (q < j + 1) = decide (q < j) := by rw [decide_eq_decide]; omega
      rw [this]
theorem or_lt {n S i : Nat} (hS : S < 2 ^ n) (hi : i < n) : S ||| 2 ^ i < 2 ^ n := Nat.or_lt_two_pow hS (Nat.pow_lt_pow_right (by decide) hi)
theorem low_lt {n S D : Nat} (hS : S < 2 ^ n) (hD : D < 2 ^ n) (j : Nat) : S ||| D % 2 ^ j < 2 ^ n := Nat.or_lt_two_pow hS (Nat.lt_of_le_of_lt (Nat.mod_le _ _) hD)

section

variable {n : Nat} {xs : List Int} (p : Pol n xs)
include p
theorem Pol.gain_low {S D e : Nat} (hS : S < 2 ^ n) (hD : D < 2 ^ n) (he : e < n) : ∀ j, j ≤ n → xs.getD ((S ||| D % 2 ^ j) ||| 2 ^ e) 0 + xs.getD S 0 ≤ xs.getD (S ||| D % 2 ^ j) 0 + xs.getD (S ||| 2 ^ e) 0
  | 0, _ => by rw [Nat.pow_zero, Nat.mod_one, Nat.or_zero]; omega
  | j + 1, hj => by
    have ih := Pol.gain_low hS hD he j (by omega)
    have hT := low_lt hS hD j
    rw [or_low]
    split
    · generalize S ||| D % 2 ^ j = T at ih hT ⊢
      have hiS := p.inc S e hS he
      by_cases t1 : T.testBit j = true
      · rwa [or_bit t1]
      · by_cases t2 : T.testBit e = true
        · have : T ||| 2 ^ j ||| 2 ^ e = T ||| 2 ^ j := by rw [or_swap, or_bit t2]
          rw [this]; omega
        · by_cases hje : j = e
          · subst hje
            have : T ||| 2 ^ j ||| 2 ^ j = T ||| 2 ^ j := or_bit (by rw [Nat.testBit_or, Nat.testBit_two_pow]; simp)
            rw [this]; omega
          · have := p.sub T j e hT (by omega) he hje (by simpa using t1) (by simpa using t2)
            omega
    · exact ih
theorem Pol.mono_low {S D : Nat} (hS : S < 2 ^ n) (hD : D < 2 ^ n) : ∀ j, j ≤ n → xs.getD S 0 ≤ xs.getD (S ||| D % 2 ^ j) 0
  | 0, _ => by rw [Nat.pow_zero, Nat.mod_one, Nat.or_zero]; omega
  | j + 1, hj => by
    have ih := Pol.mono_low hS hD j (by omega)
    rw [or_low]
    split
    · have := p.inc (S ||| D % 2 ^ j) j (low_lt hS hD j) (by omega)
      omega
    · exact ih
/-- What an element adds does not grow with the set. -/
theorem Pol.gain {S T e : Nat} (hS : S < 2 ^ n) (hT : T < 2 ^ n) (h : S ||| T = T) (he : e < n) : xs.getD (T ||| 2 ^ e) 0 + xs.getD S 0 ≤ xs.getD T 0 + xs.getD (S ||| 2 ^ e) 0 := by
  have := p.gain_low hS hT he n (Nat.le_refl _)
  rwa [Nat.mod_eq_of_lt hT, h] at this
theorem Pol.mono {S T : Nat} (hS : S < 2 ^ n) (hT : T < 2 ^ n) (h : S ||| T = T) : xs.getD S 0 ≤ xs.getD T 0 := by
  have := p.mono_low hS hT n (Nat.le_refl _)
  rwa [Nat.mod_eq_of_lt hT, h] at this
theorem Pol.zero_iff {S T e : Nat} (hS : S < 2 ^ n) (hT : T < 2 ^ n) (h : S ||| T = T) (hF : xs.getD T 0 = xs.getD S 0) (he : e < n) : xs.getD (T ||| 2 ^ e) 0 = xs.getD T 0 ↔ xs.getD (S ||| 2 ^ e) 0 = xs.getD S 0 := by
  have h1 := p.gain hS hT h he
  have h2 := p.inc S e hS he
  have h3 := p.inc T e hT he
  have h4 := p.mono (S := S ||| 2 ^ e) (T := T ||| 2 ^ e) (or_lt hS he) (or_lt hT he) (by
    apply Nat.eq_of_testBit_eq; intro q
    have := congrArg (fun x => x.testBit q) h
    simp only [Nat.testBit_or] at this ⊢
    cases hs : S.testBit q <;> cases ht : T.testBit q <;> cases (2 ^ e).testBit q <;> simp_all)
  constructor <;> intro _ <;> omega

end

theorem addZ_bit (xs : List Int) (s i : Nat) : ∀ e, (addZ xs s e).testBit i = (s.testBit i || (decide (i < e) && decide (xs.getD (s ||| 2 ^ i) 0 = xs.getD s 0)))
  | 0 => by simp [addZ]
  | e + 1 => by
    have ih := addZ_bit xs s i e
    have hd : ∀ (h : ¬ e = i), decide (i < e + 1) = decide (i < e) := fun h => by rw [decide_eq_decide]; omega
    show (if xs.getD (s ||| 2 ^ e) 0 = xs.getD s 0 then addZ xs s e ||| 2 ^ e else addZ xs s e).testBit i = _
    split
    · rename_i hz
      rw [Nat.testBit_or, Nat.testBit_two_pow, ih]
      by_cases h : e = i
      · subst h; rw [decide_eq_true hz]; simp
      · rw [hd h]; simp [h]
    · rename_i hz
      rw [ih]
      by_cases h : e = i
      · subst h; rw [decide_eq_false hz]; simp
      · rw [hd h]
theorem addZ_lt {n : Nat} (xs : List Int) {s : Nat} (hs : s < 2 ^ n) : ∀ e, e ≤ n → addZ xs s e < 2 ^ n
  | 0, _ => hs
  | e + 1, he => by
    have ih := addZ_lt xs hs e (by omega)
    unfold addZ
    split
    · exact or_lt ih (by omega)
    · exact ih
theorem addZ_sup (xs : List Int) (s e : Nat) : s ||| addZ xs s e = addZ xs s e := by
  apply Nat.eq_of_testBit_eq; intro q
  rw [Nat.testBit_or, addZ_bit]
  cases s.testBit q <;> simp

section

variable {n : Nat} {xs : List Int} (p : Pol n xs)
include p
theorem Pol.addZ_val {s : Nat} (hs : s < 2 ^ n) : ∀ e, e ≤ n → xs.getD (addZ xs s e) 0 = xs.getD s 0
  | 0, _ => rfl
  | e + 1, he => by
    have ih := Pol.addZ_val hs e (by omega)
    unfold addZ
    split
    · rename_i hz
      rw [(p.zero_iff hs (addZ_lt xs hs e (by omega)) (addZ_sup xs s e) ih (by omega)).2 hz, ih]
    · exact ih
theorem Pol.addZ_add {s e : Nat} (hs : s < 2 ^ n) (he : e < n) (h : xs.getD (addZ xs s e ||| 2 ^ e) 0 = xs.getD (addZ xs s e) 0) : addZ xs s (e + 1) = addZ xs s e ||| 2 ^ e := by
  have hz := (p.zero_iff hs (addZ_lt xs hs e (by omega)) (addZ_sup xs s e) (p.addZ_val hs e (by omega)) he).1 h
  show (if _ then _ else _) = _
  rw [if_pos hz]
theorem Pol.addZ_keep {s e : Nat} (hs : s < 2 ^ n) (he : e < n) (h : (addZ xs s e).testBit e = true ∨ xs.getD (addZ xs s e ||| 2 ^ e) 0 ≠ xs.getD (addZ xs s e) 0) : addZ xs s (e + 1) = addZ xs s e := by
  show (if xs.getD (s ||| 2 ^ e) 0 = xs.getD s 0 then addZ xs s e ||| 2 ^ e else addZ xs s e) = _
  split
  · rename_i hz
    rcases h with h | h
    · exact or_bit h
    · exact absurd ((p.zero_iff hs (addZ_lt xs hs e (by omega)) (addZ_sup xs s e) (p.addZ_val hs e (by omega)) he).2 hz) h
  · rfl
theorem Pol.clos_fix {s : Nat} (hs : s < 2 ^ n) (e : Nat) (he : e ≤ n) : addZ xs (clos n xs s) e = clos n xs s := by
  apply Nat.eq_of_testBit_eq; intro q
  rw [addZ_bit]
  by_cases hq : q < e ∧ xs.getD (clos n xs s ||| 2 ^ q) 0 = xs.getD (clos n xs s) 0
  · obtain ⟨h1, h2⟩ := hq
    have hz := (p.zero_iff hs (addZ_lt xs hs n (Nat.le_refl _)) (addZ_sup xs s n) (p.addZ_val hs n (Nat.le_refl _)) (by omega : q < n)).1 h2
    have : (clos n xs s).testBit q = true := by
      unfold clos; rw [addZ_bit, decide_eq_true hz, decide_eq_true (by omega : q < n)]; simp
    rw [this]; simp
  · have : (decide (q < e) && decide (xs.getD (clos n xs s ||| 2 ^ q) 0 = xs.getD (clos n xs s) 0)) = false := by
      rw [Bool.and_eq_false_iff]
      by_cases h1 : q < e
      · exact .inr (decide_eq_false fun h2 => hq ⟨h1, h2⟩)
      · exact .inl (decide_eq_false h1)
    rw [this, Bool.or_false]
theorem Pol.clos_clos {s : Nat} (hs : s < 2 ^ n) : clos n xs (clos n xs s) = clos n xs s := p.clos_fix hs n (Nat.le_refl _)
/-- Flats have their common elements. -/
theorem Pol.flat_and {a b : Nat} (ha : a < 2 ^ n) (hb : b < 2 ^ n) (fa : clos n xs a = a) (fb : clos n xs b = b) : clos n xs (a &&& b) = a &&& b := by
  have hab : a &&& b < 2 ^ n := Nat.lt_of_le_of_lt Nat.and_le_left ha
  have key : ∀ c, c < 2 ^ n → clos n xs c = c → (a &&& b) ||| c = c → ∀ q, q < n → xs.getD ((a &&& b) ||| 2 ^ q) 0 = xs.getD (a &&& b) 0 → c.testBit q = true := fun c hc fc hs q hq hz => by
    have h1 := p.gain hab hc hs hq
    have h2 := p.inc c q hc hq
    rw [← fc]
    unfold clos
    rw [addZ_bit]
    have : xs.getD (c ||| 2 ^ q) 0 = xs.getD c 0 := by omega
    rw [decide_eq_true hq, decide_eq_true this]; simp
  apply Nat.eq_of_testBit_eq; intro q
  unfold clos
  rw [addZ_bit]
  by_cases hq : q < n ∧ xs.getD ((a &&& b) ||| 2 ^ q) 0 = xs.getD (a &&& b) 0
  · have k1 := key a ha fa (by apply Nat.eq_of_testBit_eq; intro r; rw [Nat.testBit_or, Nat.testBit_and]; cases a.testBit r <;> simp) q hq.1 hq.2
    have k2 := key b hb fb (by apply Nat.eq_of_testBit_eq; intro r; rw [Nat.testBit_or, Nat.testBit_and]; cases a.testBit r <;> cases b.testBit r <;> rfl) q hq.1 hq.2
    rw [Nat.testBit_and, k1, k2]; simp
  · have : (decide (q < n) && decide (xs.getD ((a &&& b) ||| 2 ^ q) 0 = xs.getD (a &&& b) 0)) = false := by
      rw [Bool.and_eq_false_iff]
      by_cases h1 : q < n
      · exact .inr (decide_eq_false fun h2 => hq ⟨h1, h2⟩)
      · exact .inl (decide_eq_false h1)
    rw [this, Bool.or_false]

end


end Go.Proofs.Ytlbefommcahkeaa.M
