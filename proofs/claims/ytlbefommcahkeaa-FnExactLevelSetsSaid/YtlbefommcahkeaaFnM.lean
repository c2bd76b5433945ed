/-
  Functions of sets as plain mathematics: a number of elements and a list of values.
-/
import Init
namespace Go.Proofs.Ytlbefommcahkeaa.M
set_option linter.unusedVariables false

/-- A function: from 0 to 5 elements, a value from -1000 to 1000 for each set. -/
def isFn (n : Int) (xs : List Int) : Bool := decide (0 ≤ n) && (decide (n ≤ 5) && (decide (xs.length = 2 ^ n.toNat) && xs.all fun x => decide (-1000 ≤ x) && decide (x ≤ 1000)))

theorem isFn_yes {n : Int} {xs : List Int} (h : isFn n xs = true) : 0 ≤ n ∧ n ≤ 5 ∧ xs.length = 2 ^ n.toNat ∧ ∀ k, k < xs.length → -1000 ≤ xs.getD k 0 ∧ xs.getD k 0 ≤ 1000 := by
  simp only [isFn, Bool.and_eq_true, decide_eq_true_eq, List.all_eq_true] at h
  obtain ⟨h1, h2, h3, h4⟩ := h
  refine ⟨h1, h2, h3, fun k hk => ?_⟩
  have := h4 xs[k] (List.getElem_mem hk)
  simpa [hk] using this
theorem isFn_mk {n : Int} {xs : List Int} (h1 : 0 ≤ n) (h2 : n ≤ 5) (h3 : xs.length = 2 ^ n.toNat) (h4 : ∀ k, k < xs.length → -1000 ≤ xs.getD k 0 ∧ xs.getD k 0 ≤ 1000) : isFn n xs = true := by
  simp only [isFn, Bool.and_eq_true, decide_eq_true_eq, List.all_eq_true]
  refine ⟨h1, h2, h3, fun x hx => ?_⟩
  obtain ⟨k, hk, rfl⟩ := List.mem_iff_getElem.1 hx
  have := h4 k hk
  simpa [hk] using this
/-- Why a function is none: its number, the number of its values, or the first value that is out of range. -/
theorem isFn_no {n : Int} {xs : List Int} (h : isFn n xs = false) : (n < 0 ∨ 5 < n) ∨ (0 ≤ n ∧ n ≤ 5 ∧ xs.length ≠ 2 ^ n.toNat) ∨ (0 ≤ n ∧ n ≤ 5 ∧ xs.length = 2 ^ n.toNat ∧ ∃ k, k < xs.length ∧ (xs.getD k 0 < -1000 ∨ 1000 < xs.getD k 0) ∧ ∀ j, j < k → -1000 ≤ xs.getD j 0 ∧ xs.getD j 0 ≤ 1000) := by
  by_cases h1 : 0 ≤ n ∧ n ≤ 5
  · by_cases h3 : xs.length = 2 ^ n.toNat
    · refine .inr (.inr ⟨h1.1, h1.2, h3, ?_⟩)
      have key : ∀ m, m ≤ xs.length → (∀ j, j < m → -1000 ≤ xs.getD j 0 ∧ xs.getD j 0 ≤ 1000) ∨ ∃ k, k < xs.length ∧ (xs.getD k 0 < -1000 ∨ 1000 < xs.getD k 0) ∧ ∀ j, j < k → -1000 ≤ xs.getD j 0 ∧ xs.getD j 0 ≤ 1000 := by
        intro m
        induction m with
        | zero => exact fun _ => .inl fun j hj => absurd hj (by omega)
        | succ m ih =>
          intro hm
          rcases ih (by omega) with ih | ih
          · by_cases hb : -1000 ≤ xs.getD m 0 ∧ xs.getD m 0 ≤ 1000
            · refine .inl fun j hj => ?_
              by_cases e : j = m
              · subst e; exact hb
              · exact ih j (by omega)
            · exact .inr ⟨m, by omega, by omega, ih⟩
          · exact .inr ih
      rcases key xs.length (Nat.le_refl _) with h4 | h4
      · rw [isFn_mk h1.1 h1.2 h3 h4] at h
        cases h
      · exact h4
    · exact .inr (.inl ⟨h1.1, h1.2, h3⟩)
  · exact .inl (by omega)
theorem p2_le {n : Int} (h0 : 0 ≤ n) (h5 : n ≤ 5) : 1 ≤ 2 ^ n.toNat ∧ 2 ^ n.toNat ≤ 32 := by
  obtain ⟨k, rfl⟩ := Int.eq_ofNat_of_zero_le h0
  have : k = 0 ∨ k = 1 ∨ k = 2 ∨ k = 3 ∨ k = 4 ∨ k = 5 := by omega
  rcases this with rfl | rfl | rfl | rfl | rfl | rfl <;> decide

/-- k values. -/
def tab (k : Nat) (f : Nat → Int) : List Int := (List.range k).map f
theorem tab_zero (f : Nat → Int) : tab 0 f = [] := rfl
theorem tab_succ (k : Nat) (f : Nat → Int) : tab (k + 1) f = tab k f ++ [f k] := by simp [tab, List.range_succ]
theorem tab_length (k : Nat) (f : Nat → Int) : (tab k f).length = k := by simp [tab]
theorem tab_at {k : Nat} (f : Nat → Int) {j : Nat} (h : j < k) : (tab k f).getD j 0 = f j := by simp [tab, h]
theorem tab_congr {k : Nat} {f g : Nat → Int} (h : ∀ j, j < k → f j = g j) : tab k f = tab k g := by
  unfold tab
  exact List.map_congr_left fun j hj => h j (by simpa using hj)

theorem tab_set {m j : Nat} {ys : List Int} (f : Nat → Int) (hy : ys.length = m) (ht : ys.take j = tab j f) (hj : j < m) : (ys.set j (f j)).take (j + 1) = tab (j + 1) f := by
  rw [List.take_succ_eq_append_getElem (by simp; omega), List.take_set_of_le (Nat.le_refl _), ht, tab_succ]
  simp
/-- A function that was built, if it is one: its number, its values, whether. -/
def made (n : Int) (xs : List Int) : Int × List Int × Bool := if isFn n xs = true then (n, xs, true) else (0, [], false)
def addFn (n : Int) (xs : List Int) (m : Int) (ys : List Int) : Int × List Int × Bool :=
  if isFn n xs = true ∧ isFn m ys = true ∧ n = m then made n (tab xs.length fun s => xs.getD s 0 + ys.getD s 0) else (0, [], false)
def scaleFn (n : Int) (xs : List Int) (k : Int) : Int × List Int × Bool :=
  if isFn n xs = true ∧ -1000 ≤ k ∧ k ≤ 1000 then made n (tab xs.length fun s => k * xs.getD s 0) else (0, [], false)
def lowerFn (n : Int) (xs : List Int) : Int × List Int × Bool :=
  if isFn n xs = true then made n (tab xs.length fun s => xs.getD s 0 - xs.getD 0 0) else (0, [], false)
theorem isFn_len {n : Int} {xs : List Int} (h : isFn n xs = true) : 1 ≤ xs.length ∧ xs.length ≤ 32 := by
  obtain ⟨h0, h5, hl, _⟩ := isFn_yes h
  rw [hl]
  exact p2_le h0 h5
theorem made_len (n : Int) (xs : List Int) : (made n xs).2.1.length ≤ 32 := by
  unfold made
  split
  · rename_i h; exact (isFn_len h).2
  · exact Nat.zero_le _
theorem addFn_len (n : Int) (xs : List Int) (m : Int) (ys : List Int) : (addFn n xs m ys).2.1.length ≤ 32 := by
  unfold addFn; split <;> first | exact made_len _ _ | exact Nat.zero_le _
theorem scaleFn_len (n : Int) (xs : List Int) (k : Int) : (scaleFn n xs k).2.1.length ≤ 32 := by
  unfold scaleFn; split <;> first | exact made_len _ _ | exact Nat.zero_le _
theorem lowerFn_len (n : Int) (xs : List Int) : (lowerFn n xs).2.1.length ≤ 32 := by
  unfold lowerFn; split <;> first | exact made_len _ _ | exact Nat.zero_le _
/-- A product of two numbers from -1000 to 1000. -/
theorem mul_bd {a b : Int} (h1 : -1000 ≤ a) (h2 : a ≤ 1000) (h3 : -1000 ≤ b) (h4 : b ≤ 1000) : -1000000 ≤ a * b ∧ a * b ≤ 1000000 := by
  constructor
  · have e1 : 0 ≤ (1000 + a) * (1000 + b) := Int.mul_nonneg (by omega) (by omega)
    have e2 : 0 ≤ (1000 - a) * (1000 - b) := Int.mul_nonneg (by omega) (by omega)
    have s : (1000 + a) * (1000 + b) + (1000 - a) * (1000 - b) = 2000000 + 2 * (a * b) := by
      simp only [Int.add_mul, Int.mul_add, Int.sub_mul, Int.mul_sub]; omega
    omega
  · have e1 : 0 ≤ (1000 + a) * (1000 - b) := Int.mul_nonneg (by omega) (by omega)
    have e2 : 0 ≤ (1000 - a) * (1000 + b) := Int.mul_nonneg (by omega) (by omega)
    have s : (1000 + a) * (1000 - b) + (1000 - a) * (1000 + b) = 2000000 - 2 * (a * b) := by
      simp only [Int.add_mul, Int.mul_add, Int.sub_mul, Int.mul_sub]; omega
    omega

end Go.Proofs.Ytlbefommcahkeaa.M
