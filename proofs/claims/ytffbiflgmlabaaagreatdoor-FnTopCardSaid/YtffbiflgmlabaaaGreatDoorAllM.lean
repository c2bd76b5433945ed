/-
  Functions of sets as plain mathematics: a number of elements and a list of values.
  Values and gains of functions as plain mathematics.
  Submodular functions as plain mathematics: the first set with two elements that add more together.
  Submodular functions as plain mathematics: no set shows a violation.
  Closures and flats as plain mathematics.
  The usual functions as plain mathematics: functions of the size, lists whose differences do not grow, cuts, covers.
  The elements of a set as plain mathematics: the places of the ones of a number.
  Restrictions, contractions, opposite and dual functions as plain mathematics.
  Convolutions, increasing hulls, truncations as plain mathematics.
  Bases, capacities, corners as plain mathematics.
  Extensions of functions of sets as plain mathematics: orders, levels, convexity.
  What spec.IsConvexAt asks, as plain mathematics.
  What the elements add, listed by elements, as plain mathematics.
  Linear optimization over bases, as plain mathematics: what the functions of chapter 9 return.
  Bases and linear optimization, as plain mathematics: corners of submodular functions are bases, and the best ones are those whose level sets are tight.
  Minimization, as plain mathematics: what the functions of chapter 10 return.
  Cuts and covers as plain mathematics: edges and blocks lie flat, three and two numbers each.
  Sums over the listed elements of a set, as plain mathematics.
-/
import Init
import Derived.Lib.TrailingZeros
namespace Go.Proofs.YtffbiflgmlabaaaGreatDoor.M
set_option linter.unusedVariables false

/-- A function: from 0 to 5 elements, a value from -1000 to 1000 for each set. -/
def isFn (n : Int) (xs : List Int) : Bool := decide (0 ≤ n) && (decide (n ≤ 5) && (decide (xs.length = 2 ^ n.toNat) && xs.all fun x => decide (-1000 ≤ x) && decide (x ≤ 1000)))

theorem isFn_yes {n : Int} {xs : List Int} (h : isFn n xs = true) : 0 ≤ n ∧ n ≤ 5 ∧ xs.length = 2 ^ n.toNat ∧ ∀ k, k < xs.length → -1000 ≤ xs.getD k 0 ∧ xs.getD k 0 ≤ 1000 := by
  simp only [isFn, Bool.and_eq_true, decide_eq_true_eq, List.all_eq_true] at h
  obtain ⟨h1, h2, h3, h4⟩ := h
  refine ⟨h1, h2, h3, fun k hk => ?_⟩
  have := h4 xs[k] (List.getElem_mem hk)
  simpa [hk] using this
theorem isFn_mk {n : Int} {xs : List Int} (h1 : 0 ≤ n) (h2 : n ≤ 5) (h3 : xs.length = 2 ^ n.toNat) (h4 : ∀ k, k < xs.length → -1000 ≤ xs.getD k 0 ∧ xs.getD k 0 ≤ 1000) : isFn n xs = true := by
  simp only [isFn, Bool.and_eq_true, decide_eq_true_eq, List.all_eq_true]
  refine ⟨h1, h2, h3, fun x hx => ?_⟩
  obtain ⟨k, hk, rfl⟩ := List.mem_iff_getElem.1 hx
  have := h4 k hk
  simpa [hk] using this
/-- Why a function is none: its number, the number of its values, or the first value that is out of range. -/
theorem isFn_no {n : Int} {xs : List Int} (h : isFn n xs = false) : (n < 0 ∨ 5 < n) ∨ (0 ≤ n ∧ n ≤ 5 ∧ xs.length ≠ 2 ^ n.toNat) ∨ (0 ≤ n ∧ n ≤ 5 ∧ xs.length = 2 ^ n.toNat ∧ ∃ k, k < xs.length ∧ (xs.getD k 0 < -1000 ∨ 1000 < xs.getD k 0) ∧ ∀ j, j < k → -1000 ≤ xs.getD j 0 ∧ xs.getD j 0 ≤ 1000) := by
  by_cases h1 : 0 ≤ n ∧ n ≤ 5
  · by_cases h3 : xs.length = 2 ^ n.toNat
    · refine .inr (.inr ⟨h1.1, h1.2, h3, ?_⟩)
      have key : ∀ m, m ≤ xs.length → (∀ j, j < m → -1000 ≤ xs.getD j 0 ∧ xs.getD j 0 ≤ 1000) ∨ ∃ k, k < xs.length ∧ (xs.getD k 0 < -1000 ∨ 1000 < xs.getD k 0) ∧ ∀ j, j < k → -1000 ≤ xs.getD j 0 ∧ xs.getD j 0 ≤ 1000 := by
        intro m
        induction m with
        | zero => exact fun _ => .inl fun j hj => absurd hj (by omega)
        | succ m ih =>
          intro hm
          rcases ih (by omega) with ih | ih
          · by_cases hb : -1000 ≤ xs.getD m 0 ∧ xs.getD m 0 ≤ 1000
            · refine .inl fun j hj => ?_
              by_cases e : j = m
              · subst e; exact hb
              · exact ih j (by omega)
            · exact .inr ⟨m, by omega, by omega, ih⟩
          · exact .inr ih
      rcases key xs.length (Nat.le_refl _) with h4 | h4
      · rw [isFn_mk h1.1 h1.2 h3 h4] at h
        cases h
      · exact h4
    · exact .inr (.inl ⟨h1.1, h1.2, h3⟩)
  · exact .inl (by omega)
theorem p2_le {n : Int} (h0 : 0 ≤ n) (h5 : n ≤ 5) : 1 ≤ 2 ^ n.toNat ∧ 2 ^ n.toNat ≤ 32 := by
  obtain ⟨k, rfl⟩ := Int.eq_ofNat_of_zero_le h0
  have : k = 0 ∨ k = 1 ∨ k = 2 ∨ k = 3 ∨ k = 4 ∨ k = 5 := by omega
  rcases this with rfl | rfl | rfl | rfl | rfl | rfl <;> decide

/-- k values. -/
def tab (k : Nat) (f : Nat → Int) : List Int := (List.range k).map f
theorem tab_zero (f : Nat → Int) : tab 0 f = [] := rfl
theorem tab_succ (k : Nat) (f : Nat → Int) : tab (k + 1) f = tab k f ++ [f k] := by simp [tab, List.range_succ]
theorem tab_length (k : Nat) (f : Nat → Int) : (tab k f).length = k := by simp [tab]
theorem tab_at {k : Nat} (f : Nat → Int) {j : Nat} (h : j < k) : (tab k f).getD j 0 = f j := by simp [tab, h]
theorem tab_congr {k : Nat} {f g : Nat → Int} (h : ∀ j, j < k → f j = g j) : tab k f = tab k g := by
  unfold tab
  exact List.map_congr_left fun j hj => h j (by simpa using hj)

theorem tab_set {m j : Nat} {ys : List Int} (f : Nat → Int) (hy : ys.length = m) (ht : ys.take j = tab j f) (hj : j < m) : (ys.set j (f j)).take (j + 1) = tab (j + 1) f := by
  rw [List.take_succ_eq_append_getElem (by simp; omega), List.take_set_of_le (Nat.le_refl _), ht, tab_succ]
  simp
/-- A function that was built, if it is one: its number, its values, whether. -/
def made (n : Int) (xs : List Int) : Int × List Int × Bool := if isFn n xs = true then (n, xs, true) else (0, [], false)
def addFn (n : Int) (xs : List Int) (m : Int) (ys : List Int) : Int × List Int × Bool :=
  if isFn n xs = true ∧ isFn m ys = true ∧ n = m then made n (tab xs.length fun s => xs.getD s 0 + ys.getD s 0) else (0, [], false)
def scaleFn (n : Int) (xs : List Int) (k : Int) : Int × List Int × Bool :=
  if isFn n xs = true ∧ -1000 ≤ k ∧ k ≤ 1000 then made n (tab xs.length fun s => k * xs.getD s 0) else (0, [], false)
def lowerFn (n : Int) (xs : List Int) : Int × List Int × Bool :=
  if isFn n xs = true then made n (tab xs.length fun s => xs.getD s 0 - xs.getD 0 0) else (0, [], false)
theorem isFn_len {n : Int} {xs : List Int} (h : isFn n xs = true) : 1 ≤ xs.length ∧ xs.length ≤ 32 := by
  obtain ⟨h0, h5, hl, _⟩ := isFn_yes h
  rw [hl]
  exact p2_le h0 h5
theorem made_len (n : Int) (xs : List Int) : (made n xs).2.1.length ≤ 32 := by
  unfold made
  split
  · rename_i h; exact (isFn_len h).2
  · exact Nat.zero_le _
theorem addFn_len (n : Int) (xs : List Int) (m : Int) (ys : List Int) : (addFn n xs m ys).2.1.length ≤ 32 := by
  unfold addFn; split <;> first | exact made_len _ _ | exact Nat.zero_le _
theorem scaleFn_len (n : Int) (xs : List Int) (k : Int) : (scaleFn n xs k).2.1.length ≤ 32 := by
  unfold scaleFn; split <;> first | exact made_len _ _ | exact Nat.zero_le _
theorem lowerFn_len (n : Int) (xs : List Int) : (lowerFn n xs).2.1.length ≤ 32 := by
  unfold lowerFn; split <;> first | exact made_len _ _ | exact Nat.zero_le _
/-- A product of two numbers from -1000 to 1000. -/
theorem mul_bd {a b : Int} (h1 : -1000 ≤ a) (h2 : a ≤ 1000) (h3 : -1000 ≤ b) (h4 : b ≤ 1000) : -1000000 ≤ a * b ∧ a * b ≤ 1000000 := by
  constructor
  · have e1 : 0 ≤ (1000 + a) * (1000 + b) := Int.mul_nonneg (by omega) (by omega)
    have e2 : 0 ≤ (1000 - a) * (1000 - b) := Int.mul_nonneg (by omega) (by omega)
    have s : (1000 + a) * (1000 + b) + (1000 - a) * (1000 - b) = 2000000 + 2 * (a * b) := by
      simp only [Int.add_mul, Int.mul_add, Int.sub_mul, Int.mul_sub]; omega
    omega
  · have e1 : 0 ≤ (1000 + a) * (1000 - b) := Int.mul_nonneg (by omega) (by omega)
    have e2 : 0 ≤ (1000 - a) * (1000 + b) := Int.mul_nonneg (by omega) (by omega)
    have s : (1000 + a) * (1000 - b) + (1000 - a) * (1000 + b) = 2000000 - 2 * (a * b) := by
      simp only [Int.add_mul, Int.mul_add, Int.sub_mul, Int.mul_sub]; omega
    omega

end Go.Proofs.YtffbiflgmlabaaaGreatDoor.M

namespace Go.Proofs.YtffbiflgmlabaaaGreatDoor.M
set_option linter.unusedVariables false

/-- s is a set of n elements. -/
def isSet (n s : Int) : Bool := decide (0 ≤ s) && decide (s < ((2 ^ n.toNat : Nat) : Int))
theorem isSet_yes {n s : Int} (h : isSet n s = true) : 0 ≤ s ∧ s < ((2 ^ n.toNat : Nat) : Int) := by simpa [isSet] using h
theorem isSet_no {n s : Int} (h : isSet n s = false) : s < 0 ∨ ((2 ^ n.toNat : Nat) : Int) ≤ s := by
  have : ¬ (0 ≤ s ∧ s < ((2 ^ n.toNat : Nat) : Int)) := fun hh => by
    have e : isSet n s = true := by simp only [isSet, Bool.and_eq_true, decide_eq_true_eq]; exact hh
    rw [h] at e
    cases e
  omega
def valueOf (n : Int) (xs : List Int) (s : Int) : Int := if isFn n xs = true ∧ isSet n s = true then xs.getD s.toNat 0 else -9999
/-- A set with one more element. -/
def withE (s e : Int) : Nat := s.toNat ||| 2 ^ e.toNat
def gainOf (n : Int) (xs : List Int) (s e : Int) : Int := if isFn n xs = true ∧ isSet n s = true ∧ 0 ≤ e ∧ e < n then xs.getD (withE s e) 0 - xs.getD s.toNat 0 else -9999
theorem withE_lt {n s e : Int} (h0 : 0 ≤ n) (hs : isSet n s = true) (e0 : 0 ≤ e) (en : e < n) : withE s e < 2 ^ n.toNat := by
  obtain ⟨h1, h2⟩ := isSet_yes hs
  exact Nat.or_lt_two_pow (by omega) (Nat.pow_lt_pow_right (by decide) (by omega))

end Go.Proofs.YtffbiflgmlabaaaGreatDoor.M

namespace Go.Proofs.YtffbiflgmlabaaaGreatDoor.M
set_option linter.unusedVariables false

/-- The first one from place j on, of c places. -/
def firstSome {α : Type} (f : Nat → Option α) : Nat → Nat → Option α
  | 0, _ => none
  | c + 1, j => match f j with
    | some v => some v
    | none => firstSome f c (j + 1)
theorem fs_hit {α : Type} {f : Nat → Option α} {v : α} : ∀ (c lo j : Nat), lo ≤ j → j < lo + c → (∀ i, lo ≤ i → i < j → f i = none) → f j = some v → firstSome f c lo = some v
  | 0, lo, j, h1, h2, _, _ => absurd h2 (by omega)
  | c + 1, lo, j, h1, h2, h3, h4 => by
    by_cases e : lo = j
    · subst e
      simp [firstSome, h4]
    · rw [firstSome, h3 lo (Nat.le_refl _) (by omega)]
      exact fs_hit c (lo + 1) j (by omega) (by omega) (fun i hi hj => h3 i (by omega) hj) h4
theorem fs_none {α : Type} {f : Nat → Option α} : ∀ (c lo : Nat), (∀ i, lo ≤ i → i < lo + c → f i = none) → firstSome f c lo = none
  | 0, _, _ => rfl
  | c + 1, lo, h => by
    rw [firstSome, h lo (Nat.le_refl _) (by omega)]
    exact fs_none c (lo + 1) fun i hi hj => h i (by omega) (by omega)

/-- Do i and k, outside of s, add more to s together than one by one? -/
def bad (xs : List Int) (s i k : Nat) : Bool := !s.testBit i && (!s.testBit k && decide (xs.getD (s ||| 2 ^ i) 0 + xs.getD (s ||| 2 ^ k) 0 < xs.getD (s ||| 2 ^ i ||| 2 ^ k) 0 + xs.getD s 0))
def violK (n : Nat) (xs : List Int) (s i : Nat) : Option (List Int) := firstSome (fun k => if bad xs s i k = true then some [(s : Int), (i : Int), (k : Int)] else none) (n - (i + 1)) (i + 1)
def violI (n : Nat) (xs : List Int) (s : Nat) : Option (List Int) := firstSome (violK n xs s) n 0
def violS (n : Nat) (xs : List Int) : Option (List Int) := firstSome (violI n xs) xs.length 0
/-- The first violation, and whether there is one. -/
def viol (n : Int) (xs : List Int) : List Int × Bool := if isFn n xs = true then match violS n.toNat xs with
    | some l => (l, true)
    | none => ([], false)
  else ([], false)
theorem viol_hit {n : Nat} {xs : List Int} {s i k : Nat} (hf : isFn (n : Int) xs = true) (hs : s < xs.length) (hi : i < n) (hk : k < n) (hik : i < k)
    (h1 : ∀ s', s' < s → violI n xs s' = none) (h2 : ∀ i', i' < i → violK n xs s i' = none) (h3 : ∀ k', i < k' → k' < k → bad xs s i k' = false) (hb : bad xs s i k = true) :
    viol (n : Int) xs = ([(s : Int), (i : Int), (k : Int)], true) := by
  have e1 : violK n xs s i = some [(s : Int), (i : Int), (k : Int)] := fs_hit _ _ k (by omega) (by omega) (fun j hj hjk => by rw [if_neg]; rw [h3 j (by omega) hjk]; decide) (if_pos hb)
  have e2 : violI n xs s = some [(s : Int), (i : Int), (k : Int)] := fs_hit _ _ i (by omega) (by omega) (fun j _ hj => h2 j hj) e1
  have e3 : violS n xs = some [(s : Int), (i : Int), (k : Int)] := fs_hit _ _ s (by omega) (by omega) (fun j _ hj => h1 j hj) e2
  unfold viol
  rw [if_pos hf, Int.toNat_natCast, e3]
theorem viol_none {n : Nat} {xs : List Int} (h1 : ∀ s', s' < xs.length → violI n xs s' = none) : viol (n : Int) xs = ([], false) := by
  have e3 : violS n xs = none := fs_none _ _ fun i _ hi => h1 i (by omega)
  unfold viol
  split
  · rw [Int.toNat_natCast, e3]
  · rfl
theorem violK_none {n : Nat} {xs : List Int} {s i : Nat} (h3 : ∀ k', i < k' → k' < n → bad xs s i k' = false) : violK n xs s i = none :=
  fs_none _ _ fun j hj hjn => by rw [if_neg]; rw [h3 j (by omega) (by omega)]; decide
theorem violI_none {n : Nat} {xs : List Int} {s : Nat} (h2 : ∀ i', i' < n → violK n xs s i' = none) : violI n xs s = none := fs_none _ _ fun i _ hi => h2 i (by omega)
theorem viol_no {n : Int} {xs : List Int} (h : isFn n xs = false) : viol n xs = ([], false) := by
  unfold viol
  rw [if_neg (by rw [h]; decide)]
theorem viol_len (n : Int) (xs : List Int) : (viol n xs).1.length ≤ 3 := by
  unfold viol
  split
  · split
    · rename_i l h
      have : ∀ {α : Type} {P : α → Prop} {f : Nat → Option α} (hf : ∀ j v, f j = some v → P v) (c lo : Nat) (v : α), firstSome f c lo = some v → P v := by
        intro α P f hf c
        induction c with
        | zero => intro lo v hv; cases hv
        | succ c ih =>
          intro lo v hv
          rw [firstSome] at hv
          split at hv
          · rename_i u hu
            injection hv with hv
            subst hv
            exact hf lo _ hu
          · exact ih _ _ hv
      have hl : l.length ≤ 3 := this (P := fun l : List Int => l.length ≤ 3) (fun s v hv => this (P := fun l : List Int => l.length ≤ 3) (fun i v hv => this (P := fun l : List Int => l.length ≤ 3) (fun k v hv => by
        split at hv
        · injection hv with hv; subst hv; simp
        · cases hv) _ _ v hv) _ _ v hv) _ _ l h
      exact hl
    · simp
  · simp
/-- Whether it is submodular, increasing, and so on. -/
def isSub (n : Int) (xs : List Int) : Bool := isFn n xs && !(viol n xs).2
def isSuper (n : Int) (xs : List Int) : Bool := (scaleFn n xs (-1)).2.2 && isSub (scaleFn n xs (-1)).1 (scaleFn n xs (-1)).2.1
def isMod (n : Int) (xs : List Int) : Bool := isSub n xs && isSuper n xs
def isGround (n : Int) (xs : List Int) : Bool := isFn n xs && decide (xs.getD 0 0 = 0)
/-- No element takes from a set: all sets below s, all elements below i. -/
def incAt (xs : List Int) (s i : Nat) : Bool := decide (xs.getD s 0 ≤ xs.getD (s ||| 2 ^ i) 0)
def isInc (n : Int) (xs : List Int) : Bool := isFn n xs && (List.range xs.length).all fun s => (List.range n.toNat).all fun i => incAt xs s i
def isPoly (n : Int) (xs : List Int) : Bool := isGround n xs && (isInc n xs && isSub n xs)
/-- The weights of a set, added up. -/
def weigh (ws : List Int) (s : Nat) : Nat → Int
  | 0 => 0
  | i + 1 => if s.testBit i = true then weigh ws s i + ws.getD i 0 else weigh ws s i
def modFn (ws : List Int) (c : Int) : Int × List Int × Bool :=
  if ws.length ≤ 5 ∧ -1000 ≤ c ∧ c ≤ 1000 ∧ ∀ x ∈ ws, -1000 ≤ x ∧ x ≤ 1000 then made (ws.length : Int) (tab (2 ^ ws.length) fun s => c + weigh ws s ws.length) else (0, [], false)
theorem modFn_len (ws : List Int) (c : Int) : (modFn ws c).2.1.length ≤ 32 := by
  unfold modFn; split <;> first | exact made_len _ _ | exact Nat.zero_le _

end Go.Proofs.YtffbiflgmlabaaaGreatDoor.M

namespace Go.Proofs.YtffbiflgmlabaaaGreatDoor.M
set_option linter.unusedVariables false

/-- Submodular: no set shows a violation. -/
theorem fs_all {α : Type} {f : Nat → Option α} : ∀ (c lo : Nat), firstSome f c lo = none → ∀ i, lo ≤ i → i < lo + c → f i = none
  | 0, lo, _, i, h1, h2 => absurd h2 (by omega)
  | c + 1, lo, h, i, h1, h2 => by
    rw [firstSome] at h
    cases hf : f lo with
    | some v => rw [hf] at h; cases h
    | none =>
      rw [hf] at h
      by_cases e : lo = i
      · subst e; exact hf
      · exact fs_all c (lo + 1) h i (by omega) (by omega)
theorem sub_iff {n : Nat} {xs : List Int} : isSub (n : Int) xs = true ↔ isFn (n : Int) xs = true ∧ ∀ s i k, s < xs.length → i < n → k < n → i < k → bad xs s i k = false := by
  unfold isSub
  constructor
  · intro h
    simp only [Bool.and_eq_true, Bool.not_eq_true'] at h
    obtain ⟨hf, hv⟩ := h
    refine ⟨hf, fun s i k hs hi hk hik => ?_⟩
    unfold viol at hv
    rw [if_pos hf, Int.toNat_natCast] at hv
    have h1 : violS n xs = none := by
      cases h : violS n xs with
      | none => rfl
      | some l => rw [h] at hv; cases hv
    have h2 := fs_all _ _ h1 s (by omega) (by omega)
    have h3 := fs_all _ _ h2 i (by omega) (by omega)
    have h4 := fs_all _ _ h3 k (by omega) (by omega)
    cases hb : bad xs s i k
    · rfl
    · rw [hb] at h4; cases h4
  · rintro ⟨hf, h⟩
    rw [hf, viol_none (n := n) (xs := xs) fun s hs => violI_none fun i hi => violK_none fun k hik hk => h s i k hs hi hk hik]
    rfl
theorem bad_false {n : Nat} {xs : List Int} {s i k : Nat} (h : bad xs s i k = false) (h1 : s.testBit i = false) (h2 : s.testBit k = false) : xs.getD (s ||| 2 ^ i ||| 2 ^ k) 0 + xs.getD s 0 ≤ xs.getD (s ||| 2 ^ i) 0 + xs.getD (s ||| 2 ^ k) 0 := by
  unfold bad at h
  rw [h1, h2] at h
  simpa using h

end Go.Proofs.YtffbiflgmlabaaaGreatDoor.M

namespace Go.Proofs.YtffbiflgmlabaaaGreatDoor.M
set_option linter.unusedVariables false

/-- Elements that add nothing to s are added. -/
def addZ (xs : List Int) (s : Nat) : Nat → Nat
  | 0 => s
  | e + 1 => if xs.getD (s ||| 2 ^ e) 0 = xs.getD s 0 then addZ xs s e ||| 2 ^ e else addZ xs s e
def clos (n : Nat) (xs : List Int) (s : Nat) : Nat := addZ xs s n
def closureOf (n : Int) (xs : List Int) (s : Int) : Int := if isPoly n xs = true ∧ isSet n s = true then ((clos n.toNat xs s.toNat : Nat) : Int) else -1
def isFlat (n : Int) (xs : List Int) (s : Int) : Bool := decide (0 ≤ s) && decide (closureOf n xs s = s)
/-- The flats below m. -/
def flatsTo (n : Nat) (xs : List Int) : Nat → List Int
  | 0 => []
  | m + 1 => if clos n xs m = m then flatsTo n xs m ++ [(m : Int)] else flatsTo n xs m
def flatsOf (n : Int) (xs : List Int) : List Int × Bool := if isPoly n xs = true then (flatsTo n.toNat xs xs.length, true) else ([], false)
theorem flatsTo_len (n : Nat) (xs : List Int) : ∀ m, (flatsTo n xs m).length ≤ m
  | 0 => Nat.le_refl _
  | m + 1 => by
    have := flatsTo_len n xs m
    unfold flatsTo
    split
    · rw [List.length_append]; simp; omega
    · omega

/-- What is asked of a polymatroid, of its values alone. -/
structure Pol (n : Nat) (xs : List Int) : Prop where
  fn : isFn (n : Int) xs = true
  len : xs.length = 2 ^ n
  zero : xs.getD 0 0 = 0
  inc : ∀ s i, s < 2 ^ n → i < n → xs.getD s 0 ≤ xs.getD (s ||| 2 ^ i) 0
  sub : ∀ s i k, s < 2 ^ n → i < n → k < n → i ≠ k → s.testBit i = false → s.testBit k = false → xs.getD (s ||| 2 ^ i ||| 2 ^ k) 0 + xs.getD s 0 ≤ xs.getD (s ||| 2 ^ i) 0 + xs.getD (s ||| 2 ^ k) 0
theorem or_swap (s a b : Nat) : s ||| a ||| b = s ||| b ||| a := by
  apply Nat.eq_of_testBit_eq; intro q
  simp only [Nat.testBit_or]
  cases s.testBit q <;> cases a.testBit q <;> cases b.testBit q <;> rfl
theorem pol_of {n : Nat} {xs : List Int} (h : isPoly (n : Int) xs = true) : Pol n xs := by
  unfold isPoly isGround isInc at h
  simp only [Bool.and_eq_true, decide_eq_true_eq] at h
  obtain ⟨⟨hf, h0⟩, ⟨-, hi⟩, hs⟩ := h
  obtain ⟨-, -, hl, -⟩ := isFn_yes hf
  rw [Int.toNat_natCast] at hl hi
  refine ⟨hf, hl, h0, fun s i hs' hi' => ?_, fun s i k hs' hi' hk' hne t1 t2 => ?_⟩
  · have h1 := List.all_eq_true.1 hi s (List.mem_range.2 (by omega))
    have h2 := List.all_eq_true.1 h1 i (List.mem_range.2 hi')
    unfold incAt at h2
    exact of_decide_eq_true h2
  · rcases Nat.lt_or_gt_of_ne hne with hlt | hlt
    · exact bad_false (n := n) ((sub_iff.1 hs).2 s i k (by omega) hi' hk' hlt) t1 t2
    · have := bad_false (n := n) ((sub_iff.1 hs).2 s k i (by omega) hk' hi' hlt) t2 t1
      rw [or_swap] at this
      omega
theorem or_bit {s i : Nat} (h : s.testBit i = true) : s ||| 2 ^ i = s := by
  apply Nat.eq_of_testBit_eq; intro q
  rw [Nat.testBit_or, Nat.testBit_two_pow]
  by_cases e : i = q
  · subst e; simp [h]
  · simp [e]
theorem or_low (S D j : Nat) : S ||| D % 2 ^ (j + 1) = if D.testBit j = true then (S ||| D % 2 ^ j) ||| 2 ^ j else S ||| D % 2 ^ j := by
  apply Nat.eq_of_testBit_eq; intro q
  by_cases h : D.testBit j = true
  · rw [if_pos h]
    simp only [Nat.testBit_or, Nat.testBit_mod_two_pow, Nat.testBit_two_pow]
    by_cases e : j = q
    · subst e; simp [h]
    · have : decide (q < j + 1) = decide (q < j) := by rw [decide_eq_decide]; omega
      rw [this]; simp [e]
  · rw [if_neg h]
    simp only [Nat.testBit_or, Nat.testBit_mod_two_pow]
    by_cases e : j = q
    · subst e; simp [h]
    · have : decide (q < j + 1) = decide (q < j) := by rw [decide_eq_decide]; omega
      rw [this]
theorem or_lt {n S i : Nat} (hS : S < 2 ^ n) (hi : i < n) : S ||| 2 ^ i < 2 ^ n := Nat.or_lt_two_pow hS (Nat.pow_lt_pow_right (by decide) hi)
theorem low_lt {n S D : Nat} (hS : S < 2 ^ n) (hD : D < 2 ^ n) (j : Nat) : S ||| D % 2 ^ j < 2 ^ n := Nat.or_lt_two_pow hS (Nat.lt_of_le_of_lt (Nat.mod_le _ _) hD)

section

variable {n : Nat} {xs : List Int} (p : Pol n xs)
include p
theorem Pol.gain_low {S D e : Nat} (hS : S < 2 ^ n) (hD : D < 2 ^ n) (he : e < n) : ∀ j, j ≤ n → xs.getD ((S ||| D % 2 ^ j) ||| 2 ^ e) 0 + xs.getD S 0 ≤ xs.getD (S ||| D % 2 ^ j) 0 + xs.getD (S ||| 2 ^ e) 0
  | 0, _ => by rw [Nat.pow_zero, Nat.mod_one, Nat.or_zero]; omega
  | j + 1, hj => by
    have ih := Pol.gain_low hS hD he j (by omega)
    have hT := low_lt hS hD j
    rw [or_low]
    split
    · generalize S ||| D % 2 ^ j = T at ih hT ⊢
      have hiS := p.inc S e hS he
      by_cases t1 : T.testBit j = true
      · rwa [or_bit t1]
      · by_cases t2 : T.testBit e = true
        · have : T ||| 2 ^ j ||| 2 ^ e = T ||| 2 ^ j := by rw [or_swap, or_bit t2]
          rw [this]; omega
        · by_cases hje : j = e
          · subst hje
            have : T ||| 2 ^ j ||| 2 ^ j = T ||| 2 ^ j := or_bit (by rw [Nat.testBit_or, Nat.testBit_two_pow]; simp)
            rw [this]; omega
          · have := p.sub T j e hT (by omega) he hje (by simpa using t1) (by simpa using t2)
            omega
    · exact ih
theorem Pol.mono_low {S D : Nat} (hS : S < 2 ^ n) (hD : D < 2 ^ n) : ∀ j, j ≤ n → xs.getD S 0 ≤ xs.getD (S ||| D % 2 ^ j) 0
  | 0, _ => by rw [Nat.pow_zero, Nat.mod_one, Nat.or_zero]; omega
  | j + 1, hj => by
    have ih := Pol.mono_low hS hD j (by omega)
    rw [or_low]
    split
    · have := p.inc (S ||| D % 2 ^ j) j (low_lt hS hD j) (by omega)
      omega
    · exact ih
/-- What an element adds does not grow with the set. -/
theorem Pol.gain {S T e : Nat} (hS : S < 2 ^ n) (hT : T < 2 ^ n) (h : S ||| T = T) (he : e < n) : xs.getD (T ||| 2 ^ e) 0 + xs.getD S 0 ≤ xs.getD T 0 + xs.getD (S ||| 2 ^ e) 0 := by
  have := p.gain_low hS hT he n (Nat.le_refl _)
  rwa [Nat.mod_eq_of_lt hT, h] at this
theorem Pol.mono {S T : Nat} (hS : S < 2 ^ n) (hT : T < 2 ^ n) (h : S ||| T = T) : xs.getD S 0 ≤ xs.getD T 0 := by
  have := p.mono_low hS hT n (Nat.le_refl _)
  rwa [Nat.mod_eq_of_lt hT, h] at this
theorem Pol.zero_iff {S T e : Nat} (hS : S < 2 ^ n) (hT : T < 2 ^ n) (h : S ||| T = T) (hF : xs.getD T 0 = xs.getD S 0) (he : e < n) : xs.getD (T ||| 2 ^ e) 0 = xs.getD T 0 ↔ xs.getD (S ||| 2 ^ e) 0 = xs.getD S 0 := by
  have h1 := p.gain hS hT h he
  have h2 := p.inc S e hS he
  have h3 := p.inc T e hT he
  have h4 := p.mono (S := S ||| 2 ^ e) (T := T ||| 2 ^ e) (or_lt hS he) (or_lt hT he) (by
    apply Nat.eq_of_testBit_eq; intro q
    have := congrArg (fun x => x.testBit q) h
    simp only [Nat.testBit_or] at this ⊢
    cases hs : S.testBit q <;> cases ht : T.testBit q <;> cases (2 ^ e).testBit q <;> simp_all)
  constructor <;> intro _ <;> omega

end

theorem addZ_bit (xs : List Int) (s i : Nat) : ∀ e, (addZ xs s e).testBit i = (s.testBit i || (decide (i < e) && decide (xs.getD (s ||| 2 ^ i) 0 = xs.getD s 0)))
  | 0 => by simp [addZ]
  | e + 1 => by
    have ih := addZ_bit xs s i e
    have hd : ∀ (h : ¬ e = i), decide (i < e + 1) = decide (i < e) := fun h => by rw [decide_eq_decide]; omega
    show (if xs.getD (s ||| 2 ^ e) 0 = xs.getD s 0 then addZ xs s e ||| 2 ^ e else addZ xs s e).testBit i = _
    split
    · rename_i hz
      rw [Nat.testBit_or, Nat.testBit_two_pow, ih]
      by_cases h : e = i
      · subst h; rw [decide_eq_true hz]; simp
      · rw [hd h]; simp [h]
    · rename_i hz
      rw [ih]
      by_cases h : e = i
      · subst h; rw [decide_eq_false hz]; simp
      · rw [hd h]
theorem addZ_lt {n : Nat} (xs : List Int) {s : Nat} (hs : s < 2 ^ n) : ∀ e, e ≤ n → addZ xs s e < 2 ^ n
  | 0, _ => hs
  | e + 1, he => by
    have ih := addZ_lt xs hs e (by omega)
    unfold addZ
    split
    · exact or_lt ih (by omega)
    · exact ih
theorem addZ_sup (xs : List Int) (s e : Nat) : s ||| addZ xs s e = addZ xs s e := by
  apply Nat.eq_of_testBit_eq; intro q
  rw [Nat.testBit_or, addZ_bit]
  cases s.testBit q <;> simp

section

variable {n : Nat} {xs : List Int} (p : Pol n xs)
include p
theorem Pol.addZ_val {s : Nat} (hs : s < 2 ^ n) : ∀ e, e ≤ n → xs.getD (addZ xs s e) 0 = xs.getD s 0
  | 0, _ => rfl
  | e + 1, he => by
    have ih := Pol.addZ_val hs e (by omega)
    unfold addZ
    split
    · rename_i hz
      rw [(p.zero_iff hs (addZ_lt xs hs e (by omega)) (addZ_sup xs s e) ih (by omega)).2 hz, ih]
    · exact ih
theorem Pol.addZ_add {s e : Nat} (hs : s < 2 ^ n) (he : e < n) (h : xs.getD (addZ xs s e ||| 2 ^ e) 0 = xs.getD (addZ xs s e) 0) : addZ xs s (e + 1) = addZ xs s e ||| 2 ^ e := by
  have hz := (p.zero_iff hs (addZ_lt xs hs e (by omega)) (addZ_sup xs s e) (p.addZ_val hs e (by omega)) he).1 h
  show (if _ then _ else _) = _
  rw [if_pos hz]
theorem Pol.addZ_keep {s e : Nat} (hs : s < 2 ^ n) (he : e < n) (h : (addZ xs s e).testBit e = true ∨ xs.getD (addZ xs s e ||| 2 ^ e) 0 ≠ xs.getD (addZ xs s e) 0) : addZ xs s (e + 1) = addZ xs s e := by
  show (if xs.getD (s ||| 2 ^ e) 0 = xs.getD s 0 then addZ xs s e ||| 2 ^ e else addZ xs s e) = _
  split
  · rename_i hz
    rcases h with h | h
    · exact or_bit h
    · exact absurd ((p.zero_iff hs (addZ_lt xs hs e (by omega)) (addZ_sup xs s e) (p.addZ_val hs e (by omega)) he).2 hz) h
  · rfl
theorem Pol.clos_fix {s : Nat} (hs : s < 2 ^ n) (e : Nat) (he : e ≤ n) : addZ xs (clos n xs s) e = clos n xs s := by
  apply Nat.eq_of_testBit_eq; intro q
  rw [addZ_bit]
  by_cases hq : q < e ∧ xs.getD (clos n xs s ||| 2 ^ q) 0 = xs.getD (clos n xs s) 0
  · obtain ⟨h1, h2⟩ := hq
    have hz := (p.zero_iff hs (addZ_lt xs hs n (Nat.le_refl _)) (addZ_sup xs s n) (p.addZ_val hs n (Nat.le_refl _)) (by omega : q < n)).1 h2
    have : (clos n xs s).testBit q = true := by
      unfold clos; rw [addZ_bit, decide_eq_true hz, decide_eq_true (by omega : q < n)]; simp
    rw [this]; simp
  · have : (decide (q < e) && decide (xs.getD (clos n xs s ||| 2 ^ q) 0 = xs.getD (clos n xs s) 0)) = false := by
      rw [Bool.and_eq_false_iff]
      by_cases h1 : q < e
      · exact .inr (decide_eq_false fun h2 => hq ⟨h1, h2⟩)
      · exact .inl (decide_eq_false h1)
    rw [this, Bool.or_false]
theorem Pol.clos_clos {s : Nat} (hs : s < 2 ^ n) : clos n xs (clos n xs s) = clos n xs s := p.clos_fix hs n (Nat.le_refl _)
/-- Flats have their common elements. -/
theorem Pol.flat_and {a b : Nat} (ha : a < 2 ^ n) (hb : b < 2 ^ n) (fa : clos n xs a = a) (fb : clos n xs b = b) : clos n xs (a &&& b) = a &&& b := by
  have hab : a &&& b < 2 ^ n := Nat.lt_of_le_of_lt Nat.and_le_left ha
  have key : ∀ c, c < 2 ^ n → clos n xs c = c → (a &&& b) ||| c = c → ∀ q, q < n → xs.getD ((a &&& b) ||| 2 ^ q) 0 = xs.getD (a &&& b) 0 → c.testBit q = true := fun c hc fc hs q hq hz => by
    have h1 := p.gain hab hc hs hq
    have h2 := p.inc c q hc hq
    rw [← fc]
    unfold clos
    rw [addZ_bit]
    have : xs.getD (c ||| 2 ^ q) 0 = xs.getD c 0 := by omega
    rw [decide_eq_true hq, decide_eq_true this]; simp
  apply Nat.eq_of_testBit_eq; intro q
  unfold clos
  rw [addZ_bit]
  by_cases hq : q < n ∧ xs.getD ((a &&& b) ||| 2 ^ q) 0 = xs.getD (a &&& b) 0
  · have k1 := key a ha fa (by apply Nat.eq_of_testBit_eq; intro r; rw [Nat.testBit_or, Nat.testBit_and]; cases a.testBit r <;> simp) q hq.1 hq.2
    have k2 := key b hb fb (by apply Nat.eq_of_testBit_eq; intro r; rw [Nat.testBit_or, Nat.testBit_and]; cases a.testBit r <;> cases b.testBit r <;> rfl) q hq.1 hq.2
    rw [Nat.testBit_and, k1, k2]; simp
  · have : (decide (q < n) && decide (xs.getD ((a &&& b) ||| 2 ^ q) 0 = xs.getD (a &&& b) 0)) = false := by
      rw [Bool.and_eq_false_iff]
      by_cases h1 : q < n
      · exact .inr (decide_eq_false fun h2 => hq ⟨h1, h2⟩)
      · exact .inl (decide_eq_false h1)
    rw [this, Bool.or_false]

end


end Go.Proofs.YtffbiflgmlabaaaGreatDoor.M

namespace Go.Proofs.YtffbiflgmlabaaaGreatDoor.M
set_option linter.unusedVariables false

/-- How many ones x has, of f places. -/
def onesF : Nat → Nat → Nat
  | 0, _ => 0
  | f + 1, x => x % 2 + onesF f (x / 2)
/-- The size of a set of at most ten elements. -/
def ones (x : Nat) : Nat := onesF 10 x
theorem onesF_le : ∀ f x, onesF f x ≤ f
  | 0, _ => Nat.le_refl _
  | f + 1, x => by
    have := onesF_le f (x / 2)
    unfold onesF
    omega
theorem onesF_zero : ∀ f, onesF f 0 = 0
  | 0 => rfl
  | f + 1 => by unfold onesF; simpa using onesF_zero f
theorem ones_le5 : ∀ n, n ≤ 5 → ∀ s, s < 2 ^ n → ones s ≤ n := by decide +kernel
theorem ones_full : ∀ k, k ≤ 5 → ones (2 ^ k - 1) = k := by decide +kernel
/-- The function of the size. -/
def sizeFn (v : List Int) : Int × List Int × Bool := if 1 ≤ v.length ∧ v.length ≤ 6 then made ((v.length - 1 : Nat) : Int) (tab (2 ^ (v.length - 1)) fun s => v.getD (ones s) 0) else (0, [], false)
theorem sizeFn_len (v : List Int) : (sizeFn v).2.1.length ≤ 32 := by
  unfold sizeFn; split <;> first | exact made_len _ _ | exact Nat.zero_le _
/-- The function of the size is made exactly if there are from 1 to 6 values, all within the range. -/
theorem sizeFn_is (v : List Int) : (sizeFn v).2.2 = decide (1 ≤ v.length ∧ v.length ≤ 6 ∧ ∀ k, k < v.length → -1000 ≤ v.getD k 0 ∧ v.getD k 0 ≤ 1000) := by
  by_cases h : 1 ≤ v.length ∧ v.length ≤ 6
  · obtain ⟨h1, h6⟩ := h
    obtain ⟨n, hn⟩ : ∃ n, v.length = n + 1 := ⟨v.length - 1, by omega⟩
    have key : isFn (n : Int) (tab (2 ^ n) fun s => v.getD (ones s) 0) = decide (1 ≤ v.length ∧ v.length ≤ 6 ∧ ∀ k, k < v.length → -1000 ≤ v.getD k 0 ∧ v.getD k 0 ≤ 1000) := by
      by_cases hv : ∀ k, k < v.length → -1000 ≤ v.getD k 0 ∧ v.getD k 0 ≤ 1000
      · rw [isFn_mk (by omega) (by omega) (by rw [tab_length, Int.toNat_natCast]) fun k hk => by
          rw [tab_length] at hk
          rw [tab_at _ hk]
          have := ones_le5 n (by omega) k hk
          exact hv _ (by omega)]
        exact (decide_eq_true ⟨h1, h6, hv⟩).symm
      · rw [decide_eq_false fun hh => hv hh.2.2]
        cases hf : isFn (n : Int) (tab (2 ^ n) fun s => v.getD (ones s) 0)
        · rfl
        · exfalso
          refine hv fun k hk => ?_
          obtain ⟨_, _, _, hb⟩ := isFn_yes hf
          have hkn : k ≤ n := by omega
          have hp : 2 ^ k - 1 < 2 ^ n := by
            have h2 : 2 ^ k ≤ 2 ^ n := Nat.pow_le_pow_right (by decide) hkn
            have h3 := Nat.two_pow_pos k
            omega
          have := hb (2 ^ k - 1) (by rw [tab_length]; exact hp)
          rw [tab_at _ hp, ones_full k (by omega)] at this
          exact this
    unfold sizeFn
    rw [if_pos ⟨h1, h6⟩, ← key, hn, Nat.add_sub_cancel]
    unfold made
    split
    · rename_i e; exact e.symm
    · rename_i e; simpa using e
  · unfold sizeFn
    rw [if_neg h, decide_eq_false fun hh => h ⟨hh.1, hh.2.1⟩]
/-- The first one that is none. -/
theorem first_bad {p : Nat → Prop} {c : Nat} (h : ¬ ∀ k, k < c → p k) : ∃ j, j < c ∧ ¬ p j ∧ ∀ k, k < j → p k := by
  have key : ∀ c, (∀ k, k < c → p k) ∨ ∃ j, j < c ∧ ¬ p j ∧ ∀ k, k < j → p k := by
    intro c
    induction c with
    | zero => exact .inl fun k hk => absurd hk (by omega)
    | succ c ih =>
      rcases ih with h1 | ⟨j, hj, hb, hv⟩
      · by_cases hc : p c
        · exact .inl fun k hk => by
            by_cases e : k = c
            · subst e; exact hc
            · exact h1 k (by omega)
        · exact .inr ⟨c, by omega, hc, h1⟩
      · exact .inr ⟨j, by omega, hb, hv⟩
  rcases key c with h1 | h1
  · exact absurd h1 h
  · exact h1
/-- The differences do not grow. -/
def concaveTo (v : List Int) (c : Nat) : Prop := ∀ i, i < c → 2 ≤ i → v.getD i 0 - v.getD (i - 1) 0 ≤ v.getD (i - 1) 0 - v.getD (i - 2) 0
instance (v : List Int) (c : Nat) : Decidable (concaveTo v c) := by unfold concaveTo; infer_instance
def concave (v : List Int) : Bool := decide (1 ≤ v.length ∧ v.length ≤ 6 ∧ (∀ k, k < v.length → -1000 ≤ v.getD k 0 ∧ v.getD k 0 ≤ 1000) ∧ concaveTo v v.length)

end Go.Proofs.YtffbiflgmlabaaaGreatDoor.M

namespace Go.Proofs.YtffbiflgmlabaaaGreatDoor.M
set_option linter.unusedVariables false

/-- The places of x's ones, from place i on; f bounds how many places are looked at. -/
def elsF : Nat → Nat → Nat → List Int
  | 0, _, _ => []
  | f + 1, i, x => if x = 0 then [] else if x % 2 = 1 then (i : Int) :: elsF f (i + 1) (x / 2) else elsF f (i + 1) (x / 2)
theorem elsF_zero (f i : Nat) : elsF f i 0 = [] := by cases f <;> rfl
theorem elsF_odd {f i x : Nat} (h : x % 2 = 1) : elsF (f + 1) i x = (i : Int) :: elsF f (i + 1) (x / 2) := by
  simp only [elsF]
  rw [if_neg (by omega), if_pos h]
theorem elsF_even {f i x : Nat} (h0 : 0 < x) (h : ¬ x % 2 = 1) : elsF (f + 1) i x = elsF f (i + 1) (x / 2) := by
  simp only [elsF]
  rw [if_neg (by omega), if_neg h]
theorem elsF_len : ∀ f i x, (elsF f i x).length ≤ f
  | 0, _, _ => by simp [elsF]
  | f + 1, i, x => by
    have := elsF_len f (i + 1) (x / 2)
    simp only [elsF]
    split
    · simp
    · split
      · simp; omega
      · omega
/-- The elements of a set of at most ten. -/
def els (x : Nat) : List Int := elsF 10 0 x
theorem els_len (x : Nat) : (els x).length ≤ 10 := elsF_len 10 0 x
/-- The first one, and what is left without it: of every set of at most ten elements. -/
theorem els_low : ∀ x, x < 1024 → x ≠ 0 → els x = ((Lib.ctz 64 x : Nat) : Int) :: els (x &&& (x - 1)) := by decide +kernel
theorem els_less : ∀ x, x < 1024 → x ≠ 0 → (x &&& (x - 1)) < x := by decide +kernel
def elementsOf (n s : Int) : List Int := if 0 ≤ n ∧ n ≤ 10 ∧ isSet n s = true then els s.toNat else []
theorem elementsOf_len (n s : Int) : (elementsOf n s).length ≤ 10 := by
  unfold elementsOf
  split
  · exact els_len _
  · simp
theorem set_lt {n s : Int} (h0 : 0 ≤ n) (h10 : n ≤ 10) (hs : isSet n s = true) : ∃ S : Nat, s = (S : Int) ∧ S < 1024 := by
  obtain ⟨h1, h2⟩ := isSet_yes hs
  obtain ⟨S, rfl⟩ := Int.eq_ofNat_of_zero_le h1
  have : 2 ^ n.toNat ≤ 2 ^ 10 := Nat.pow_le_pow_right (by decide) (by omega)
  exact ⟨S, rfl, by omega⟩

end Go.Proofs.YtffbiflgmlabaaaGreatDoor.M

namespace Go.Proofs.YtffbiflgmlabaaaGreatDoor.M
set_option linter.unusedVariables false
set_option linter.unusedSimpArgs false

/-- The bits of a number put to listed elements. -/
def spread (l : List Int) (x : Nat) : Nat → Nat
  | 0 => 0
  | i + 1 => if x.testBit i = true then spread l x i ||| 2 ^ (l.getD i 0).toNat else spread l x i
def restV (xs : List Int) (s x : Nat) : Int := xs.getD (spread (els s) x (ones s)) 0
def restrictFn (n : Int) (xs : List Int) (s : Int) : Int × List Int × Bool := if isFn n xs = true ∧ isSet n s = true then (((ones s.toNat : Nat) : Int), tab (2 ^ ones s.toNat) (restV xs s.toNat), true) else (0, [], false)
/-- The elements of the first n that are not in s. -/
def compl (n s : Nat) : Nat := 2 ^ n - 1 - s
def contV (xs : List Int) (s r x : Nat) : Int := xs.getD (s ||| spread (els r) x (ones r)) 0 - xs.getD s 0
def contractFn (n : Int) (xs : List Int) (s : Int) : Int × List Int × Bool := if isFn n xs = true ∧ isSet n s = true then made ((ones (compl n.toNat s.toNat) : Nat) : Int) (tab (2 ^ ones (compl n.toNat s.toNat)) (contV xs s.toNat (compl n.toNat s.toNat))) else (0, [], false)
def oppV (xs : List Int) (s : Nat) : Int := xs.getD (xs.length - 1 - s) 0
def oppositeFn (n : Int) (xs : List Int) : Int × List Int × Bool := if isFn n xs = true then (n, tab xs.length (oppV xs), true) else (0, [], false)
def dualV (xs ws : List Int) (s : Nat) : Int := weigh ws s ws.length + xs.getD (xs.length - 1 - s) 0 - xs.getD (xs.length - 1) 0
def weightsOk (ws : List Int) : Prop := ∀ k, k < ws.length → -1000 ≤ ws.getD k 0 ∧ ws.getD k 0 ≤ 1000
instance (ws : List Int) : Decidable (weightsOk ws) := by unfold weightsOk; infer_instance
def dualFn (n : Int) (xs ws : List Int) : Int × List Int × Bool := if isFn n xs = true ∧ (ws.length : Int) = n ∧ weightsOk ws then made n (tab xs.length (dualV xs ws)) else (0, [], false)

theorem ones_els : ∀ s, s < 32 → (els s).length = ones s := by decide +kernel
theorem els_ok : ∀ s, s < 32 → ∀ j, j < (els s).length → 0 ≤ (els s).getD j 0 ∧ s.testBit ((els s).getD j 0).toNat = true ∧ ∀ k, k < j → (els s).getD k 0 < (els s).getD j 0 := by decide +kernel
theorem ones_le : ∀ n, n ≤ 5 → ∀ s, s < 2 ^ n → ones s ≤ n := ones_le5
theorem compl_lt {n s : Nat} : compl n s < 2 ^ n := by
  have := Nat.two_pow_pos n
  unfold compl; omega
theorem compl_bit {n s i : Nat} (hs : s < 2 ^ n) : (compl n s).testBit i = (decide (i < n) && !s.testBit i) := by
  have := Nat.testBit_two_pow_sub_succ hs i
  rwa [show 2 ^ n - (s + 1) = compl n s by unfold compl; omega] at this
theorem restrict_len {n : Int} {xs : List Int} {s : Int} : (restrictFn n xs s).2.1.length ≤ 32 := by
  unfold restrictFn
  split
  · rename_i h
    obtain ⟨h0, h5, -, -⟩ := isFn_yes h.1
    obtain ⟨h1, h2⟩ := isSet_yes h.2
    have h3 := ones_le5 n.toNat (by omega) s.toNat (by omega)
    have h4 : 2 ^ ones s.toNat ≤ 2 ^ 5 := Nat.pow_le_pow_right (by decide) (by omega)
    show (tab _ _).length ≤ 32
    rw [tab_length]; omega
  · exact Nat.zero_le _
theorem contract_len (n : Int) (xs : List Int) (s : Int) : (contractFn n xs s).2.1.length ≤ 32 := by
  unfold contractFn; split <;> first | exact made_len _ _ | exact Nat.zero_le _
theorem opposite_len (n : Int) (xs : List Int) : (oppositeFn n xs).2.1.length ≤ 32 := by
  unfold oppositeFn
  split
  · rename_i h
    show (tab _ _).length ≤ 32
    rw [tab_length]; exact (isFn_len h).2
  · exact Nat.zero_le _
theorem dual_len (n : Int) (xs ws : List Int) : (dualFn n xs ws).2.1.length ≤ 32 := by
  unfold dualFn; split <;> first | exact made_len _ _ | exact Nat.zero_le _

-- the spread
theorem spread_lt {n : Nat} {l : List Int} {x : Nat} : ∀ m, (∀ j, j < m → (l.getD j 0).toNat < n) → spread l x m < 2 ^ n
  | 0, _ => Nat.two_pow_pos n
  | m + 1, h => by
    have ih := spread_lt (x := x) m fun j hj => h j (by omega)
    unfold spread
    split
    · exact or_lt ih (h m (by omega))
    · exact ih
theorem spread_zero (l : List Int) : ∀ m, spread l 0 m = 0
  | 0 => rfl
  | m + 1 => by
    unfold spread
    rw [Nat.zero_testBit, if_neg (by decide)]
    exact spread_zero l m
theorem or_testBit (x i q : Nat) : (x ||| 2 ^ i).testBit q = (x.testBit q || decide (i = q)) := by rw [Nat.testBit_or, Nat.testBit_two_pow]
theorem spread_low (l : List Int) (x i : Nat) : ∀ m, m ≤ i → spread l (x ||| 2 ^ i) m = spread l x m
  | 0, _ => rfl
  | m + 1, h => by
    have ih := spread_low l x i m (by omega)
    unfold spread
    rw [or_testBit, decide_eq_false (by omega), Bool.or_false, ih]
theorem spread_or (l : List Int) (x i : Nat) : ∀ m, i < m → spread l (x ||| 2 ^ i) m = spread l x m ||| 2 ^ (l.getD i 0).toNat
  | 0, h => absurd h (by omega)
  | m + 1, h => by
    unfold spread
    rw [or_testBit]
    by_cases e : i = m
    · subst e
      rw [spread_low l x i i (Nat.le_refl _), decide_eq_true rfl, Bool.or_true, if_pos rfl]
      split
      · exact (or_bit (by rw [or_testBit]; simp)).symm
      · rfl
    · rw [spread_or l x i m (by omega), decide_eq_false e, Bool.or_false]
      split
      · rw [or_swap]
      · rfl
theorem spread_no {l : List Int} {x i : Nat} (hx : x.testBit i = false) : ∀ m, (∀ j, j < m → j ≠ i → (l.getD j 0).toNat ≠ (l.getD i 0).toNat) → (spread l x m).testBit (l.getD i 0).toNat = false
  | 0, _ => Nat.zero_testBit _
  | m + 1, h => by
    have ih := spread_no hx m fun j hj => h j (by omega)
    unfold spread
    split
    · rename_i ht
      have hne : m ≠ i := fun e => by subst e; rw [hx] at ht; cases ht
      rw [or_testBit, ih, decide_eq_false (h m (by omega) hne)]; rfl
    · exact ih
/-- The elements that spread a number: apart, below n, none in the base. -/
structure Lies (n : Nat) (l : List Int) (m S : Nat) : Prop where
  below : ∀ j, j < m → (l.getD j 0).toNat < n
  apart : ∀ j k, j < m → k < m → j ≠ k → (l.getD j 0).toNat ≠ (l.getD k 0).toNat
  out : ∀ j, j < m → S.testBit (l.getD j 0).toNat = false
theorem lies_els {n s S : Nat} (h5 : n ≤ 5) (hs : s < 2 ^ n) (ho : ∀ q, s.testBit q = true → S.testBit q = false) : Lies n (els s) (ones s) S := by
  have h32 : s < 32 := Nat.lt_of_lt_of_le hs (Nat.le_trans (Nat.pow_le_pow_right (by decide) h5) (by decide))
  have hl := ones_els s h32
  refine ⟨fun j hj => ?_, fun j k hj hk hne => ?_, fun j hj => ?_⟩
  · obtain ⟨-, h2, -⟩ := els_ok s h32 j (by omega)
    refine Nat.lt_of_not_le fun hge => ?_
    rw [Nat.testBit_lt_two_pow (Nat.lt_of_lt_of_le hs (Nat.pow_le_pow_right (by decide) hge))] at h2
    cases h2
  · obtain ⟨j0, -, j2⟩ := els_ok s h32 j (by omega)
    obtain ⟨k0, -, k2⟩ := els_ok s h32 k (by omega)
    rcases Nat.lt_or_gt_of_ne hne with h | h
    · have := k2 j h; omega
    · have := j2 k h; omega
  · exact ho _ (els_ok s h32 j (by omega)).2.1
/-- Where f is submodular, so is what it is on the spread of numbers over a base. -/
theorem spread_sub {n : Nat} {xs : List Int} (h : isSub (n : Int) xs = true) {l : List Int} {m S : Nat} (hl : Lies n l m S) (hS : S < 2 ^ n) (c : Int) {x i k : Nat} (hx : x < 2 ^ m) (hi : i < m) (hk : k < m) (hik : i < k) : bad (tab (2 ^ m) fun x => xs.getD (S ||| spread l x m) 0 - c) x i k = false := by
  obtain ⟨hf, hsub⟩ := sub_iff.1 h
  obtain ⟨-, -, hlen, -⟩ := isFn_yes hf
  rw [Int.toNat_natCast] at hlen
  have b1 := or_lt hx hi
  have b2 := or_lt hx hk
  have b3 := or_lt b1 hk
  unfold bad
  rw [tab_at _ hx, tab_at _ b1, tab_at _ b2, tab_at _ b3]
  cases t1 : x.testBit i
  · cases t2 : x.testBit k
    · have hT : S ||| spread l x m < 2 ^ n := Nat.or_lt_two_pow hS (spread_lt m hl.below)
      have u1 : (S ||| spread l x m).testBit (l.getD i 0).toNat = false := by
        rw [Nat.testBit_or, hl.out i hi, spread_no t1 m fun j hj hne => hl.apart j i hj hi hne]; rfl
      have u2 : (S ||| spread l x m).testBit (l.getD k 0).toNat = false := by
        rw [Nat.testBit_or, hl.out k hk, spread_no t2 m fun j hj hne => hl.apart j k hj hk hne]; rfl
      rw [spread_or l (x ||| 2 ^ i) k m hk, spread_or l x i m hi, spread_or l x k m hk]
      simp only [← Nat.or_assoc]
      have hne := hl.apart i k hi hk (by omega)
      have bi := hl.below i hi
      have bk := hl.below k hk
      generalize (l.getD i 0).toNat = I at *
      generalize (l.getD k 0).toNat = K at *
      generalize S ||| spread l x m = T at *
      have key : xs.getD (T ||| 2 ^ I ||| 2 ^ K) 0 + xs.getD T 0 ≤ xs.getD (T ||| 2 ^ I) 0 + xs.getD (T ||| 2 ^ K) 0 := by
        rcases Nat.lt_or_gt_of_ne hne with h | h
        · exact bad_false (n := n) (hsub T I K (by omega) bi bk h) u1 u2
        · have := bad_false (n := n) (hsub T K I (by omega) bk bi h) u2 u1
          rw [or_swap] at this
          omega
      simp only [Bool.not_false, Bool.true_and, decide_eq_false_iff_not]
      omega
    · simp
  · simp
theorem restV_eq (xs : List Int) (s : Nat) : restV xs s = fun x => xs.getD (0 ||| spread (els s) x (ones s)) 0 - 0 := by
  funext x
  unfold restV
  rw [Nat.zero_or]
  omega
theorem restrict_fn {n : Int} {xs : List Int} {s : Int} (hf : isFn n xs = true) (hs : isSet n s = true) : isFn ((ones s.toNat : Nat) : Int) (tab (2 ^ ones s.toNat) (restV xs s.toNat)) = true := by
  obtain ⟨h0, h5, hl, hv⟩ := isFn_yes hf
  obtain ⟨s0, s1⟩ := isSet_yes hs
  have hs' : s.toNat < 2 ^ n.toNat := by omega
  have ho := ones_le5 n.toNat (by omega) s.toNat hs'
  refine isFn_mk (by omega) (by omega) (by rw [tab_length, Int.toNat_natCast]) fun k hk => ?_
  rw [tab_length] at hk
  rw [tab_at _ hk]
  exact hv _ (by
    rw [hl]
    exact spread_lt _ (lies_els (S := 0) (by omega) hs' fun q _ => Nat.zero_testBit q).below)
theorem restrict_made {n : Int} {xs : List Int} {s : Int} (hf : isFn n xs = true) (hs : isSet n s = true) : restrictFn n xs s = made ((ones s.toNat : Nat) : Int) (tab (2 ^ ones s.toNat) (restV xs s.toNat)) := by
  unfold restrictFn made
  rw [if_pos ⟨hf, hs⟩, if_pos (restrict_fn hf hs)]
/-- Restrictions of submodular functions are submodular. -/
theorem restrict_sub {n : Int} {xs : List Int} {s : Int} (h : isSub n xs = true) (hs : isSet n s = true) : isSub (restrictFn n xs s).1 (restrictFn n xs s).2.1 = true := by
  have hf : isFn n xs = true := by unfold isSub at h; simp only [Bool.and_eq_true] at h; exact h.1
  obtain ⟨h0, h5, -, -⟩ := isFn_yes hf
  obtain ⟨s0, s1⟩ := isSet_yes hs
  obtain ⟨N, rfl⟩ := Int.eq_ofNat_of_zero_le h0
  rw [Int.toNat_natCast] at s1
  have hr := restrict_fn hf hs
  unfold restrictFn
  rw [if_pos ⟨hf, hs⟩]
  refine sub_iff.2 ⟨hr, fun x i k hx hi hk hik => ?_⟩
  rw [tab_length] at hx
  rw [restV_eq]
  exact spread_sub h (lies_els (by omega) (by omega) fun q _ => Nat.zero_testBit q) (Nat.two_pow_pos N) 0 hx hi hk hik
/-- Contractions of submodular functions are submodular and give 0 to the empty set. -/
theorem contract_sub {n : Int} {xs : List Int} {s : Int} (h : isSub n xs = true) (hs : isSet n s = true) (ht : (contractFn n xs s).2.2 = true) : isSub (contractFn n xs s).1 (contractFn n xs s).2.1 = true ∧ isGround (contractFn n xs s).1 (contractFn n xs s).2.1 = true := by
  have hf : isFn n xs = true := by unfold isSub at h; simp only [Bool.and_eq_true] at h; exact h.1
  obtain ⟨h0, h5, -, -⟩ := isFn_yes hf
  obtain ⟨s0, s1⟩ := isSet_yes hs
  obtain ⟨N, rfl⟩ := Int.eq_ofNat_of_zero_le h0
  rw [Int.toNat_natCast] at s1
  unfold contractFn at ht ⊢
  rw [if_pos ⟨hf, hs⟩, Int.toNat_natCast] at ht ⊢
  unfold made at ht ⊢
  split at ht
  · rename_i hm
    rw [if_pos hm]
    refine ⟨sub_iff.2 ⟨hm, fun x i k hx hi hk hik => ?_⟩, ?_⟩
    · rw [tab_length] at hx
      refine spread_sub h (lies_els (by omega) compl_lt fun q hq => ?_) (by omega) _ hx hi hk hik
      rw [compl_bit (by omega)] at hq
      simpa using (Bool.and_eq_true_iff.1 hq).2
    · show (isFn _ _ && decide _) = true
      rw [hm, tab_at _ (Nat.two_pow_pos _)]
      unfold contV
      rw [spread_zero, Nat.or_zero]
      simp
  · cases ht
-- opposite functions
theorem compl_two {n s i k : Nat} (hs : s < 2 ^ n) (hi : i < n) (hk : k < n) (hne : i ≠ k) (t1 : s.testBit i = false) (t2 : s.testBit k = false) :
    compl n s = compl n (s ||| 2 ^ i ||| 2 ^ k) ||| 2 ^ i ||| 2 ^ k ∧ compl n (s ||| 2 ^ i) = compl n (s ||| 2 ^ i ||| 2 ^ k) ||| 2 ^ k ∧ compl n (s ||| 2 ^ k) = compl n (s ||| 2 ^ i ||| 2 ^ k) ||| 2 ^ i := by
  have b1 := or_lt hs hi
  have b2 := or_lt hs hk
  have b3 := or_lt b1 hk
  refine ⟨?_, ?_, ?_⟩ <;>
    (apply Nat.eq_of_testBit_eq; intro q
     simp only [or_testBit, compl_bit hs, compl_bit b1, compl_bit b2, compl_bit b3]
     by_cases e1 : i = q
     · subst e1
       simp [hi, t1, hne, Ne.symm hne]
     · by_cases e2 : k = q
       · subst e2
         simp [hk, t2, hne, e1]
       · simp [e1, e2])
theorem opp_at {n s : Nat} {xs : List Int} (hl : xs.length = 2 ^ n) (hs : s < 2 ^ n) : (tab xs.length (oppV xs)).getD s 0 = xs.getD (compl n s) 0 := by
  rw [tab_at _ (by omega)]
  unfold oppV compl
  rw [hl]
theorem opp_bad {n s i k : Nat} {xs ys : List Int} (hv : ∀ s, s < 2 ^ n → ys.getD s 0 = xs.getD (compl n s) 0) (hs : s < 2 ^ n) (hi : i < n) (hk : k < n) (hne : i ≠ k) (t1 : s.testBit i = false) (t2 : s.testBit k = false) :
    bad ys s i k = bad xs (compl n (s ||| 2 ^ i ||| 2 ^ k)) i k := by
  have b1 := or_lt hs hi
  have b2 := or_lt hs hk
  have b3 := or_lt b1 hk
  obtain ⟨c1, c2, c3⟩ := compl_two hs hi hk hne t1 t2
  unfold bad
  rw [hv s hs, hv _ b1, hv _ b2, hv _ b3, c1, c2, c3, compl_bit b3, compl_bit b3, t1, t2]
  simp only [or_testBit]
  simp
  constructor <;> intro _ <;> omega
theorem opp_sub_of {n : Nat} {xs ys : List Int} (hv : ∀ s, s < 2 ^ n → ys.getD s 0 = xs.getD (compl n s) 0) (hy : isFn (n : Int) ys = true) (h : isSub (n : Int) xs = true) : isSub (n : Int) ys = true := by
  obtain ⟨hf, hsub⟩ := sub_iff.1 h
  obtain ⟨-, -, hl, -⟩ := isFn_yes hf
  obtain ⟨-, -, hl2, -⟩ := isFn_yes hy
  rw [Int.toNat_natCast] at hl hl2
  refine sub_iff.2 ⟨hy, fun s i k hs hi hk hik => ?_⟩
  cases t1 : s.testBit i
  · cases t2 : s.testBit k
    · rw [opp_bad hv (by omega) hi hk (by omega) t1 t2]
      exact hsub _ i k (by rw [hl]; exact compl_lt) hi hk hik
    · unfold bad; rw [t1, t2]; rfl
  · unfold bad; rw [t1]; rfl
theorem compl_compl {n s : Nat} (hs : s < 2 ^ n) : compl n (compl n s) = s := by unfold compl; omega
theorem opposite_fn {n : Int} {xs : List Int} (hf : isFn n xs = true) : isFn n (tab xs.length (oppV xs)) = true := by
  obtain ⟨h0, h5, hl, hv⟩ := isFn_yes hf
  have h1 := isFn_len hf
  refine isFn_mk h0 h5 (by rw [tab_length]; exact hl) fun k hk => ?_
  rw [tab_length] at hk
  rw [tab_at _ hk]
  exact hv _ (by omega)
theorem opposite_made {n : Int} {xs : List Int} (hf : isFn n xs = true) : oppositeFn n xs = made n (tab xs.length (oppV xs)) := by
  unfold oppositeFn made
  rw [if_pos hf, if_pos (opposite_fn hf)]
/-- An opposite function is submodular exactly if the function is. -/
theorem opposite_sub {n : Int} {xs : List Int} (hf : isFn n xs = true) : isSub (oppositeFn n xs).1 (oppositeFn n xs).2.1 = isSub n xs := by
  obtain ⟨h0, h5, hl, hv⟩ := isFn_yes hf
  obtain ⟨N, rfl⟩ := Int.eq_ofNat_of_zero_le h0
  rw [Int.toNat_natCast] at hl
  have ho := opposite_fn hf
  unfold oppositeFn
  rw [if_pos hf]
  show isSub (N : Int) (tab xs.length (oppV xs)) = _
  rw [Bool.eq_iff_iff]
  refine ⟨fun h => opp_sub_of (xs := tab xs.length (oppV xs)) (fun s hs => ?_) hf h, fun h => opp_sub_of (fun s hs => opp_at hl hs) ho h⟩
  rw [opp_at hl compl_lt, compl_compl hs]
-- dual functions
theorem weigh_low (ws : List Int) (s i : Nat) : ∀ m, m ≤ i → weigh ws (s ||| 2 ^ i) m = weigh ws s m
  | 0, _ => rfl
  | m + 1, h => by
    have ih := weigh_low ws s i m (by omega)
    unfold weigh
    rw [or_testBit, decide_eq_false (by omega), Bool.or_false, ih]
theorem weigh_or (ws : List Int) {s i : Nat} (ht : s.testBit i = false) : ∀ m, i < m → weigh ws (s ||| 2 ^ i) m = weigh ws s m + ws.getD i 0
  | 0, h => absurd h (by omega)
  | m + 1, h => by
    unfold weigh
    rw [or_testBit]
    by_cases e : i = m
    · subst e
      rw [weigh_low ws s i i (Nat.le_refl _), decide_eq_true rfl, Bool.or_true, if_pos rfl, ht, if_neg (by decide)]
    · rw [weigh_or ws ht m (by omega), decide_eq_false e, Bool.or_false]
      split <;> omega
theorem dual_bad {n s i k : Nat} {xs ws : List Int} (hl : xs.length = 2 ^ n) (hw : ws.length = n) (hs : s < 2 ^ n) (hi : i < n) (hk : k < n) (hne : i ≠ k) : bad (tab xs.length (dualV xs ws)) s i k = bad (tab xs.length (oppV xs)) s i k := by
  have b1 := or_lt hs hi
  have b2 := or_lt hs hk
  have b3 := or_lt b1 hk
  unfold bad
  rw [← hl] at hs b1 b2 b3
  rw [tab_at _ hs, tab_at _ b1, tab_at _ b2, tab_at _ b3, tab_at _ hs, tab_at _ b1, tab_at _ b2, tab_at _ b3]
  cases t1 : s.testBit i
  · cases t2 : s.testBit k
    · have w1 := weigh_or ws t1 ws.length (by omega)
      have w2 := weigh_or ws t2 ws.length (by omega)
      have w3 := weigh_or ws (s := s ||| 2 ^ i) (i := k) (by rw [or_testBit, t2, decide_eq_false hne]; rfl) ws.length (by omega)
      unfold dualV oppV
      rw [w3, w1, w2]
      simp only [Bool.not_false, Bool.true_and]
      rw [decide_eq_decide]
      constructor <;> intro _ <;> omega
    · simp
  · simp
/-- A dual function is submodular exactly if the function is. -/
theorem dual_sub {n : Int} {xs ws : List Int} (ht : (dualFn n xs ws).2.2 = true) : isSub (dualFn n xs ws).1 (dualFn n xs ws).2.1 = isSub n xs := by
  unfold dualFn at ht ⊢
  split at ht
  · rename_i hh
    rw [if_pos hh]
    obtain ⟨hf, hw, -⟩ := hh
    unfold made at ht ⊢
    split at ht
    · rename_i hm
      rw [if_pos hm]
      have ho := opposite_sub hf
      unfold oppositeFn at ho
      rw [if_pos hf] at ho
      have ho' : isSub n (tab xs.length (oppV xs)) = isSub n xs := ho
      rw [← ho']
      obtain ⟨h0, h5, hl, hv⟩ := isFn_yes hf
      obtain ⟨N, rfl⟩ := Int.eq_ofNat_of_zero_le h0
      rw [Int.toNat_natCast] at hl
      have hof := opposite_fn hf
      show isSub (N : Int) (tab xs.length (dualV xs ws)) = _
      rw [Bool.eq_iff_iff, sub_iff, sub_iff]
      simp only [tab_length]
      constructor
      · rintro ⟨-, h⟩
        exact ⟨hof, fun s i k hs hi hk hik => by rw [← dual_bad (ws := ws) hl (by omega) (by omega) hi hk (by omega)]; exact h s i k hs hi hk hik⟩
      · rintro ⟨-, h⟩
        exact ⟨hm, fun s i k hs hi hk hik => by rw [dual_bad (ws := ws) hl (by omega) (by omega) hi hk (by omega)]; exact h s i k hs hi hk hik⟩
    · cases ht
  · cases ht

end Go.Proofs.YtffbiflgmlabaaaGreatDoor.M

namespace Go.Proofs.YtffbiflgmlabaaaGreatDoor.M
set_option linter.unusedVariables false
set_option linter.unusedSimpArgs false

/-- f of a part and g of the rest. -/
def partV (xs ys : List Int) (s x : Nat) : Int := xs.getD x 0 + ys.getD (s - x) 0
/-- The least part below c with the least sum. -/
def splitTo (xs ys : List Int) (s : Nat) : Nat → Nat
  | 0 => 0
  | x + 1 => if (x + 1) &&& s = x + 1 ∧ partV xs ys s (x + 1) < partV xs ys s (splitTo xs ys s x) then x + 1 else splitTo xs ys s x
def split (xs ys : List Int) (s : Nat) : Nat := splitTo xs ys s s
def convV (xs ys : List Int) (s : Nat) : Int := partV xs ys s (split xs ys s)
def fits (n : Int) (xs : List Int) (m : Int) (ys : List Int) : Bool := isFn n xs && (isFn m ys && decide (n = m))
def convFn (n : Int) (xs : List Int) (m : Int) (ys : List Int) : Int × List Int × Bool := if fits n xs m ys = true then made n (tab xs.length (convV xs ys)) else (0, [], false)
def splitOf (n : Int) (xs : List Int) (m : Int) (ys : List Int) (s : Int) : Int × Bool := if fits n xs m ys = true ∧ isSet n s = true then (((split xs ys s.toNat : Nat) : Int), true) else (0, false)
/-- The least value of those from s on, c of them, that contain s. -/
def hullTo (xs : List Int) (s : Nat) : Nat → Int
  | 0 => xs.getD s 0
  | c + 1 => if (s + c) &&& s = s then min (hullTo xs s c) (xs.getD (s + c) 0) else hullTo xs s c
def hullV (xs : List Int) (s : Nat) : Int := hullTo xs s (xs.length - s)
def hullFn (n : Int) (xs : List Int) : Int × List Int × Bool := if isFn n xs = true then (n, tab xs.length (hullV xs), true) else (0, [], false)
def truncV (xs : List Int) (k : Int) (s : Nat) : Int := min k (xs.getD s 0)
def truncFn (n : Int) (xs : List Int) (k : Int) : Int × List Int × Bool := if isFn n xs = true ∧ -1000 ≤ k ∧ k ≤ 1000 then (n, tab xs.length (truncV xs k), true) else (0, [], false)
def reduceFn (n : Int) (xs ws : List Int) : Int × List Int × Bool := if (modFn ws 0).2.2 = true ∧ isFn n xs = true ∧ (modFn ws 0).1 = n then convFn n xs (modFn ws 0).1 (modFn ws 0).2.1 else (0, [], false)
theorem convFn_len (n : Int) (xs : List Int) (m : Int) (ys : List Int) : (convFn n xs m ys).2.1.length ≤ 32 := by
  unfold convFn; split <;> first | exact made_len _ _ | exact Nat.zero_le _
theorem hullFn_len (n : Int) (xs : List Int) : (hullFn n xs).2.1.length ≤ 32 := by
  unfold hullFn
  split
  · rename_i h
    show (tab _ _).length ≤ 32
    rw [tab_length]; exact (isFn_len h).2
  · exact Nat.zero_le _
theorem truncFn_len (n : Int) (xs : List Int) (k : Int) : (truncFn n xs k).2.1.length ≤ 32 := by
  unfold truncFn
  split
  · rename_i h
    show (tab _ _).length ≤ 32
    rw [tab_length]; exact (isFn_len h.1).2
  · exact Nat.zero_le _
theorem reduceFn_len (n : Int) (xs ws : List Int) : (reduceFn n xs ws).2.1.length ≤ 32 := by
  unfold reduceFn; split <;> first | exact convFn_len _ _ _ _ | exact Nat.zero_le _
theorem fits_yes {n : Int} {xs : List Int} {m : Int} {ys : List Int} (h : fits n xs m ys = true) : isFn n xs = true ∧ isFn m ys = true ∧ n = m := by
  unfold fits at h
  simpa using h

-- the split
theorem splitTo_in (xs ys : List Int) (s : Nat) : ∀ c, splitTo xs ys s c &&& s = splitTo xs ys s c ∧ splitTo xs ys s c ≤ c
  | 0 => by simp [splitTo]
  | c + 1 => by
    have ih := splitTo_in xs ys s c
    unfold splitTo
    split
    · rename_i h; exact ⟨h.1, Nat.le_refl _⟩
    · exact ⟨ih.1, by omega⟩
theorem splitTo_min (xs ys : List Int) (s : Nat) : ∀ c x, x ≤ c → x &&& s = x → partV xs ys s (splitTo xs ys s c) ≤ partV xs ys s x
  | 0, x, hx, _ => by
    obtain rfl : x = 0 := by omega
    exact Int.le_refl _
  | c + 1, x, hx, hs => by
    have ih := splitTo_min xs ys s c
    unfold splitTo
    split
    · rename_i h
      by_cases e : x = c + 1
      · subst e; exact Int.le_refl _
      · have := ih x (by omega) hs; omega
    · rename_i h
      by_cases e : x = c + 1
      · subst e
        by_cases hlt : partV xs ys s (c + 1) < partV xs ys s (splitTo xs ys s c)
        · exact absurd ⟨hs, hlt⟩ h
        · omega
      · exact ih x (by omega) hs
theorem and_le_of {x s : Nat} (h : x &&& s = x) : x ≤ s := by
  have := Nat.and_le_right (n := x) (m := s)
  omega
theorem split_in (xs ys : List Int) (s : Nat) : split xs ys s &&& s = split xs ys s ∧ split xs ys s ≤ s := splitTo_in xs ys s s
theorem split_min (xs ys : List Int) {s x : Nat} (h : x &&& s = x) : convV xs ys s ≤ partV xs ys s x := splitTo_min xs ys s s x (and_le_of h) h
-- the hull
theorem hullTo_at (xs : List Int) (s : Nat) : ∀ c, ∃ x, x &&& s = s ∧ (x = s ∨ x < s + c) ∧ hullTo xs s c = xs.getD x 0
  | 0 => ⟨s, Nat.and_self s, .inl rfl, rfl⟩
  | c + 1 => by
    obtain ⟨x, h1, h2, h3⟩ := hullTo_at xs s c
    unfold hullTo
    split
    · rename_i h
      by_cases hm : hullTo xs s c ≤ xs.getD (s + c) 0
      · exact ⟨x, h1, by omega, by rw [← h3]; omega⟩
      · exact ⟨s + c, h, by omega, by omega⟩
    · exact ⟨x, h1, by omega, h3⟩
theorem hullTo_le (xs : List Int) (s : Nat) : ∀ c, hullTo xs s c ≤ xs.getD s 0 ∧ ∀ d, d < c → (s + d) &&& s = s → hullTo xs s c ≤ xs.getD (s + d) 0
  | 0 => ⟨Int.le_refl _, fun d hd => absurd hd (by omega)⟩
  | c + 1 => by
    obtain ⟨h1, h2⟩ := hullTo_le xs s c
    unfold hullTo
    split
    · rename_i h
      refine ⟨by omega, fun d hd hs => ?_⟩
      by_cases e : d = c
      · subst e; omega
      · have := h2 d (by omega) hs; omega
    · rename_i h
      refine ⟨h1, fun d hd hs => ?_⟩
      by_cases e : d = c
      · subst e; exact absurd hs h
      · exact h2 d (by omega) hs
theorem hull_at {xs : List Int} {s : Nat} (hs : s < xs.length) : ∃ x, x &&& s = s ∧ x < xs.length ∧ hullV xs s = xs.getD x 0 := by
  obtain ⟨x, h1, h2, h3⟩ := hullTo_at xs s (xs.length - s)
  exact ⟨x, h1, by omega, h3⟩
theorem hull_le {xs : List Int} {s x : Nat} (hx : x < xs.length) (h : x &&& s = s) : hullV xs s ≤ xs.getD x 0 := by
  have hle : s ≤ x := by
    have := Nat.and_le_left (n := x) (m := s)
    omega
  have := (hullTo_le xs s (xs.length - s)).2 (x - s) (by omega) (by rw [show s + (x - s) = x by omega]; exact h)
  rwa [show s + (x - s) = x by omega] at this

-- submodular functions, by unions and intersections
structure Sb (n : Nat) (xs : List Int) : Prop where
  len : xs.length = 2 ^ n
  sub : ∀ s i k, s < 2 ^ n → i < n → k < n → i ≠ k → s.testBit i = false → s.testBit k = false → xs.getD (s ||| 2 ^ i ||| 2 ^ k) 0 + xs.getD s 0 ≤ xs.getD (s ||| 2 ^ i) 0 + xs.getD (s ||| 2 ^ k) 0
theorem sb_of {n : Nat} {xs : List Int} (h : isSub (n : Int) xs = true) : Sb n xs := by
  obtain ⟨hf, hsub⟩ := sub_iff.1 h
  obtain ⟨-, -, hl, -⟩ := isFn_yes hf
  rw [Int.toNat_natCast] at hl
  refine ⟨hl, fun s i k hs hi hk hne t1 t2 => ?_⟩
  rcases Nat.lt_or_gt_of_ne hne with hlt | hlt
  · exact bad_false (n := n) (hsub s i k (by omega) hi hk hlt) t1 t2
  · have := bad_false (n := n) (hsub s k i (by omega) hk hi hlt) t2 t1
    rw [or_swap] at this
    omega
/-- To be submodular it is enough that any two supersets by one element do. -/
theorem sub_of {n : Nat} {xs : List Int} (hf : isFn (n : Int) xs = true) (h : ∀ s i k, s < 2 ^ n → i < n → k < n → i < k → s.testBit i = false → s.testBit k = false → xs.getD (s ||| 2 ^ i ||| 2 ^ k) 0 + xs.getD s 0 ≤ xs.getD (s ||| 2 ^ i) 0 + xs.getD (s ||| 2 ^ k) 0) : isSub (n : Int) xs = true := by
  obtain ⟨-, -, hl, -⟩ := isFn_yes hf
  rw [Int.toNat_natCast] at hl
  refine sub_iff.2 ⟨hf, fun s i k hs hi hk hik => ?_⟩
  unfold bad
  cases t1 : s.testBit i
  · cases t2 : s.testBit k
    · have := h s i k (by omega) hi hk hik t1 t2
      simp only [Bool.not_false, Bool.true_and, decide_eq_false_iff_not]
      omega
    · simp
  · simp
theorem low_bit (D j q : Nat) : (D % 2 ^ j).testBit q = (decide (q < j) && D.testBit q) := Nat.testBit_mod_two_pow D j q
theorem Sb.gain_low {n : Nat} {xs : List Int} (p : Sb n xs) {S D e : Nat} (hS : S < 2 ^ n) (hD : D < 2 ^ n) (he : e < n) (ht : (S ||| D).testBit e = false) : ∀ j, j ≤ n → xs.getD ((S ||| D % 2 ^ j) ||| 2 ^ e) 0 + xs.getD S 0 ≤ xs.getD (S ||| D % 2 ^ j) 0 + xs.getD (S ||| 2 ^ e) 0
  | 0, _ => by rw [Nat.pow_zero, Nat.mod_one, Nat.or_zero]; omega
  | j + 1, hj => by
    have ih := Sb.gain_low p hS hD he ht j (by omega)
    have hT := low_lt hS hD j
    rw [Nat.testBit_or, Bool.or_eq_false_iff] at ht
    rw [or_low]
    split
    · rename_i hd
      have hTe : (S ||| D % 2 ^ j).testBit e = false := by rw [Nat.testBit_or, low_bit, ht.1, ht.2]; simp
      have hje : j ≠ e := fun h => by subst h; rw [ht.2] at hd; cases hd
      generalize S ||| D % 2 ^ j = T at ih hT hTe ⊢
      by_cases t1 : T.testBit j = true
      · rwa [or_bit t1]
      · have := p.sub T j e hT (by omega) he hje (by simpa using t1) hTe
        omega
    · exact ih
theorem Sb.gain {n : Nat} {xs : List Int} (p : Sb n xs) {S T e : Nat} (hS : S < 2 ^ n) (hT : T < 2 ^ n) (h : S ||| T = T) (he : e < n) (ht : T.testBit e = false) : xs.getD (T ||| 2 ^ e) 0 + xs.getD S 0 ≤ xs.getD T 0 + xs.getD (S ||| 2 ^ e) 0 := by
  have := p.gain_low hS hT he (by rw [h]; exact ht) n (Nat.le_refl _)
  rwa [Nat.mod_eq_of_lt hT, h] at this
theorem Sb.four_low {n : Nat} {xs : List Int} (p : Sb n xs) {X Y : Nat} (hX : X < 2 ^ n) (hY : Y < 2 ^ n) : ∀ j, j ≤ n → xs.getD (X ||| Y % 2 ^ j) 0 + xs.getD (X &&& Y) 0 ≤ xs.getD X 0 + xs.getD ((X &&& Y) ||| Y % 2 ^ j) 0
  | 0, _ => by rw [Nat.pow_zero, Nat.mod_one, Nat.or_zero, Nat.or_zero]; omega
  | j + 1, hj => by
    have ih := Sb.four_low p hX hY j (by omega)
    have hXY : X &&& Y < 2 ^ n := Nat.lt_of_le_of_lt Nat.and_le_left hX
    have hA := low_lt hX hY j
    have hB := low_lt hXY hY j
    rw [or_low, or_low]
    by_cases hd : Y.testBit j = true
    · rw [if_pos hd, if_pos hd]
      by_cases hx : X.testBit j = true
      · rw [or_bit (s := X ||| Y % 2 ^ j) (by rw [Nat.testBit_or, hx]; rfl), or_bit (s := (X &&& Y) ||| Y % 2 ^ j) (by rw [Nat.testBit_or, Nat.testBit_and, hx, hd]; rfl)]
        exact ih
      · have hx' : X.testBit j = false := by simpa using hx
        have := p.gain (S := (X &&& Y) ||| Y % 2 ^ j) (T := X ||| Y % 2 ^ j) (e := j) hB hA (by
          apply Nat.eq_of_testBit_eq; intro q
          simp only [Nat.testBit_or, Nat.testBit_and]
          cases X.testBit q <;> cases Y.testBit q <;> cases (Y % 2 ^ j).testBit q <;> rfl) (by omega) (by rw [Nat.testBit_or, low_bit, hx']; simp)
        omega
    · rw [if_neg hd, if_neg hd]
      exact ih
/-- Submodular, by the union and what is common. -/
theorem Sb.four {n : Nat} {xs : List Int} (p : Sb n xs) {X Y : Nat} (hX : X < 2 ^ n) (hY : Y < 2 ^ n) : xs.getD (X ||| Y) 0 + xs.getD (X &&& Y) 0 ≤ xs.getD X 0 + xs.getD Y 0 := by
  have := p.four_low hX hY n (Nat.le_refl _)
  rwa [Nat.mod_eq_of_lt hY, show (X &&& Y) ||| Y = Y by
    apply Nat.eq_of_testBit_eq; intro q
    rw [Nat.testBit_or, Nat.testBit_and]
    cases X.testBit q <;> cases Y.testBit q <;> rfl] at this

end Go.Proofs.YtffbiflgmlabaaaGreatDoor.M

namespace Go.Proofs.YtffbiflgmlabaaaGreatDoor.M
set_option linter.unusedVariables false
set_option linter.unusedSimpArgs false

-- vectors of chapter 8
def isVec5 (ws : List Int) : Bool := decide (ws.length ≤ 5) && ws.all fun x => decide (-5000 ≤ x) && decide (x ≤ 5000)
theorem isVec5_yes {ws : List Int} (h : isVec5 ws = true) : ws.length ≤ 5 ∧ ∀ k, k < ws.length → -5000 ≤ ws.getD k 0 ∧ ws.getD k 0 ≤ 5000 := by
  simp only [isVec5, Bool.and_eq_true, decide_eq_true_eq, List.all_eq_true] at h
  refine ⟨h.1, fun k hk => ?_⟩
  have := h.2 ws[k] (List.getElem_mem hk)
  simpa [hk] using this
theorem isVec5_mk {ws : List Int} (h1 : ws.length ≤ 5) (h : ∀ k, k < ws.length → -5000 ≤ ws.getD k 0 ∧ ws.getD k 0 ≤ 5000) : isVec5 ws = true := by
  simp only [isVec5, Bool.and_eq_true, decide_eq_true_eq, List.all_eq_true]
  refine ⟨h1, fun x hx => ?_⟩
  obtain ⟨k, hk, rfl⟩ := List.mem_iff_getElem.1 hx
  have := h k hk
  simpa [hk] using this
theorem isVec5_good {ws : List Int} (h : ∀ k, k < ws.length → -5000 ≤ ws.getD k 0 ∧ ws.getD k 0 ≤ 5000) : isVec5 ws = decide (ws.length ≤ 5) := by
  by_cases h5 : ws.length ≤ 5
  · rw [isVec5_mk h5 h, decide_eq_true h5]
  · rw [decide_eq_false h5]
    unfold isVec5
    rw [decide_eq_false h5, Bool.false_and]
theorem isVec5_bad {ws : List Int} {j : Nat} (hj : j < ws.length) (hb : ws.getD j 0 < -5000 ∨ 5000 < ws.getD j 0) : isVec5 ws = false := by
  cases h : isVec5 ws
  · rfl
  · have := (isVec5_yes h).2 j hj
    omega
/-- The first number that is none. -/
theorem vec5_bad {ws : List Int} (h : ¬ ∀ k, k < ws.length → -5000 ≤ ws.getD k 0 ∧ ws.getD k 0 ≤ 5000) : ∃ j, j < ws.length ∧ (ws.getD j 0 < -5000 ∨ 5000 < ws.getD j 0) ∧ ∀ k, k < j → -5000 ≤ ws.getD k 0 ∧ ws.getD k 0 ≤ 5000 := by
  have key : ∀ c, (∀ k, k < c → -5000 ≤ ws.getD k 0 ∧ ws.getD k 0 ≤ 5000) ∨ ∃ j, j < c ∧ (ws.getD j 0 < -5000 ∨ 5000 < ws.getD j 0) ∧ ∀ k, k < j → -5000 ≤ ws.getD k 0 ∧ ws.getD k 0 ≤ 5000 := by
    intro c
    induction c with
    | zero => exact .inl fun k hk => absurd hk (by omega)
    | succ c ih =>
      rcases ih with h1 | ⟨j, hj, hb, hv⟩
      · by_cases hc : -5000 ≤ ws.getD c 0 ∧ ws.getD c 0 ≤ 5000
        · exact .inl fun k hk => by
            by_cases e : k = c
            · subst e; exact hc
            · exact h1 k (by omega)
        · exact .inr ⟨c, by omega, by omega, h1⟩
      · exact .inr ⟨j, by omega, hb, hv⟩
  rcases key ws.length with h1 | h1
  · exact absurd h1 h
  · exact h1
theorem weigh5_bd {ws : List Int} (hv : ∀ k, k < ws.length → -5000 ≤ ws.getD k 0 ∧ ws.getD k 0 ≤ 5000) (s : Nat) : ∀ i, i ≤ ws.length → -5000 * (i : Int) ≤ weigh ws s i ∧ weigh ws s i ≤ 5000 * (i : Int)
  | 0, _ => by simp [weigh]
  | i + 1, hi => by
    have h1 := weigh5_bd hv s i (by omega)
    have h2 := hv i (by omega)
    unfold weigh
    split <;> omega

/-- No set below s weighs more than its value. -/
def belowTo (xs ws : List Int) : Nat → Bool
  | 0 => true
  | s + 1 => belowTo xs ws s && decide (weigh ws s ws.length ≤ xs.getD s 0)
theorem below_at {xs ws : List Int} : ∀ m, belowTo xs ws m = true ↔ ∀ s, s < m → weigh ws s ws.length ≤ xs.getD s 0
  | 0 => by simp [belowTo]
  | m + 1 => by
    unfold belowTo
    rw [Bool.and_eq_true, decide_eq_true_eq, below_at m]
    constructor
    · rintro ⟨h1, h2⟩ s hs
      by_cases e : s = m
      · subst e; exact h2
      · exact h1 s (by omega)
    · exact fun h => ⟨fun s hs => h s (by omega), h m (by omega)⟩
theorem below_no {xs ws : List Int} {m s : Nat} (hs : s < m) (h : xs.getD s 0 < weigh ws s ws.length) : belowTo xs ws m = false := by
  cases hb : belowTo xs ws m
  · rfl
  · have := (below_at m).1 hb s hs
    omega
def isBelow (n : Int) (xs ws : List Int) : Bool := isGround n xs && (decide ((ws.length : Int) = n) && (isVec5 ws && belowTo xs ws xs.length))
theorem isBelow_yes {n : Int} {xs ws : List Int} (h : isBelow n xs ws = true) : isGround n xs = true ∧ (ws.length : Int) = n ∧ isVec5 ws = true ∧ belowTo xs ws xs.length = true := by
  unfold isBelow at h
  simpa using h
theorem ground_fn {n : Int} {xs : List Int} (h : isGround n xs = true) : isFn n xs = true := by
  unfold isGround at h
  rw [Bool.and_eq_true] at h
  exact h.1
def isBase (n : Int) (xs ws : List Int) : Bool := isBelow n xs ws && decide (weigh ws (xs.length - 1) ws.length = xs.getD (xs.length - 1) 0)
/-- The tight sets below m. -/
def tightTo (xs ws : List Int) : Nat → List Int
  | 0 => []
  | s + 1 => if weigh ws s ws.length = xs.getD s 0 then tightTo xs ws s ++ [(s : Int)] else tightTo xs ws s
def tightSets (n : Int) (xs ws : List Int) : List Int × Bool := if isBelow n xs ws = true then (tightTo xs ws xs.length, true) else ([], false)
theorem tightTo_len (xs ws : List Int) : ∀ m, (tightTo xs ws m).length ≤ m
  | 0 => Nat.le_refl _
  | m + 1 => by
    have := tightTo_len xs ws m
    unfold tightTo
    split
    · rw [List.length_append]; simp; omega
    · omega
/-- The least difference of value and weight of the sets below m that p takes. -/
def capTo (xs ws : List Int) (p : Nat → Bool) : Nat → Int
  | 0 => 100000
  | s + 1 => if p s = true then min (capTo xs ws p s) (xs.getD s 0 - weigh ws s ws.length) else capTo xs ws p s
def capOf (n : Int) (xs ws : List Int) (e : Int) : Int × Bool := if isBelow n xs ws = true ∧ 0 ≤ e ∧ e < n then (capTo xs ws (fun s => s.testBit e.toNat) xs.length, true) else (0, false)
def exchOf (n : Int) (xs ws : List Int) (e d : Int) : Int × Bool := if isBelow n xs ws = true ∧ (0 ≤ e ∧ e < n) ∧ (0 ≤ d ∧ d < n) ∧ e ≠ d then (capTo xs ws (fun s => s.testBit e.toNat && !s.testBit d.toNat) xs.length, true) else (0, false)
theorem capTo_bd {xs ws : List Int} {p : Nat → Bool} (hv : ∀ k, k < xs.length → -1000 ≤ xs.getD k 0 ∧ xs.getD k 0 ≤ 1000) (hw : ∀ s, -25000 ≤ weigh ws s ws.length ∧ weigh ws s ws.length ≤ 25000) : ∀ m, m ≤ xs.length → -26000 ≤ capTo xs ws p m ∧ capTo xs ws p m ≤ 100000
  | 0, _ => by simp [capTo]
  | m + 1, h => by
    have ih := capTo_bd (p := p) hv hw m (by omega)
    have h1 := hv m (by omega)
    have h2 := hw m
    unfold capTo
    split <;> omega
theorem vec5_weigh {ws : List Int} (h : isVec5 ws = true) (s : Nat) : -25000 ≤ weigh ws s ws.length ∧ weigh ws s ws.length ≤ 25000 := by
  obtain ⟨h5, hv⟩ := isVec5_yes h
  have := weigh5_bd hv s ws.length (Nat.le_refl _)
  omega
-- orders and corners
def seenTo (p : List Int) : Nat → Nat
  | 0 => 0
  | i + 1 => seenTo p i ||| 2 ^ (p.getD i 0).toNat
def permTo (n : Int) (p : List Int) : Nat → Bool
  | 0 => true
  | i + 1 => permTo n p i && (decide (0 ≤ p.getD i 0 ∧ p.getD i 0 ≤ n - 1) && !(seenTo p i).testBit (p.getD i 0).toNat)
def isPerm (n : Int) (p : List Int) : Bool := permTo n p p.length && decide ((p.length : Int) = n)
theorem perm_no {n : Int} {p : List Int} {j : Nat} (hb : ¬ (0 ≤ p.getD j 0 ∧ p.getD j 0 ≤ n - 1) ∨ (seenTo p j).testBit (p.getD j 0).toNat = true) : ∀ m, j < m → permTo n p m = false
  | 0, h => absurd h (by omega)
  | m + 1, h => by
    unfold permTo
    by_cases e : j = m
    · subst e
      rcases hb with hb | hb
      · rw [decide_eq_false hb]; simp
      · rw [hb]; simp
    · rw [perm_no hb m (by omega), Bool.false_and]
theorem perm_at {n : Int} {p : List Int} : ∀ m, permTo n p m = true → ∀ i, i < m → (0 ≤ p.getD i 0 ∧ p.getD i 0 ≤ n - 1) ∧ (seenTo p i).testBit (p.getD i 0).toNat = false
  | 0, _, i, h => absurd h (by omega)
  | m + 1, hp, i, h => by
    unfold permTo at hp
    simp only [Bool.and_eq_true, decide_eq_true_eq, Bool.not_eq_true'] at hp
    by_cases e : i = m
    · subst e; exact hp.2
    · exact perm_at m hp.1 i (by omega)
theorem seen_lt {N : Nat} {p : List Int} : ∀ m, (∀ i, i < m → 0 ≤ p.getD i 0 ∧ p.getD i 0 ≤ (N : Int) - 1) → seenTo p m < 2 ^ N
  | 0, _ => Nat.two_pow_pos N
  | m + 1, h => by
    have h1 := h m (by omega)
    exact or_lt (seen_lt m fun i hi => h i (by omega)) (by omega)
def cornerTo (xs : List Int) (n : Nat) (p : List Int) : Nat → List Int
  | 0 => List.replicate n 0
  | i + 1 => (cornerTo xs n p i).set (p.getD i 0).toNat (xs.getD (seenTo p (i + 1)) 0 - xs.getD (seenTo p i) 0)
theorem cornerTo_len (xs : List Int) (n : Nat) (p : List Int) : ∀ m, (cornerTo xs n p m).length = n
  | 0 => by simp [cornerTo]
  | m + 1 => by unfold cornerTo; rw [List.length_set]; exact cornerTo_len xs n p m
def cornerOf (n : Int) (xs p : List Int) : List Int × Bool := if isGround n xs = true ∧ isPerm n p = true then (cornerTo xs n.toNat p p.length, true) else ([], false)

end Go.Proofs.YtffbiflgmlabaaaGreatDoor.M

namespace Go.Proofs.YtffbiflgmlabaaaGreatDoor.M
set_option linter.unusedVariables false
set_option linter.unusedSimpArgs false

/-- A sum of k numbers. -/
def sm (f : Nat → Int) : Nat → Int
  | 0 => 0
  | k + 1 => sm f k + f k
theorem sm_congr {f g : Nat → Int} : ∀ k, (∀ i, i < k → f i = g i) → sm f k = sm g k
  | 0, _ => rfl
  | k + 1, h => by rw [sm, sm, sm_congr k fun i hi => h i (by omega), h k (by omega)]
theorem sm_le {f g : Nat → Int} : ∀ k, (∀ i, i < k → f i ≤ g i) → sm f k ≤ sm g k
  | 0, _ => Int.le_refl _
  | k + 1, h => by
    have := sm_le k fun i hi => h i (by omega)
    have := h k (by omega)
    unfold sm; omega
theorem sm_bd {f : Nat → Int} {b : Int} : ∀ k, (∀ i, i < k → -b ≤ f i ∧ f i ≤ b) → ∀ j, j ≤ k → -(b * j) ≤ sm f j ∧ sm f j ≤ b * j
  | 0, _, j, hj => by
    obtain rfl : j = 0 := by omega
    simp [sm]
  | k + 1, h, j, hj => by
    by_cases e : j = k + 1
    · subst e
      have h1 := sm_bd k (fun i hi => h i (by omega)) k (Nat.le_refl _)
      have h2 := h k (by omega)
      unfold sm
      rw [Int.natCast_add, Int.natCast_one, Int.mul_add, Int.mul_one]
      omega
    · exact sm_bd k (fun i hi => h i (by omega)) j (by omega)
theorem sm_add (f g : Nat → Int) : ∀ k, sm (fun i => f i + g i) k = sm f k + sm g k
  | 0 => rfl
  | k + 1 => by rw [sm, sm, sm, sm_add f g k]; omega
theorem sm_mul (a : Int) (f : Nat → Int) : ∀ k, sm (fun i => a * f i) k = a * sm f k
  | 0 => by simp [sm]
  | k + 1 => by rw [sm, sm, sm_mul a f k, Int.mul_add]
theorem sm_zero : ∀ k, sm (fun _ => 0) k = 0
  | 0 => rfl
  | k + 1 => by rw [sm, sm_zero k]; rfl
theorem sm_swap (f : Nat → Nat → Int) (b : Nat) : ∀ a, sm (fun i => sm (f i) b) a = sm (fun t => sm (fun i => f i t) a) b
  | 0 => (sm_zero b).symm
  | a + 1 => by
    rw [sm, sm_swap f b a, ← sm_add]
    rfl
/-- A number as a sum of its levels. -/
theorem sm_lev (x : Int) (M : Nat) (h : -(M : Int) ≤ x) : ∀ c, sm (fun t => if (t : Int) + 1 - M ≤ x then 1 else 0) c = min (c : Int) (x + M)
  | 0 => by rw [sm]; omega
  | c + 1 => by
    rw [sm, sm_lev x M h c]
    split <;> omega
theorem sm_levD (x d : Int) (M : Nat) (h1 : -(M : Int) ≤ x) (h2 : x ≤ M) : x * d = -(M : Int) * d + sm (fun t => if (t : Int) + 1 - M ≤ x then d else 0) (2 * M) := by
  have e := sm_lev x M h1 (2 * M)
  have e2 : sm (fun t => if (t : Int) + 1 - M ≤ x then d else 0) (2 * M) = d * sm (fun t => if (t : Int) + 1 - M ≤ x then 1 else 0) (2 * M) := by
    rw [← sm_mul]
    refine sm_congr _ fun i _ => ?_
    split <;> simp
  rw [e2, e, show min ((2 * M : Nat) : Int) (x + M) = x + M by omega, Int.mul_add, Int.neg_mul, Int.mul_comm d x, Int.mul_comm d]
  omega

theorem mul_bd2 {a b : Int} (h1 : -1000 ≤ a) (h2 : a ≤ 1000) (h3 : -2000 ≤ b) (h4 : b ≤ 2000) : -2000000 ≤ a * b ∧ a * b ≤ 2000000 := by
  have e1 : 0 ≤ (1000 + a) * (2000 + b) := Int.mul_nonneg (by omega) (by omega)
  have e2 : 0 ≤ (1000 - a) * (2000 - b) := Int.mul_nonneg (by omega) (by omega)
  have e3 : 0 ≤ (1000 + a) * (2000 - b) := Int.mul_nonneg (by omega) (by omega)
  have e4 : 0 ≤ (1000 - a) * (2000 + b) := Int.mul_nonneg (by omega) (by omega)
  simp only [Int.add_mul, Int.mul_add, Int.sub_mul, Int.mul_sub] at e1 e2 e3 e4
  constructor <;> omega
-- an order, and the sets of its first elements
def pre (o : Nat → Nat) : Nat → Nat
  | 0 => 0
  | i + 1 => pre o i ||| 2 ^ o i
def dl (xs : List Int) (o : Nat → Nat) (i : Nat) : Int := xs.getD (pre o (i + 1)) 0 - xs.getD (pre o i) 0
/-- The sum of the numbers times what the elements add. -/
def ax (xs : List Int) (o : Nat → Nat) (w : Nat → Int) (m : Nat) : Int := sm (fun i => w (o i) * dl xs o i) m
/-- Of the first elements, those whose numbers are at least T. -/
def lv (w : Nat → Int) (T : Int) (o : Nat → Nat) : Nat → Nat
  | 0 => 0
  | i + 1 => if T ≤ w (o i) then lv w T o i ||| 2 ^ o i else lv w T o i
def bx (xs : List Int) (o : Nat → Nat) (w : Nat → Int) (T : Int) (m : Nat) : Int := sm (fun i => if T ≤ w (o i) then dl xs o i else 0) m
structure Pm (n : Nat) (o : Nat → Nat) : Prop where
  lt : ∀ i, i < n → o i < n
  inj : ∀ i k, i < k → k < n → o i ≠ o k
  onto : ∀ j, j < n → ∃ i, i < n ∧ o i = j
theorem bit2 (e j : Nat) : (2 ^ e).testBit j = decide (e = j) := Nat.testBit_two_pow
theorem pre_bit (o : Nat → Nat) (j : Nat) : ∀ m, (pre o m).testBit j = true ↔ ∃ i, i < m ∧ o i = j
  | 0 => by simp [pre]
  | m + 1 => by
    rw [pre, Nat.testBit_or, Bool.or_eq_true, pre_bit o j m, bit2, decide_eq_true_eq]
    constructor
    · rintro (⟨i, hi, e⟩ | e)
      · exact ⟨i, by omega, e⟩
      · exact ⟨m, by omega, e⟩
    · rintro ⟨i, hi, e⟩
      by_cases h : i = m
      · subst h; exact .inr e
      · exact .inl ⟨i, by omega, e⟩
theorem lv_bit (w : Nat → Int) (T : Int) (o : Nat → Nat) (j : Nat) : ∀ m, (lv w T o m).testBit j = true ↔ ∃ i, i < m ∧ o i = j ∧ T ≤ w j
  | 0 => by simp [lv]
  | m + 1 => by
    rw [lv]
    split
    · rename_i h
      rw [Nat.testBit_or, Bool.or_eq_true, lv_bit w T o j m, bit2, decide_eq_true_eq]
      constructor
      · rintro (⟨i, hi, e⟩ | e)
        · exact ⟨i, by omega, e⟩
        · exact ⟨m, by omega, e, e ▸ h⟩
      · rintro ⟨i, hi, e⟩
        by_cases h : i = m
        · subst h; exact .inr e.1
        · exact .inl ⟨i, by omega, e⟩
    · rename_i h
      rw [lv_bit w T o j m]
      constructor
      · rintro ⟨i, hi, e⟩
        exact ⟨i, by omega, e⟩
      · rintro ⟨i, hi, e⟩
        by_cases hm : i = m
        · subst hm; exact absurd (e.1 ▸ e.2) h
        · exact ⟨i, by omega, e⟩
theorem pre_lt {n : Nat} {o : Nat → Nat} : ∀ m, (∀ i, i < m → o i < n) → pre o m < 2 ^ n
  | 0, _ => Nat.two_pow_pos n
  | m + 1, h => Nat.or_lt_two_pow (pre_lt m fun i hi => h i (by omega)) (Nat.pow_lt_pow_right (by decide) (h m (by omega)))
theorem lv_lt {n : Nat} {w : Nat → Int} {T : Int} {o : Nat → Nat} : ∀ m, (∀ i, i < m → o i < n) → lv w T o m < 2 ^ n
  | 0, _ => Nat.two_pow_pos n
  | m + 1, h => by
    rw [lv]
    split
    · exact Nat.or_lt_two_pow (lv_lt m fun i hi => h i (by omega)) (Nat.pow_lt_pow_right (by decide) (h m (by omega)))
    · exact lv_lt m fun i hi => h i (by omega)
theorem bool_iff {a b : Bool} (h : a = true ↔ b = true) : a = b := by
  cases a <;> cases b <;> simp_all
theorem lv_pre (w : Nat → Int) (T : Int) (o : Nat → Nat) (m : Nat) : lv w T o m ||| pre o m = pre o m := by
  apply Nat.eq_of_testBit_eq
  intro j
  apply bool_iff
  rw [Nat.testBit_or, Bool.or_eq_true, lv_bit, pre_bit]
  constructor
  · rintro (⟨i, hi, e, _⟩ | h)
    · exact ⟨i, hi, e⟩
    · exact h
  · exact .inr
theorem lv_all (w : Nat → Int) (T : Int) (o : Nat → Nat) : ∀ m, (∀ i, i < m → T ≤ w (o i)) → lv w T o m = pre o m
  | 0, _ => rfl
  | m + 1, h => by rw [lv, if_pos (h m (by omega)), lv_all w T o m fun i hi => h i (by omega), pre]
/-- The levels of a vector do not turn on the order. -/
theorem lv_set {n : Nat} {o : Nat → Nat} (p : Pm n o) (w : Nat → Int) (T : Int) (j : Nat) : (lv w T o n).testBit j = (decide (j < n) && decide (T ≤ w j)) := by
  apply bool_iff
  rw [lv_bit, Bool.and_eq_true, decide_eq_true_eq, decide_eq_true_eq]
  constructor
  · rintro ⟨i, hi, e, h⟩
    exact ⟨e ▸ p.lt i hi, h⟩
  · rintro ⟨hj, h⟩
    obtain ⟨i, hi, e⟩ := p.onto j hj
    exact ⟨i, hi, e, h⟩
theorem lv_eq {n : Nat} {o o' : Nat → Nat} (p : Pm n o) (q : Pm n o') (w : Nat → Int) (T : Int) : lv w T o n = lv w T o' n := by
  apply Nat.eq_of_testBit_eq
  intro j
  rw [lv_set p, lv_set q]
theorem pre_full {n : Nat} {o : Nat → Nat} (p : Pm n o) : pre o n = 2 ^ n - 1 := by
  apply Nat.eq_of_testBit_eq
  intro j
  apply bool_iff
  rw [pre_bit, Nat.testBit_two_pow_sub_one, decide_eq_true_eq]
  constructor
  · rintro ⟨i, hi, e⟩; exact e ▸ p.lt i hi
  · exact p.onto j
theorem dl_sm (xs : List Int) (o : Nat → Nat) : ∀ m, sm (dl xs o) m = xs.getD (pre o m) 0 - xs.getD 0 0
  | 0 => by rw [sm, pre]; omega
  | m + 1 => by rw [sm, dl_sm xs o m, dl]; omega
/-- The sum, by levels. -/
theorem ax_lev (xs : List Int) (o : Nat → Nat) (w : Nat → Int) (M m : Nat) (h : ∀ i, i < m → -(M : Int) ≤ w (o i) ∧ w (o i) ≤ M) :
    ax xs o w m = -(M : Int) * (xs.getD (pre o m) 0 - xs.getD 0 0) + sm (fun t => bx xs o w ((t : Int) + 1 - M) m) (2 * M) := by
  unfold ax
  rw [sm_congr m fun i hi => sm_levD (w (o i)) (dl xs o i) M (h i hi).1 (h i hi).2, sm_add, sm_mul, dl_sm, sm_swap]
  rfl
theorem ax_levT (xs : List Int) (o : Nat → Nat) (w : Nat → Int) (m : Nat) (h : ∀ i, i < m → -1000 ≤ w (o i) ∧ w (o i) ≤ 1000) :
    ax xs o w m = -1000 * (xs.getD (pre o m) 0 - xs.getD 0 0) + sm (fun t => bx xs o w ((t : Int) + 1 - 1000) m) 2000 := ax_lev xs o w 1000 m h
/-- A level has at least the value that its elements add in an order. -/
theorem bx_le {n : Nat} {xs : List Int} (s : Sb n xs) {o : Nat → Nat} (p : Pm n o) (w : Nat → Int) (T : Int) : ∀ m, m ≤ n → bx xs o w T m ≤ xs.getD (lv w T o m) 0 - xs.getD 0 0
  | 0, _ => by unfold bx; rw [sm, lv]; omega
  | m + 1, hm => by
    have ih := bx_le s p w T m (by omega)
    unfold bx at ih ⊢
    rw [sm, lv]
    split
    · have hnot : (pre o m).testBit (o m) = false := by
        cases h : (pre o m).testBit (o m)
        · rfl
        · obtain ⟨i, hi, e⟩ := (pre_bit o (o m) m).1 h
          exact absurd e (p.inj i m hi (by omega))
      have g := s.gain (S := lv w T o m) (T := pre o m) (e := o m) (lv_lt m fun i hi => p.lt i (by omega)) (pre_lt m fun i hi => p.lt i (by omega)) (lv_pre w T o m) (p.lt m (by omega)) hnot
      have e : dl xs o m = xs.getD (pre o m ||| 2 ^ o m) 0 - xs.getD (pre o m) 0 := rfl
      omega
    · omega
/-- In a descending order the first ones are the levels. -/
theorem bx_eq {n : Nat} {xs : List Int} {o : Nat → Nat} (w : Nat → Int) (hd : ∀ i k, i < k → k < n → w (o k) ≤ w (o i)) (T : Int) : ∀ m, m ≤ n → bx xs o w T m = xs.getD (lv w T o m) 0 - xs.getD 0 0
  | 0, _ => by unfold bx; rw [sm, lv]; omega
  | m + 1, hm => by
    have ih := bx_eq w hd T m (by omega) (xs := xs)
    unfold bx at ih ⊢
    rw [sm, lv]
    split
    · rename_i h
      have e1 : lv w T o m = pre o m := lv_all w T o m fun i hi => Int.le_trans h (hd i m hi (by omega))
      rw [e1] at ih ⊢
      have e : dl xs o m = xs.getD (pre o m ||| 2 ^ o m) 0 - xs.getD (pre o m) 0 := rfl
      omega
    · omega

-- vectors
def isVec (ws : List Int) : Bool := decide (ws.length ≤ 5) && ws.all fun x => decide (-1000 ≤ x) && decide (x ≤ 1000)
theorem isVec_yes {ws : List Int} (h : isVec ws = true) : ws.length ≤ 5 ∧ ∀ k, k < ws.length → -1000 ≤ ws.getD k 0 ∧ ws.getD k 0 ≤ 1000 := by
  simp only [isVec, Bool.and_eq_true, decide_eq_true_eq, List.all_eq_true] at h
  refine ⟨h.1, fun k hk => ?_⟩
  have := h.2 ws[k] (List.getElem_mem hk)
  simpa [hk] using this
theorem isVec_mk {ws : List Int} (h1 : ws.length ≤ 5) (h : ∀ k, k < ws.length → -1000 ≤ ws.getD k 0 ∧ ws.getD k 0 ≤ 1000) : isVec ws = true := by
  simp only [isVec, Bool.and_eq_true, decide_eq_true_eq, List.all_eq_true]
  refine ⟨h1, fun x hx => ?_⟩
  obtain ⟨k, hk, rfl⟩ := List.mem_iff_getElem.1 hx
  have := h k hk
  simpa [hk] using this
theorem isVec_good {ws : List Int} (h : ∀ k, k < ws.length → -1000 ≤ ws.getD k 0 ∧ ws.getD k 0 ≤ 1000) : isVec ws = decide (ws.length ≤ 5) := by
  by_cases h5 : ws.length ≤ 5
  · rw [isVec_mk h5 h, decide_eq_true h5]
  · rw [decide_eq_false h5]
    unfold isVec
    rw [decide_eq_false h5, Bool.false_and]
theorem isVec_bad {ws : List Int} {j : Nat} (hj : j < ws.length) (hb : ws.getD j 0 < -1000 ∨ 1000 < ws.getD j 0) : isVec ws = false := by
  cases h : isVec ws
  · rfl
  · have := (isVec_yes h).2 j hj
    omega
/-- The first number that is none. -/
theorem vec_bad {ws : List Int} (h : ¬ ∀ k, k < ws.length → -1000 ≤ ws.getD k 0 ∧ ws.getD k 0 ≤ 1000) : ∃ j, j < ws.length ∧ (ws.getD j 0 < -1000 ∨ 1000 < ws.getD j 0) ∧ ∀ k, k < j → -1000 ≤ ws.getD k 0 ∧ ws.getD k 0 ≤ 1000 := by
  have key : ∀ c, (∀ k, k < c → -1000 ≤ ws.getD k 0 ∧ ws.getD k 0 ≤ 1000) ∨ ∃ j, j < c ∧ (ws.getD j 0 < -1000 ∨ 1000 < ws.getD j 0) ∧ ∀ k, k < j → -1000 ≤ ws.getD k 0 ∧ ws.getD k 0 ≤ 1000 := by
    intro c
    induction c with
    | zero => exact .inl fun k hk => absurd hk (by omega)
    | succ c ih =>
      rcases ih with h1 | ⟨j, hj, hb, hv⟩
      · by_cases hc : -1000 ≤ ws.getD c 0 ∧ ws.getD c 0 ≤ 1000
        · exact .inl fun k hk => by
            by_cases e : k = c
            · subst e; exact hc
            · exact h1 k (by omega)
        · exact .inr ⟨c, by omega, by omega, h1⟩
      · exact .inr ⟨j, by omega, hb, hv⟩
  rcases key ws.length with h1 | h1
  · exact absurd h1 h
  · exact h1
/-- Where a number belongs: behind the last one that is not less. -/
def place (ws : List Int) (v : Int) (out : List Nat) : Nat → Nat
  | 0 => 0
  | k + 1 => if ws.getD (out.getD k 0) 0 < v then place ws v out k else k + 1
/-- The first i elements by descending numbers. -/
def ordN (ws : List Int) : Nat → List Nat
  | 0 => []
  | i + 1 => (ordN ws i).take (place ws (ws.getD i 0) (ordN ws i) (ordN ws i).length) ++ i :: (ordN ws i).drop (place ws (ws.getD i 0) (ordN ws i) (ordN ws i).length)
def nats (l : List Nat) : List Int := l.map fun (k : Nat) => (k : Int)
def orderFor (ws : List Int) : List Int × Bool := if isVec ws = true then (nats (ordN ws ws.length), true) else ([], false)
theorem getD_at {α : Type} (l : List α) (d : α) {i : Nat} (h : i < l.length) : l.getD i d = l[i] := by simp [h]
theorem ordN_len (ws : List Int) : ∀ i, (ordN ws i).length = i
  | 0 => rfl
  | i + 1 => by
    have e : ∀ (l : List Nat) k, (l.take k ++ i :: l.drop k).length = l.length + 1 := fun l k => by simp; omega
    rw [ordN, e, ordN_len ws i]
theorem ordN_perm (ws : List Int) : ∀ i, (ordN ws i).Perm (List.range i)
  | 0 => List.Perm.refl _
  | i + 1 => by
    rw [ordN, List.range_succ]
    refine List.perm_middle.trans ?_
    rw [List.take_append_drop]
    exact ((ordN_perm ws i).cons i).trans (List.perm_append_singleton i (List.range i)).symm
theorem place_is (ws : List Int) (v : Int) (out : List Nat) : ∀ c, place ws v out c ≤ c ∧ (∀ q, place ws v out c ≤ q → q < c → ws.getD (out.getD q 0) 0 < v) ∧ (0 < place ws v out c → v ≤ ws.getD (out.getD (place ws v out c - 1) 0) 0)
  | 0 => ⟨Nat.le_refl _, fun q _ h => absurd h (by omega), fun h => absurd h (Nat.lt_irrefl 0)⟩
  | c + 1 => by
    obtain ⟨h1, h2, h3⟩ := place_is ws v out c
    unfold place
    split
    · rename_i h
      refine ⟨by omega, fun q hq hc => ?_, h3⟩
      by_cases e : q = c
      · subst e; exact h
      · exact h2 q hq (by omega)
    · rename_i h
      refine ⟨Nat.le_refl _, fun q hq hc => absurd hc (by omega), fun _ => ?_⟩
      rw [Nat.add_sub_cancel]
      omega
theorem ordN_desc (ws : List Int) : ∀ i, (ordN ws i).Pairwise fun a b => ws.getD b 0 ≤ ws.getD a 0
  | 0 => List.Pairwise.nil
  | i + 1 => by
    have ih := ordN_desc ws i
    obtain ⟨p1, p2, p3⟩ := place_is ws (ws.getD i 0) (ordN ws i) (ordN ws i).length
    rw [ordN]
    generalize place ws (ws.getD i 0) (ordN ws i) (ordN ws i).length = k at p1 p2 p3 ⊢
    generalize ordN ws i = l at ih p1 p2 p3 ⊢
    have hsplit := ih
    rw [← List.take_append_drop k l, List.pairwise_append] at hsplit
    obtain ⟨s1, s2, s3⟩ := hsplit
    rw [List.pairwise_append, List.pairwise_cons]
    have low : ∀ b, b ∈ l.drop k → ws.getD b 0 ≤ ws.getD i 0 := by
      intro b hb
      obtain ⟨q, hq, rfl⟩ := List.mem_iff_getElem.1 hb
      rw [List.length_drop] at hq
      have := p2 (k + q) (by omega) (by omega)
      rw [List.getElem_drop]
      rw [getD_at _ _ (show k + q < l.length by omega)] at this
      omega
    have high : ∀ a, a ∈ l.take k → ws.getD i 0 ≤ ws.getD a 0 := by
      intro a ha
      obtain ⟨q, hq, rfl⟩ := List.mem_iff_getElem.1 ha
      rw [List.length_take] at hq
      have h3 := p3 (by omega)
      rw [getD_at _ _ (show k - 1 < l.length by omega)] at h3
      rw [List.getElem_take]
      by_cases e : q = k - 1
      · subst e; exact h3
      · exact Int.le_trans h3 (List.pairwise_iff_getElem.1 ih q (k - 1) (by omega) (by omega) (by omega))
    refine ⟨s1, ⟨low, s2⟩, fun a ha b hb => ?_⟩
    rcases List.mem_cons.1 hb with rfl | hb
    · exact high a ha
    · exact s3 a ha b hb
theorem nats_len (l : List Nat) : (nats l).length = l.length := by simp [nats]
theorem nats_at {l : List Nat} {k : Nat} (hk : k < l.length) : (nats l).getD k 0 = (l.getD k 0 : Nat) := by simp [nats, hk]
theorem nats_split (os : List Nat) (k j : Nat) : nats (os.take k ++ j :: os.drop k) = (nats os).take k ++ [(j : Int)] ++ (nats os).drop k := by simp [nats, List.map_take, List.map_drop]
theorem ordN_lt (ws : List Int) {i k : Nat} (hk : k < i) : (ordN ws i).getD k 0 < i := by
  have hl := ordN_len ws i
  rw [getD_at _ _ (by omega)]
  exact List.mem_range.1 ((ordN_perm ws i).mem_iff.1 (List.getElem_mem (by omega)))
/-- The order, as a function. -/
def ordF (ws : List Int) (i : Nat) : Nat := (ordN ws ws.length).getD i 0
theorem ordF_pm (ws : List Int) : Pm ws.length (ordF ws) := by
  have hl := ordN_len ws ws.length
  have hp := ordN_perm ws ws.length
  have hn : (ordN ws ws.length).Nodup := hp.nodup_iff.2 List.nodup_range
  refine ⟨fun i hi => ?_, fun i k hik hk h => ?_, fun j hj => ?_⟩
  · unfold ordF
    rw [getD_at _ _ (by omega)]
    exact List.mem_range.1 (hp.mem_iff.1 (List.getElem_mem (by omega)))
  · unfold ordF at h
    rw [getD_at _ _ (by omega), getD_at _ _ (by omega)] at h
    exact absurd h (List.pairwise_iff_getElem.1 hn i k (by omega) (by omega) hik)
  · obtain ⟨i, hi, e⟩ := List.mem_iff_getElem.1 (hp.mem_iff.2 (List.mem_range.2 hj))
    refine ⟨i, by omega, ?_⟩
    unfold ordF
    rw [getD_at _ _ hi, e]
theorem ordF_desc (ws : List Int) : ∀ i k, i < k → k < ws.length → ws.getD (ordF ws k) 0 ≤ ws.getD (ordF ws i) 0 := by
  intro i k hik hk
  have hl := ordN_len ws ws.length
  unfold ordF
  have := List.pairwise_iff_getElem.1 (ordN_desc ws ws.length) i k (by omega) (by omega) hik
  rwa [getD_at (ordN ws ws.length) 0 (by omega), getD_at (ordN ws ws.length) 0 (by omega)]

/-- The extension at a vector. -/
def extV (xs ws : List Int) : Int := xs.getD 0 0 + ax xs (ordF ws) (fun j => ws.getD j 0) ws.length
def extOk (n : Int) (xs ws : List Int) : Bool := isVec ws && (isFn n xs && decide ((ws.length : Int) = n))
def extAt (n : Int) (xs ws : List Int) : Int × Bool := if extOk n xs ws = true then (extV xs ws, true) else (0, false)
theorem extOk_yes {n : Int} {xs ws : List Int} (h : extOk n xs ws = true) : isVec ws = true ∧ isFn n xs = true ∧ (ws.length : Int) = n := by
  unfold extOk at h
  simpa using h
/-- By levels. -/
theorem ext_lev {n : Nat} {xs ws : List Int} (hl : ws.length = n) (hv : ∀ k, k < n → -1000 ≤ ws.getD k 0 ∧ ws.getD k 0 ≤ 1000) {o : Nat → Nat} (p : Pm n o) :
    extV xs ws = xs.getD 0 0 + (-1000 * (xs.getD (2 ^ n - 1) 0 - xs.getD 0 0) + sm (fun t => xs.getD (lv (fun j => ws.getD j 0) ((t : Int) + 1 - 1000) o n) 0 - xs.getD 0 0) 2000) := by
  subst hl
  have q := ordF_pm ws
  unfold extV
  rw [ax_levT xs (ordF ws) (fun j => ws.getD j 0) ws.length fun i hi => hv _ (q.lt i hi), pre_full q]
  have hs : ∀ t : Nat, bx xs (ordF ws) (fun j => ws.getD j 0) ((t : Int) + 1 - 1000) ws.length = xs.getD (lv (fun j => ws.getD j 0) ((t : Int) + 1 - 1000) o ws.length) 0 - xs.getD 0 0 := fun t => by
    rw [bx_eq (n := ws.length) _ (ordF_desc ws) _ _ (Nat.le_refl _), lv_eq q p]
  simp only [hs]
theorem ax_le {n : Nat} {xs ws : List Int} (s : Sb n xs) (hl : ws.length = n) (hv : ∀ k, k < n → -1000 ≤ ws.getD k 0 ∧ ws.getD k 0 ≤ 1000) {o : Nat → Nat} (p : Pm n o) :
    xs.getD 0 0 + ax xs o (fun j => ws.getD j 0) n ≤ extV xs ws := by
  rw [ext_lev hl hv p, ax_levT xs o (fun j => ws.getD j 0) n fun i hi => hv _ (p.lt i hi), pre_full p]
  have := sm_le (f := fun t => bx xs o (fun j => ws.getD j 0) ((t : Int) + 1 - 1000) n) (g := fun t => xs.getD (lv (fun j => ws.getD j 0) ((t : Int) + 1 - 1000) o n) 0 - xs.getD 0 0) 2000 fun t _ => bx_le s p _ _ n (Nat.le_refl _)
  exact Int.add_le_add_left (Int.add_le_add_left this _) _

def addV (xs ys : List Int) : List Int := tab xs.length fun k => xs.getD k 0 + ys.getD k 0
def minV (xs ys : List Int) : List Int := tab xs.length fun k => min (xs.getD k 0) (ys.getD k 0)
def maxV (xs ys : List Int) : List Int := tab xs.length fun k => max (xs.getD k 0) (ys.getD k 0)
def fitV (xs ys : List Int) : Bool := isVec xs && (isVec ys && decide (xs.length = ys.length))
theorem fitV_yes {xs ys : List Int} (h : fitV xs ys = true) : isVec xs = true ∧ isVec ys = true ∧ xs.length = ys.length := by
  unfold fitV at h
  simpa using h
def leastV (xs ys : List Int) : List Int × Bool := if fitV xs ys = true then (minV xs ys, true) else ([], false)
def greatV (xs ys : List Int) : List Int × Bool := if fitV xs ys = true then (maxV xs ys, true) else ([], false)
def pairV (xs ys : List Int) : Int × Bool := if fitV xs ys = true then (sm (fun k => xs.getD k 0 * ys.getD k 0) xs.length, true) else (0, false)
def indOf (n s : Int) : List Int × Bool := if 0 ≤ n ∧ n ≤ 5 ∧ isSet n s = true then (tab n.toNat fun i => if s.toNat.testBit i = true then 1 else 0, true) else ([], false)
def small (ws : List Int) : Bool := ws.all fun x => decide (-100 ≤ x) && decide (x ≤ 100)
theorem small_at {ws : List Int} (h : small ws = true) {k : Nat} (hk : k < ws.length) : -100 ≤ ws.getD k 0 ∧ ws.getD k 0 ≤ 100 := by
  simp only [small, Bool.and_eq_true, decide_eq_true_eq, List.all_eq_true] at h
  have := h ws[k] (List.getElem_mem hk)
  simpa [hk] using this
/-- The extension is convex at two vectors. -/
def convAt (n : Int) (fs xs ys : List Int) : Bool := extOk n fs xs && (extOk n fs ys && (small xs && (small ys && decide (extV fs (addV xs ys) + fs.getD 0 0 ≤ extV fs xs + extV fs ys))))

/-- Extensions of submodular functions are convex. -/
theorem ext_convex {n : Nat} {fs xs ys : List Int} (hs : isSub (n : Int) fs = true) (hx : xs.length = n) (hy : ys.length = n) (bx : ∀ k, k < n → -1000 ≤ xs.getD k 0 ∧ xs.getD k 0 ≤ 1000) (by_ : ∀ k, k < n → -1000 ≤ ys.getD k 0 ∧ ys.getD k 0 ≤ 1000) :
    extV fs (addV xs ys) + fs.getD 0 0 ≤ extV fs xs + extV fs ys := by
  have s := sb_of hs
  have hz : (addV xs ys).length = n := by unfold addV; rw [tab_length]; exact hx
  have q : Pm n (ordF (addV xs ys)) := by have := ordF_pm (addV xs ys); rwa [hz] at this
  have h1 := ax_le s hx bx q
  have h2 := ax_le s hy by_ q
  have h3 : ax fs (ordF (addV xs ys)) (fun j => (addV xs ys).getD j 0) n = ax fs (ordF (addV xs ys)) (fun j => xs.getD j 0) n + ax fs (ordF (addV xs ys)) (fun j => ys.getD j 0) n := by
    unfold ax
    rw [← sm_add]
    refine sm_congr _ fun i hi => ?_
    have : (addV xs ys).getD (ordF (addV xs ys) i) 0 = xs.getD (ordF (addV xs ys) i) 0 + ys.getD (ordF (addV xs ys) i) 0 := by
      have hlt := q.lt i hi
      generalize ordF (addV xs ys) i = j at hlt
      unfold addV
      rw [tab_at _ (by omega)]
    show (addV xs ys).getD _ 0 * _ = _
    rw [this, Int.add_mul]
  have h4 : extV fs (addV xs ys) = fs.getD 0 0 + ax fs (ordF (addV xs ys)) (fun j => (addV xs ys).getD j 0) n := by
    unfold extV; rw [hz]
  omega
theorem four_sums {a b c d k m : Int} (h : a + b ≤ c + d) : k + (m + a) + (k + (m + b)) ≤ k + (m + c) + (k + (m + d)) := by omega
/-- With least and greatest vectors even more so. -/
theorem ext_lattice {n : Nat} {fs xs ys : List Int} (hs : isSub (n : Int) fs = true) (hx : xs.length = n) (hy : ys.length = n) (bx : ∀ k, k < n → -1000 ≤ xs.getD k 0 ∧ xs.getD k 0 ≤ 1000) (by_ : ∀ k, k < n → -1000 ≤ ys.getD k 0 ∧ ys.getD k 0 ≤ 1000) :
    extV fs (minV xs ys) + extV fs (maxV xs ys) ≤ extV fs xs + extV fs ys := by
  have s := sb_of hs
  have q : Pm n (ordF xs) := by have := ordF_pm xs; rwa [hx] at this
  have emin : ∀ k, k < n → (minV xs ys).getD k 0 = min (xs.getD k 0) (ys.getD k 0) := fun k hk => by unfold minV; rw [tab_at _ (by omega)]
  have emax : ∀ k, k < n → (maxV xs ys).getD k 0 = max (xs.getD k 0) (ys.getD k 0) := fun k hk => by unfold maxV; rw [tab_at _ (by omega)]
  rw [ext_lev (ws := minV xs ys) (by unfold minV; rw [tab_length]; exact hx) (fun k hk => by rw [emin k hk]; have := bx k hk; have := by_ k hk; omega) q,
    ext_lev (ws := maxV xs ys) (by unfold maxV; rw [tab_length]; exact hx) (fun k hk => by rw [emax k hk]; have := bx k hk; have := by_ k hk; omega) q,
    ext_lev hx bx q, ext_lev hy by_ q]
  have key : ∀ T : Int, fs.getD (lv (fun j => (minV xs ys).getD j 0) T (ordF xs) n) 0 + fs.getD (lv (fun j => (maxV xs ys).getD j 0) T (ordF xs) n) 0 ≤ fs.getD (lv (fun j => xs.getD j 0) T (ordF xs) n) 0 + fs.getD (lv (fun j => ys.getD j 0) T (ordF xs) n) 0 := by
    intro T
    have e1 : lv (fun j => (minV xs ys).getD j 0) T (ordF xs) n = lv (fun j => xs.getD j 0) T (ordF xs) n &&& lv (fun j => ys.getD j 0) T (ordF xs) n := by
      apply Nat.eq_of_testBit_eq
      intro j
      rw [Nat.testBit_and, lv_set q, lv_set q, lv_set q]
      by_cases hj : j < n
      · apply bool_iff
        simp only [hj, decide_true, Bool.true_and, Bool.and_eq_true, decide_eq_true_eq, emin j hj]
        omega
      · simp [hj]
    have e2 : lv (fun j => (maxV xs ys).getD j 0) T (ordF xs) n = lv (fun j => xs.getD j 0) T (ordF xs) n ||| lv (fun j => ys.getD j 0) T (ordF xs) n := by
      apply Nat.eq_of_testBit_eq
      intro j
      rw [Nat.testBit_or, lv_set q, lv_set q, lv_set q]
      by_cases hj : j < n
      · apply bool_iff
        simp only [hj, decide_true, Bool.true_and, Bool.or_eq_true, decide_eq_true_eq, emax j hj]
        omega
      · simp [hj]
    rw [e1, e2]
    have := s.four (X := lv (fun j => xs.getD j 0) T (ordF xs) n) (Y := lv (fun j => ys.getD j 0) T (ordF xs) n) (lv_lt n q.lt) (lv_lt n q.lt)
    omega
  have hsum := sm_le (f := fun t => (fs.getD (lv (fun j => (minV xs ys).getD j 0) ((t : Int) + 1 - 1000) (ordF xs) n) 0 - fs.getD 0 0) + (fs.getD (lv (fun j => (maxV xs ys).getD j 0) ((t : Int) + 1 - 1000) (ordF xs) n) 0 - fs.getD 0 0))
    (g := fun t => (fs.getD (lv (fun j => xs.getD j 0) ((t : Int) + 1 - 1000) (ordF xs) n) 0 - fs.getD 0 0) + (fs.getD (lv (fun j => ys.getD j 0) ((t : Int) + 1 - 1000) (ordF xs) n) 0 - fs.getD 0 0)) 2000 fun t _ => by
      have := key ((t : Int) + 1 - 1000)
      show (_ - _) + (_ - _) ≤ (_ - _) + (_ - _)
      omega
  rw [sm_add, sm_add] at hsum
  exact four_sums hsum

end Go.Proofs.YtffbiflgmlabaaaGreatDoor.M

namespace Go.Proofs.YtffbiflgmlabaaaGreatDoor.M
set_option linter.unusedVariables false
set_option linter.unusedSimpArgs false

theorem extAt_two (n : Int) (fs ws : List Int) : (extAt n fs ws).2 = extOk n fs ws := by
  unfold extAt
  cases h : extOk n fs ws <;> simp
theorem ext_bd {n : Int} {fs ws : List Int} (ok : extOk n fs ws = true) : -20000000 ≤ extV fs ws ∧ extV fs ws ≤ 20000000 := by
  obtain ⟨hv, hf, hn⟩ := extOk_yes ok
  obtain ⟨-, -, hxl, hxv⟩ := isFn_yes hf
  obtain ⟨h5, hwv⟩ := isVec_yes hv
  have hpm := ordF_pm ws
  have hxp : fs.length = 2 ^ ws.length := by rw [hxl, ← hn, Int.toNat_natCast]
  have hpl : ∀ i, i ≤ ws.length → pre (ordF ws) i < fs.length := fun i hi => by rw [hxp]; exact pre_lt i fun k hk => hpm.lt k (by omega)
  have hB := sm_bd (f := fun i => ws.getD (ordF ws i) 0 * dl fs (ordF ws) i) (b := 2000000) ws.length (fun i hi => by
    have a1 := hwv _ (hpm.lt i hi)
    have a2 := hxv _ (hpl i (by omega))
    have a3 := hxv _ (hpl (i + 1) (by omega))
    exact mul_bd2 a1.1 a1.2 (by unfold dl; omega) (by unfold dl; omega)) ws.length (Nat.le_refl _)
  have h0 := hxv 0 (by rw [hxp]; exact Nat.two_pow_pos _)
  unfold extV ax
  dsimp only
  omega
theorem conv_nofit {n : Int} {fs xs ys : List Int} (hf : fitV xs ys = false) : (extAt n fs xs).2 = true → (extAt n fs ys).2 = true → False := by
  rw [extAt_two, extAt_two]
  intro h1 h2
  obtain ⟨a, -, b⟩ := extOk_yes h1
  obtain ⟨c, -, d⟩ := extOk_yes h2
  unfold fitV at hf
  rw [a, c, decide_eq_true (show xs.length = ys.length by omega)] at hf
  cases hf
theorem conv_nofit2 {n : Int} {fs xs ys : List Int} (hf : fitV xs ys = false) : convAt n fs xs ys = false := by
  have h := conv_nofit (n := n) (fs := fs) hf
  rw [extAt_two, extAt_two] at h
  unfold convAt
  cases h1 : extOk n fs xs
  · rfl
  · cases h2 : extOk n fs ys
    · rfl
    · exact (h h1 h2).elim
theorem small_mk {ws : List Int} (h : ∀ k, k < ws.length → -100 ≤ ws.getD k 0 ∧ ws.getD k 0 ≤ 100) : small ws = true := by
  simp only [small, Bool.and_eq_true, decide_eq_true_eq, List.all_eq_true]
  intro x hx
  obtain ⟨k, hk, rfl⟩ := List.mem_iff_getElem.1 hx
  have := h k hk
  simpa [hk] using this
theorem conv_big {n : Int} {fs xs ys : List Int} {j : Nat} (h1 : j < xs.length) (h2 : j < ys.length) (hb : ¬ ((-100 ≤ xs.getD j 0 ∧ xs.getD j 0 ≤ 100) ∧ (-100 ≤ ys.getD j 0 ∧ ys.getD j 0 ≤ 100))) : convAt n fs xs ys = false := by
  unfold convAt
  cases hx : small xs
  · simp
  · cases hy : small ys
    · simp
    · exact (hb ⟨small_at hx h1, small_at hy h2⟩).elim
theorem addV_len (xs ys : List Int) : (addV xs ys).length = xs.length := tab_length _ _
theorem conv_same {n : Int} {fs xs ys : List Int} (hf : fitV xs ys = true) (hs : ∀ k, k < xs.length → (-100 ≤ xs.getD k 0 ∧ xs.getD k 0 ≤ 100) ∧ (-100 ≤ ys.getD k 0 ∧ ys.getD k 0 ≤ 100)) :
    (extAt n fs ys).2 = (extAt n fs xs).2 ∧ (extAt n fs (addV xs ys)).2 = (extAt n fs xs).2 := by
  obtain ⟨h1, h2, h3⟩ := fitV_yes hf
  have h4 : isVec (addV xs ys) = true := isVec_mk (by rw [addV_len]; exact (isVec_yes h1).1) fun k hk => by
    rw [addV_len] at hk
    have := hs k hk
    unfold addV
    rw [tab_at _ hk]
    omega
  rw [extAt_two, extAt_two, extAt_two]
  unfold extOk
  rw [h1, h2, h4, addV_len, h3]
  exact ⟨rfl, rfl⟩
theorem conv_val {n : Int} {fs xs ys : List Int} (hf : fitV xs ys = true) (hs : ∀ k, k < xs.length → (-100 ≤ xs.getD k 0 ∧ xs.getD k 0 ≤ 100) ∧ (-100 ≤ ys.getD k 0 ∧ ys.getD k 0 ≤ 100)) :
    convAt n fs xs ys = ((extAt n fs xs).2 && decide ((extAt n fs (addV xs ys)).1 + fs.getD 0 0 ≤ (extAt n fs xs).1 + (extAt n fs ys).1)) := by
  obtain ⟨h1, h2, h3⟩ := fitV_yes hf
  obtain ⟨e1, e2⟩ := conv_same (n := n) (fs := fs) hf hs
  rw [extAt_two, extAt_two] at e1 e2
  have s1 : small xs = true := small_mk fun k hk => (hs k hk).1
  have s2 : small ys = true := small_mk fun k hk => (hs k (by omega)).2
  unfold convAt extAt
  rw [e1, e2, s1, s2]
  cases extOk n fs xs <;> simp
theorem extAt_bd (n : Int) (fs ws : List Int) : -20000000 ≤ (extAt n fs ws).1 ∧ (extAt n fs ws).1 ≤ 20000000 := by
  unfold extAt
  cases h : extOk n fs ws
  · simp
  · simpa using ext_bd h
theorem extAt_fn {n : Int} {fs ws : List Int} (h : (extAt n fs ws).2 = true) : isFn n fs = true := by
  rw [extAt_two] at h
  exact (extOk_yes h).2.1
theorem convex_law {n : Int} {fs us ws : List Int} (h1 : extOk n fs us = true) (h2 : extOk n fs ws = true) (hs : isSub n fs = true) (hm : ∀ k, k < us.length → (-100 ≤ us.getD k 0 ∧ us.getD k 0 ≤ 100) ∧ (-100 ≤ ws.getD k 0 ∧ ws.getD k 0 ≤ 100)) :
    ∃ u v c d, leastV us ws = (u, true) ∧ greatV us ws = (v, true) ∧ u.length ≤ 5 ∧ v.length ≤ 5 ∧ extAt n fs u = (c, true) ∧ extAt n fs v = (d, true) ∧ convAt n fs us ws = true ∧ c + d ≤ extV fs us + extV fs ws ∧ (-20000000 ≤ c ∧ c ≤ 20000000) ∧ (-20000000 ≤ d ∧ d ≤ 20000000) := by
  obtain ⟨v1, f1, l1⟩ := extOk_yes h1
  obtain ⟨v2, -, l2⟩ := extOk_yes h2
  obtain ⟨p1, p2⟩ := isVec_yes v1
  obtain ⟨q1, q2⟩ := isVec_yes v2
  have hl : us.length = ws.length := by omega
  have hf : fitV us ws = true := by unfold fitV; rw [v1, v2, decide_eq_true hl]; rfl
  have hu : (minV us ws).length = us.length := tab_length _ _
  have hv : (maxV us ws).length = us.length := tab_length _ _
  have e1 : extOk n fs (minV us ws) = true := by
    unfold extOk
    rw [f1, hu, decide_eq_true l1, isVec_mk (by omega) fun k hk => by
      rw [hu] at hk
      have := p2 k hk
      have := q2 k (by omega)
      unfold minV
      rw [tab_at _ hk]
      omega]
    rfl
  have e2 : extOk n fs (maxV us ws) = true := by
    unfold extOk
    rw [f1, hv, decide_eq_true l1, isVec_mk (by omega) fun k hk => by
      rw [hv] at hk
      have := p2 k hk
      have := q2 k (by omega)
      unfold maxV
      rw [tab_at _ hk]
      omega]
    rfl
  obtain ⟨N, rfl⟩ := Int.eq_ofNat_of_zero_le (show 0 ≤ n by omega)
  have a1 : us.length = N := by omega
  have a2 : ws.length = N := by omega
  have hlat := ext_lattice hs a1 a2 (fun k hk => p2 k (by omega)) (fun k hk => q2 k (by omega))
  have hcon := ext_convex hs a1 a2 (fun k hk => p2 k (by omega)) (fun k hk => q2 k (by omega))
  refine ⟨minV us ws, maxV us ws, extV fs (minV us ws), extV fs (maxV us ws), by unfold leastV; rw [if_pos hf], by unfold greatV; rw [if_pos hf], by omega, by omega, by unfold extAt; rw [if_pos e1], by unfold extAt; rw [if_pos e2], ?_, hlat, ext_bd e1, ext_bd e2⟩
  unfold convAt
  rw [h1, h2, small_mk fun k hk => (hm k hk).1, small_mk fun k hk => (hm k (by omega)).2, decide_eq_true hcon]
  rfl
theorem extAt_yes {n : Int} {fs ws : List Int} {a : Int} (h : extAt n fs ws = (a, true)) : extOk n fs ws = true ∧ a = extV fs ws := by
  unfold extAt at h
  split at h
  · rename_i h1
    injection h with h2 h3
    exact ⟨h1, h2.symm⟩
  · injection h with h2 h3
    cases h3

end Go.Proofs.YtffbiflgmlabaaaGreatDoor.M

namespace Go.Proofs.YtffbiflgmlabaaaGreatDoor.M
set_option linter.unusedVariables false
set_option linter.unusedSimpArgs false

theorem sm_one (j : Nat) (v : Int) : ∀ m, sm (fun e => if e = j then v else 0) m = if j < m then v else 0
  | 0 => rfl
  | m + 1 => by
    rw [sm, sm_one j v m]
    by_cases h1 : j < m
    · rw [if_pos h1, if_neg (by omega), if_pos (by omega), Int.add_zero]
    · by_cases h2 : m = j
      · rw [if_neg h1, if_pos h2, if_pos (by omega), Int.zero_add]
      · rw [if_neg h1, if_neg h2, if_neg (by omega)]; rfl
/-- What the first k elements of an order add, at their places. -/
def gain (xs : List Int) (o : Nat → Nat) (m : Nat) : Nat → List Int
  | 0 => List.replicate m 0
  | k + 1 => (gain xs o m k).set (o k) (dl xs o k)
theorem gain_len (xs : List Int) (o : Nat → Nat) (m : Nat) : ∀ k, (gain xs o m k).length = m
  | 0 => List.length_replicate
  | k + 1 => by rw [gain, List.length_set, gain_len xs o m k]
theorem set_getD (l : List Int) (j e : Nat) (v : Int) (hj : j < l.length) : (l.set j v).getD e 0 = if e = j then v else l.getD e 0 := by
  rw [List.getD_eq_getElem?_getD, List.getElem?_set]
  by_cases h : j = e
  · subst h
    rw [if_pos rfl, if_pos hj, if_pos rfl]
    rfl
  · rw [if_neg h, if_neg (fun c => h c.symm), List.getD_eq_getElem?_getD]
theorem repl_getD (m e : Nat) : (List.replicate m (0 : Int)).getD e 0 = 0 := by
  rw [List.getD_eq_getElem?_getD, List.getElem?_replicate]
  split <;> rfl
theorem gain_zero (xs : List Int) {o : Nat → Nat} {m : Nat} (ho : ∀ i, i < m → o i < m) (e : Nat) : ∀ k, k ≤ m → (∀ i, i < k → o i ≠ e) → (gain xs o m k).getD e 0 = 0
  | 0, _, _ => repl_getD m e
  | k + 1, hk, h => by
    rw [gain, set_getD _ _ _ _ (by rw [gain_len]; exact ho k (by omega)), if_neg (fun c => h k (by omega) c.symm), gain_zero xs ho e k (by omega) fun i hi => h i (by omega)]
theorem gain_sum (xs : List Int) {o : Nat → Nat} {m : Nat} (p : Pm m o) (w : Nat → Int) : ∀ k, k ≤ m → sm (fun e => w e * (gain xs o m k).getD e 0) m = ax xs o w k
  | 0, _ => by
    show _ = 0
    rw [sm_congr (g := fun _ => 0) m fun e _ => by rw [gain, repl_getD, Int.mul_zero], sm_zero]
  | k + 1, hk => by
    have e1 : ∀ e, e < m → w e * (gain xs o m (k + 1)).getD e 0 = w e * (gain xs o m k).getD e 0 + (if e = o k then w (o k) * dl xs o k else 0) := fun e he => by
      rw [gain, set_getD _ _ _ _ (by rw [gain_len]; exact p.lt k (by omega))]
      by_cases c : e = o k
      · rw [if_pos c, if_pos c, c, gain_zero xs p.lt (o k) k (by omega) fun i hi => p.inj i k hi (by omega), Int.mul_zero, Int.zero_add]
      · rw [if_neg c, if_neg c, Int.add_zero]
    rw [sm_congr m e1, sm_add, gain_sum xs p w k (by omega), sm_one, if_pos (p.lt k (by omega))]
    rfl
theorem gain_bd {xs : List Int} {o : Nat → Nat} {m : Nat} (ho : ∀ i, i < m → o i < m) (hd : ∀ i, i < m → -2000 ≤ dl xs o i ∧ dl xs o i ≤ 2000) (e : Nat) : ∀ k, k ≤ m → -2000 ≤ (gain xs o m k).getD e 0 ∧ (gain xs o m k).getD e 0 ≤ 2000
  | 0, _ => by rw [gain, repl_getD]; decide
  | k + 1, hk => by
    rw [gain, set_getD _ _ _ _ (by rw [gain_len]; exact ho k (by omega))]
    split
    · exact hd k (by omega)
    · exact gain_bd ho hd e k (by omega)

end Go.Proofs.YtffbiflgmlabaaaGreatDoor.M

namespace Go.Proofs.YtffbiflgmlabaaaGreatDoor.M
set_option linter.unusedVariables false
set_option linter.unusedSimpArgs false

theorem seen_pre {p : List Int} {o : Nat → Nat} : ∀ m, (∀ i, i < m → p.getD i 0 = (o i : Int)) → seenTo p m = pre o m
  | 0, _ => rfl
  | m + 1, h => by rw [seenTo, pre, seen_pre m fun i hi => h i (by omega), h m (by omega), Int.toNat_natCast]
theorem perm_mk {n : Nat} {p : List Int} {o : Nat → Nat} (q : Pm n o) : ∀ m, m ≤ n → (∀ i, i < m → p.getD i 0 = (o i : Int)) → permTo (n : Int) p m = true
  | 0, _, _ => rfl
  | m + 1, hm, h => by
    have hl := q.lt m (by omega)
    have hb : (pre o m).testBit (o m) = false := by
      cases hc : (pre o m).testBit (o m)
      · rfl
      · obtain ⟨i, hi, e⟩ := (pre_bit o (o m) m).1 hc
        exact absurd e (q.inj i m hi (by omega))
    rw [permTo, perm_mk q m (by omega) fun i hi => h i (by omega), seen_pre m fun i hi => h i (by omega), h m (by omega), Int.toNat_natCast, hb, decide_eq_true (by omega)]
    rfl
theorem corner_gain (xs : List Int) (n : Nat) {p : List Int} {o : Nat → Nat} : ∀ m, (∀ i, i < m → p.getD i 0 = (o i : Int)) → cornerTo xs n p m = gain xs o n m
  | 0, _ => rfl
  | m + 1, h => by
    rw [cornerTo, gain, corner_gain xs n m fun i hi => h i (by omega), seen_pre (m + 1) h, seen_pre m fun i hi => h i (by omega), h m (by omega), Int.toNat_natCast]
    rfl
theorem order_at (ws : List Int) {i : Nat} (hi : i < ws.length) : (nats (ordN ws ws.length)).getD i 0 = (ordF ws i : Int) := by
  rw [nats_at (by rw [ordN_len]; exact hi)]
  rfl
theorem order_perm (ws : List Int) : permTo (ws.length : Int) (nats (ordN ws ws.length)) ws.length = true := perm_mk (ordF_pm ws) _ (Nat.le_refl _) fun i hi => order_at ws hi
theorem order_len (ws : List Int) : (nats (ordN ws ws.length)).length = ws.length := by rw [nats_len, ordN_len]

/-- What chapter 9 asks. -/
def fit9 (n : Int) (xs ws : List Int) : Bool := isGround n xs && (isSub n xs && (isVec ws && decide ((ws.length : Int) = n)))
theorem fit9_yes {n : Int} {xs ws : List Int} (h : fit9 n xs ws = true) : isGround n xs = true ∧ isSub n xs = true ∧ isVec ws = true ∧ (ws.length : Int) = n := by
  unfold fit9 at h
  simpa using h
def bestOrder (n : Int) (xs ws : List Int) : List Int × Bool := if fit9 n xs ws = true then (nats (ordN ws ws.length), true) else ([], false)
/-- The corner that is best for a vector. -/
def bestX (xs ws : List Int) : List Int := gain xs (ordF ws) ws.length ws.length
theorem bestX_len (xs ws : List Int) : (bestX xs ws).length = ws.length := gain_len xs (ordF ws) ws.length ws.length
theorem bestX_corner (xs ws : List Int) : cornerTo xs ws.length (nats (ordN ws ws.length)) ws.length = bestX xs ws := corner_gain xs ws.length ws.length fun i hi => order_at ws hi
def bestN (xs ws : List Int) : Int := sm (fun k => ws.getD k 0 * (bestX xs ws).getD k 0) ws.length
def maxFor (n : Int) (xs ws : List Int) : Int × List Int × Bool := if fit9 n xs ws = true then (bestN xs ws, bestX xs ws, true) else (0, [], false)
def negV (ws : List Int) : List Int := tab ws.length fun k => -ws.getD k 0
theorem negV_len (ws : List Int) : (negV ws).length = ws.length := tab_length _ _
theorem negV_at (ws : List Int) {k : Nat} (hk : k < ws.length) : (negV ws).getD k 0 = -ws.getD k 0 := by unfold negV; rw [tab_at _ hk]
def minFor (n : Int) (xs ws : List Int) : Int × List Int × Bool := if fit9 n xs ws = true then (-bestN xs (negV ws), bestX xs (negV ws), true) else (0, [], false)
theorem fit9_neg {n : Int} {xs ws : List Int} (h : fit9 n xs ws = true) : fit9 n xs (negV ws) = true := by
  obtain ⟨h1, h2, h3, h4⟩ := fit9_yes h
  obtain ⟨v1, v2⟩ := isVec_yes h3
  have hv : isVec (negV ws) = true := isVec_mk (by rw [negV_len]; exact v1) fun k hk => by
    rw [negV_len] at hk
    have := v2 k hk
    rw [negV_at ws hk]
    omega
  unfold fit9
  rw [h1, h2, hv, negV_len, decide_eq_true h4]
  rfl
/-- The value of the best corner is the extension. -/
theorem best_ext {n : Int} {xs ws : List Int} (h : fit9 n xs ws = true) : bestN xs ws = extV xs ws := by
  obtain ⟨h1, -, -, -⟩ := fit9_yes h
  have h0 : xs.getD 0 0 = 0 := by
    unfold isGround at h1
    simp only [Bool.and_eq_true, decide_eq_true_eq] at h1
    exact h1.2
  unfold bestN bestX extV
  rw [gain_sum xs (ordF_pm ws) (fun k => ws.getD k 0) ws.length (Nat.le_refl _), h0, Int.zero_add]
theorem pre_of_lt {n : Nat} {xs : List Int} {o : Nat → Nat} (hx : xs.length = 2 ^ n) (hv : ∀ k, k < xs.length → -1000 ≤ xs.getD k 0 ∧ xs.getD k 0 ≤ 1000) (q : Pm n o) {i : Nat} (hi : i < n) : -2000 ≤ dl xs o i ∧ dl xs o i ≤ 2000 := by
  have a2 := hv _ (show pre o i < xs.length by rw [hx]; exact pre_lt i fun k hk => q.lt k (by omega))
  have a3 := hv _ (show pre o (i + 1) < xs.length by rw [hx]; exact pre_lt (i + 1) fun k hk => q.lt k (by omega))
  unfold dl
  omega
theorem corner_bd {n : Nat} {xs : List Int} {o : Nat → Nat} (hx : xs.length = 2 ^ n) (hv : ∀ k, k < xs.length → -1000 ≤ xs.getD k 0 ∧ xs.getD k 0 ≤ 1000) (q : Pm n o) (e : Nat) : -2000 ≤ (gain xs o n n).getD e 0 ∧ (gain xs o n n).getD e 0 ≤ 2000 :=
  gain_bd q.lt (fun i hi => pre_of_lt hx hv q hi) e n (Nat.le_refl _)
theorem fit9_len {n : Int} {xs ws : List Int} (h : fit9 n xs ws = true) : xs.length = 2 ^ ws.length ∧ ∀ k, k < xs.length → -1000 ≤ xs.getD k 0 ∧ xs.getD k 0 ≤ 1000 := by
  obtain ⟨h1, -, -, h4⟩ := fit9_yes h
  obtain ⟨-, -, hl, hv⟩ := isFn_yes (ground_fn h1)
  exact ⟨by rw [hl, ← h4, Int.toNat_natCast], hv⟩
theorem bestX_bd {n : Int} {xs ws : List Int} (h : fit9 n xs ws = true) (e : Nat) : -2000 ≤ (bestX xs ws).getD e 0 ∧ (bestX xs ws).getD e 0 ≤ 2000 := by
  obtain ⟨a, b⟩ := fit9_len h
  exact corner_bd a b (ordF_pm ws) e
theorem best_part {n : Int} {xs ws : List Int} (h : fit9 n xs ws = true) : ∀ j, j ≤ ws.length → -(2000000 * (j : Int)) ≤ sm (fun k => ws.getD k 0 * (bestX xs ws).getD k 0) j ∧ sm (fun k => ws.getD k 0 * (bestX xs ws).getD k 0) j ≤ 2000000 * (j : Int) := by
  obtain ⟨-, -, h3, -⟩ := fit9_yes h
  refine sm_bd ws.length fun i hi => ?_
  have a1 := (isVec_yes h3).2 i hi
  have a2 := bestX_bd h i
  exact mul_bd2 a1.1 a1.2 a2.1 a2.2

/-- The level sets of the first k elements of the order. -/
def levTo (ws : List Int) : Nat → List Int
  | 0 => []
  | k + 1 => if k + 1 = ws.length ∨ ws.getD (ordF ws (k + 1)) 0 < ws.getD (ordF ws k) 0 then levTo ws k ++ [(pre (ordF ws) (k + 1) : Int)] else levTo ws k
theorem levTo_len (ws : List Int) : ∀ k, (levTo ws k).length ≤ k
  | 0 => Nat.le_refl _
  | k + 1 => by
    have := levTo_len ws k
    rw [levTo]
    split
    · rw [List.length_append]
      exact Nat.add_le_add_right this 1
    · omega
theorem levTo_lt (ws : List Int) : ∀ k, k ≤ ws.length → ∀ s ∈ levTo ws k, ∃ S : Nat, s = (S : Int) ∧ S < 2 ^ ws.length
  | 0, _, s, h => by simp [levTo] at h
  | k + 1, hk, s, h => by
    rw [levTo] at h
    have hp : pre (ordF ws) (k + 1) < 2 ^ ws.length := pre_lt (k + 1) fun i hi => (ordF_pm ws).lt i (by omega)
    split at h
    · rcases List.mem_append.1 h with h | h
      · exact levTo_lt ws k (by omega) s h
      · obtain rfl : s = (pre (ordF ws) (k + 1) : Int) := by simpa using h
        exact ⟨_, rfl, hp⟩
    · exact levTo_lt ws k (by omega) s h
def levels (ws : List Int) : List Int × Bool := if isVec ws = true then (levTo ws ws.length, true) else ([], false)
/-- All of the first k sets of a list have their value as weight. -/
def tightAll (xs us ls : List Int) : Nat → Bool
  | 0 => true
  | k + 1 => tightAll xs us ls k && decide (weigh us (ls.getD k 0).toNat us.length = xs.getD (ls.getD k 0).toNat 0)
theorem tight_no {xs us ls : List Int} {j : Nat} (hb : weigh us (ls.getD j 0).toNat us.length ≠ xs.getD (ls.getD j 0).toNat 0) : ∀ m, j < m → tightAll xs us ls m = false
  | 0, h => absurd h (by omega)
  | m + 1, h => by
    rw [tightAll]
    by_cases e : j = m
    · subst e
      rw [decide_eq_false hb, Bool.and_false]
    · rw [tight_no hb m (by omega), Bool.false_and]
def isBest (n : Int) (xs ws us : List Int) : Bool := fit9 n xs ws && (isBase n xs us && tightAll xs us (levTo ws ws.length) (levTo ws ws.length).length)
theorem maxFor_le (n : Int) (xs ws : List Int) : (maxFor n xs ws).2.1.length ≤ 1048576 := by
  unfold maxFor
  split
  · rename_i h
    rw [bestX_len]
    have := (isVec_yes (fit9_yes h).2.2.1).1
    omega
  · exact Nat.zero_le _
theorem minFor_le (n : Int) (xs ws : List Int) : (minFor n xs ws).2.1.length ≤ 1048576 := by
  unfold minFor
  split
  · rename_i h
    rw [bestX_len, negV_len]
    have := (isVec_yes (fit9_yes h).2.2.1).1
    omega
  · exact Nat.zero_le _
theorem bestOrder_le (n : Int) (xs ws : List Int) : (bestOrder n xs ws).1.length ≤ 1048576 := by
  unfold bestOrder
  split
  · rename_i h
    rw [order_len]
    have := (isVec_yes (fit9_yes h).2.2.1).1
    omega
  · exact Nat.zero_le _
theorem levels_le (ws : List Int) : (levels ws).1.length ≤ 1048576 := by
  unfold levels
  split
  · rename_i h
    have := (isVec_yes h).1
    have := levTo_len ws ws.length
    show (levTo ws ws.length).length ≤ _
    omega
  · exact Nat.zero_le _

end Go.Proofs.YtffbiflgmlabaaaGreatDoor.M

namespace Go.Proofs.YtffbiflgmlabaaaGreatDoor.M
set_option linter.unusedVariables false
set_option linter.unusedSimpArgs false

def bitI (S j : Nat) : Int := if S.testBit j = true then 1 else 0
theorem weigh_sm (us : List Int) (S : Nat) : ∀ n, weigh us S n = sm (fun i => bitI S i * us.getD i 0) n
  | 0 => rfl
  | n + 1 => by
    rw [weigh, sm, weigh_sm us S n]
    unfold bitI
    split
    · rw [Int.one_mul]
    · rw [Int.zero_mul, Int.add_zero]
theorem gain_weigh (xs : List Int) {n : Nat} {o : Nat → Nat} (q : Pm n o) (S : Nat) : weigh (gain xs o n n) S n = ax xs o (bitI S) n := by
  rw [weigh_sm, gain_sum xs q (bitI S) n (Nat.le_refl _)]
theorem ax_congr (xs : List Int) (o : Nat → Nat) {w w' : Nat → Int} (m : Nat) (h : ∀ i, i < m → w (o i) = w' (o i)) : ax xs o w m = ax xs o w' m := by
  unfold ax
  refine sm_congr _ fun i hi => ?_
  rw [h i hi]
theorem sm_dl (xs : List Int) (o : Nat → Nat) : ∀ m, sm (dl xs o) m = xs.getD (pre o m) 0 - xs.getD 0 0
  | 0 => by rw [sm, pre]; omega
  | m + 1 => by rw [sm, sm_dl xs o m]; unfold dl; omega
def indV (n S : Nat) : List Int := tab n (bitI S)
theorem indV_len (n S : Nat) : (indV n S).length = n := tab_length _ _
theorem indV_at {n S j : Nat} (h : j < n) : (indV n S).getD j 0 = bitI S j := by unfold indV; rw [tab_at _ h]
theorem sm_cut (a : Int) (c : Nat) : ∀ m, sm (fun t => if t < c then a else 0) m = a * (min m c : Nat)
  | 0 => by simp [sm]
  | m + 1 => by
    rw [sm, sm_cut a c m]
    by_cases h : m < c
    · rw [if_pos h, Nat.min_eq_left (by omega), Nat.min_eq_left (by omega), Int.natCast_add, Int.natCast_one, Int.mul_add, Int.mul_one]
    · rw [if_neg h, Nat.min_eq_right (by omega), Nat.min_eq_right (by omega), Int.add_zero]
/-- The extension of a set's vector is the value of the set. -/
theorem ext_ind (xs : List Int) {n S : Nat} (hS : S < 2 ^ n) : extV xs (indV n S) = xs.getD S 0 := by
  have q : Pm n (ordF (indV n S)) := by have := ordF_pm (indV n S); rwa [indV_len] at this
  have hb : ∀ j, j < n → (indV n S).getD j 0 = bitI S j := fun j hj => indV_at hj
  have h01 : ∀ j, bitI S j = 0 ∨ bitI S j = 1 := fun j => by unfold bitI; split <;> simp
  rw [ext_lev (indV_len n S) (fun k hk => by rw [hb k hk]; rcases h01 k with h | h <;> rw [h] <;> decide) q]
  have hf : ∀ t : Nat, t < 2000 → xs.getD (lv (fun j => (indV n S).getD j 0) ((t : Int) + 1 - 1000) (ordF (indV n S)) n) 0 - xs.getD 0 0 = (if t < 1000 then xs.getD (2 ^ n - 1) 0 - xs.getD 0 0 else 0) + (if t = 1000 then xs.getD S 0 - xs.getD 0 0 else 0) := fun t _ => by
    have hl : lv (fun j => (indV n S).getD j 0) ((t : Int) + 1 - 1000) (ordF (indV n S)) n = if t < 1000 then 2 ^ n - 1 else if t = 1000 then S else 0 := by
      apply Nat.eq_of_testBit_eq
      intro j
      rw [lv_set q]
      by_cases hj : j < n
      · rw [decide_eq_true hj, Bool.true_and]
        show decide (_ ≤ (indV n S).getD j 0) = _
        rw [hb j hj]
        split
        · rw [Nat.testBit_two_pow_sub_one, decide_eq_true hj]
          rcases h01 j with h | h <;> rw [h] <;> simp <;> omega
        · split
          · rename_i h1 h2
            subst h2
            unfold bitI
            cases hc : S.testBit j <;> simp
          · rw [Nat.zero_testBit]
            rcases h01 j with h | h <;> rw [h] <;> simp <;> omega
      · rw [decide_eq_false hj, Bool.false_and]
        symm
        split
        · rw [Nat.testBit_two_pow_sub_one, decide_eq_false hj]
        · split
          · exact Nat.testBit_lt_two_pow (Nat.lt_of_lt_of_le hS (Nat.pow_le_pow_right (by decide) (by omega)))
          · exact Nat.zero_testBit j
    rw [hl]
    by_cases h1 : t < 1000
    · rw [if_pos h1, if_pos h1, if_neg (by omega)]; omega
    · rw [if_neg h1, if_neg h1]
      by_cases h2 : t = 1000
      · rw [if_pos h2, if_pos h2]; omega
      · rw [if_neg h2, if_neg h2]; omega
  rw [sm_congr 2000 hf, sm_add, sm_cut, sm_one, if_pos (by decide)]
  have : (min 2000 1000 : Nat) = 1000 := by decide
  rw [this]
  omega

theorem ground_zero {n : Int} {xs : List Int} (h : isGround n xs = true) : xs.getD 0 0 = 0 := by
  unfold isGround at h
  simp only [Bool.and_eq_true, decide_eq_true_eq] at h
  exact h.2
/-- No corner of a submodular function weighs more than a set's value. -/
theorem corner_below {n : Nat} {xs : List Int} (s : Sb n xs) {o : Nat → Nat} (q : Pm n o) (h0 : xs.getD 0 0 = 0) {S : Nat} (hS : S < 2 ^ n) : weigh (gain xs o n n) S n ≤ xs.getD S 0 := by
  have h1 := ax_le s (indV_len n S) (fun k hk => by rw [indV_at hk]; unfold bitI; split <;> decide) q
  rw [ext_ind xs hS, h0, Int.zero_add] at h1
  rw [gain_weigh xs q S, ax_congr xs o (w' := fun j => (indV n S).getD j 0) n fun i hi => by rw [indV_at (q.lt i hi)]]
  exact h1
theorem corner_full {n : Nat} (xs : List Int) {o : Nat → Nat} (q : Pm n o) (h0 : xs.getD 0 0 = 0) : weigh (gain xs o n n) (2 ^ n - 1) n = xs.getD (2 ^ n - 1) 0 := by
  rw [gain_weigh xs q]
  have : ax xs o (bitI (2 ^ n - 1)) n = sm (dl xs o) n := by
    unfold ax
    refine sm_congr _ fun i hi => ?_
    have : (2 ^ n - 1).testBit (o i) = true := by rw [Nat.testBit_two_pow_sub_one]; exact decide_eq_true (q.lt i hi)
    unfold bitI
    rw [if_pos this, Int.one_mul]
  rw [this, sm_dl, pre_full q, h0, Int.sub_zero]
theorem corner_base {n : Nat} {xs : List Int} (hg : isGround (n : Int) xs = true) (hs : isSub (n : Int) xs = true) {o : Nat → Nat} (q : Pm n o) : isBase (n : Int) xs (gain xs o n n) = true := by
  have h0 := ground_zero hg
  obtain ⟨-, h5, hl, hv⟩ := isFn_yes (ground_fn hg)
  rw [Int.toNat_natCast] at hl
  have s := sb_of hs
  have hgl := gain_len xs o n n
  have hv5 : isVec5 (gain xs o n n) = true := isVec5_mk (by omega) fun k _ => by
    have := corner_bd hl hv q k
    omega
  have hb : belowTo xs (gain xs o n n) xs.length = true := (below_at xs.length).2 fun S hS => by
    rw [hgl]
    exact corner_below s q h0 (by omega)
  unfold isBase isBelow
  rw [hg, hv5, hb, hgl, hl, corner_full xs q h0, decide_eq_true rfl, decide_eq_true rfl]
  rfl

/-- Where a level ends in the order. -/
theorem level_end {n : Nat} {w : Nat → Int} {o : Nat → Nat} (hd : ∀ i k, i < k → k < n → w (o k) ≤ w (o i)) (T : Int) : ∀ m, m ≤ n → ∃ c, c ≤ m ∧ (∀ i, i < c → T ≤ w (o i)) ∧ ∀ i, c ≤ i → i < m → w (o i) < T
  | 0, _ => ⟨0, Nat.le_refl _, fun i h => absurd h (by omega), fun i h1 h2 => absurd h2 (by omega)⟩
  | m + 1, hm => by
    obtain ⟨c, h1, h2, h3⟩ := level_end hd T m (by omega)
    by_cases hc : c = m
    · subst hc
      by_cases ht : T ≤ w (o c)
      · exact ⟨c + 1, Nat.le_refl _, fun i hi => by
          by_cases e : i = c
          · subst e; exact ht
          · exact h2 i (by omega), fun i a b => absurd b (by omega)⟩
      · exact ⟨c, by omega, h2, fun i a b => by
          obtain rfl : i = c := by omega
          omega⟩
    · have h4 := h3 c (Nat.le_refl _) (by omega)
      exact ⟨c, by omega, h2, fun i a b => by
        by_cases e : i = m
        · subst e
          have := hd c i (by omega) (by omega)
          omega
        · exact h3 i a (by omega)⟩
theorem lv_pre_eq {n : Nat} {w : Nat → Int} {o : Nat → Nat} {T : Int} {c : Nat} : ∀ m, c ≤ m → (∀ i, i < c → T ≤ w (o i)) → (∀ i, c ≤ i → i < m → w (o i) < T) → lv w T o m = pre o c
  | 0, h, _, _ => by
    obtain rfl : c = 0 := by omega
    rfl
  | m + 1, h, h1, h2 => by
    by_cases e : c = m + 1
    · subst e
      exact lv_all w T o (m + 1) h1
    · rw [lv, if_neg (by have := h2 m (by omega) (by omega); omega)]
      exact lv_pre_eq (n := n) m (by omega) h1 fun i a b => h2 i a (by omega)
theorem lev_mem {ws : List Int} {s : Int} : ∀ k, s ∈ levTo ws k ↔ ∃ i, i < k ∧ (i + 1 = ws.length ∨ ws.getD (ordF ws (i + 1)) 0 < ws.getD (ordF ws i) 0) ∧ s = (pre (ordF ws) (i + 1) : Int)
  | 0 => by simp [levTo]
  | k + 1 => by
    rw [levTo]
    split
    · rename_i h
      rw [List.mem_append, lev_mem k]
      constructor
      · rintro (⟨i, h1, h2⟩ | h1)
        · exact ⟨i, by omega, h2⟩
        · exact ⟨k, by omega, h, by simpa using h1⟩
      · rintro ⟨i, h1, h2, h3⟩
        by_cases e : i = k
        · subst e; exact .inr (by simpa using h3)
        · exact .inl ⟨i, by omega, h2, h3⟩
    · rename_i h
      rw [lev_mem k]
      constructor
      · rintro ⟨i, h1, h2⟩
        exact ⟨i, by omega, h2⟩
      · rintro ⟨i, h1, h2, h3⟩
        by_cases e : i = k
        · subst e; exact absurd h2 h
        · exact ⟨i, by omega, h2, h3⟩
theorem tight_all {xs us ls : List Int} : ∀ m, tightAll xs us ls m = true ↔ ∀ j, j < m → weigh us (ls.getD j 0).toNat us.length = xs.getD (ls.getD j 0).toNat 0
  | 0 => by simp [tightAll]
  | m + 1 => by
    rw [tightAll, Bool.and_eq_true, tight_all m, decide_eq_true_eq]
    constructor
    · rintro ⟨h1, h2⟩ j hj
      by_cases e : j = m
      · subst e; exact h2
      · exact h1 j (by omega)
    · intro h
      exact ⟨fun j hj => h j (by omega), h m (by omega)⟩
theorem tight_mem {xs us ls : List Int} : tightAll xs us ls ls.length = true ↔ ∀ s ∈ ls, weigh us s.toNat us.length = xs.getD s.toNat 0 := by
  rw [tight_all]
  constructor
  · intro h s hs
    obtain ⟨j, hj, rfl⟩ := List.mem_iff_getElem.1 hs
    have := h j hj
    rwa [getD_at _ _ hj] at this
  · intro h j hj
    rw [getD_at _ _ hj]
    exact h _ (List.getElem_mem hj)
theorem sm_zero_iff {f : Nat → Int} : ∀ m, (∀ i, i < m → 0 ≤ f i) → (sm f m = 0 ↔ ∀ i, i < m → f i = 0)
  | 0, _ => by simp [sm]
  | m + 1, h => by
    have ih := sm_zero_iff m fun i hi => h i (by omega)
    have h0 : 0 ≤ sm f m := by
      have := sm_le (f := fun _ => 0) (g := f) m fun i hi => h i (by omega)
      rwa [sm_zero] at this
    have hm := h m (by omega)
    rw [sm]
    constructor
    · intro e i hi
      by_cases c : i = m
      · subst c; omega
      · exact ih.1 (by omega) i (by omega)
    · intro e
      have := ih.2 fun i hi => e i (by omega)
      have := e m (by omega)
      omega
theorem weigh_none (us : List Int) : ∀ n, weigh us 0 n = 0
  | 0 => rfl
  | n + 1 => by rw [weigh, Nat.zero_testBit, if_neg (by decide), weigh_none us n]
/-- What a corner has in a level is the level's part of its sum. -/
theorem bx_weigh (xs : List Int) {n : Nat} {o : Nat → Nat} (q : Pm n o) (w : Nat → Int) (T : Int) : bx xs o w T n = weigh (gain xs o n n) (lv w T o n) n := by
  rw [gain_weigh xs q]
  unfold bx ax
  refine sm_congr _ fun i hi => ?_
  have hb : (lv w T o n).testBit (o i) = decide (T ≤ w (o i)) := by rw [lv_set q, decide_eq_true (q.lt i hi), Bool.true_and]
  unfold bitI
  rw [hb]
  by_cases c : T ≤ w (o i)
  · rw [if_pos c, if_pos (by rw [decide_eq_true c]), Int.one_mul]
  · rw [if_neg c, if_neg (by rw [decide_eq_false c]; decide), Int.zero_mul]
/-- A corner has the greatest sum if it is tight at all levels. -/
theorem best_levels {n : Nat} {xs ws : List Int} (h : fit9 (n : Int) xs ws = true) {o : Nat → Nat} (q : Pm n o) :
    sm (fun k => ws.getD k 0 * (gain xs o n n).getD k 0) n = bestN xs ws ↔ ∀ t : Nat, t < 2000 → weigh (gain xs o n n) (lv (fun j => ws.getD j 0) ((t : Int) + 1 - 1000) o n) n = xs.getD (lv (fun j => ws.getD j 0) ((t : Int) + 1 - 1000) o n) 0 := by
  obtain ⟨hg, hs, hv, hl⟩ := fit9_yes h
  have hl' : ws.length = n := by omega
  have h0 := ground_zero hg
  have hb := (isVec_yes hv).2
  have s := sb_of hs
  rw [gain_sum xs q (fun k => ws.getD k 0) n (Nat.le_refl _), best_ext h, ext_lev hl' (fun k hk => hb k (by omega)) q, ax_levT xs o (fun j => ws.getD j 0) n fun i hi => hb _ (by rw [hl']; exact q.lt i hi), pre_full q, h0]
  have key := sm_zero_iff (f := fun t : Nat => (xs.getD (lv (fun j => ws.getD j 0) ((t : Int) + 1 - 1000) o n) 0 - 0) - bx xs o (fun j => ws.getD j 0) ((t : Int) + 1 - 1000) n) 2000 fun t _ => by
    have := bx_le s q (fun j => ws.getD j 0) ((t : Int) + 1 - 1000) n (Nat.le_refl _)
    rw [h0] at this
    show 0 ≤ _ - bx xs o (fun j => ws.getD j 0) ((t : Int) + 1 - 1000) n
    omega
  have hsub : sm (fun t : Nat => (xs.getD (lv (fun j => ws.getD j 0) ((t : Int) + 1 - 1000) o n) 0 - 0) - bx xs o (fun j => ws.getD j 0) ((t : Int) + 1 - 1000) n) 2000 + sm (fun t : Nat => bx xs o (fun j => ws.getD j 0) ((t : Int) + 1 - 1000) n) 2000 = sm (fun t : Nat => xs.getD (lv (fun j => ws.getD j 0) ((t : Int) + 1 - 1000) o n) 0 - 0) 2000 := by
    rw [← sm_add]
    refine sm_congr _ fun t _ => ?_
    show _ - bx xs o (fun j => ws.getD j 0) ((t : Int) + 1 - 1000) n + bx xs o (fun j => ws.getD j 0) ((t : Int) + 1 - 1000) n = _
    omega
  have e : ∀ t : Nat, ((xs.getD (lv (fun j => ws.getD j 0) ((t : Int) + 1 - 1000) o n) 0 - 0) - bx xs o (fun j => ws.getD j 0) ((t : Int) + 1 - 1000) n = 0 ↔ weigh (gain xs o n n) (lv (fun j => ws.getD j 0) ((t : Int) + 1 - 1000) o n) n = xs.getD (lv (fun j => ws.getD j 0) ((t : Int) + 1 - 1000) o n) 0) := fun t => by
    rw [bx_weigh xs q]
    omega
  constructor
  · intro hh t ht
    exact (e t).1 (key.1 (by omega) t ht)
  · intro hh
    have := key.2 fun t ht => (e t).2 (hh t ht)
    omega
theorem best_iff {n : Nat} {xs ws : List Int} (h : fit9 (n : Int) xs ws = true) {o : Nat → Nat} (q : Pm n o) :
    sm (fun k => ws.getD k 0 * (gain xs o n n).getD k 0) n = bestN xs ws ↔ tightAll xs (gain xs o n n) (levTo ws ws.length) (levTo ws ws.length).length = true := by
  obtain ⟨hg, -, hv, hl⟩ := fit9_yes h
  have hl' : ws.length = n := by omega
  have h0 := ground_zero hg
  have hb := (isVec_yes hv).2
  have p : Pm n (ordF ws) := by have := ordF_pm ws; rwa [hl'] at this
  have hd : ∀ i k, i < k → k < n → ws.getD (ordF ws k) 0 ≤ ws.getD (ordF ws i) 0 := fun i k a b => ordF_desc ws i k a (by omega)
  rw [best_levels h q, tight_mem, hl', gain_len]
  have hlv : ∀ T, lv (fun j => ws.getD j 0) T o n = lv (fun j => ws.getD j 0) T (ordF ws) n := fun T => lv_eq q p _ T
  constructor
  · intro hh s hs
    obtain ⟨i, hi, hc, rfl⟩ := (lev_mem n).1 hs
    rw [hl'] at hc
    rw [Int.toNat_natCast]
    have hwi := hb _ (show ordF ws i < ws.length by rw [hl']; exact p.lt i hi)
    have hend : ∀ j, i + 1 ≤ j → j < n → ws.getD (ordF ws j) 0 < ws.getD (ordF ws i) 0 := fun j a b => by
      rcases hc with hc | hc
      · omega
      · by_cases ej : j = i + 1
        · subst ej; exact hc
        · have := hd (i + 1) j (by omega) b
          omega
    by_cases ht : ws.getD (ordF ws i) 0 = -1000
    · have : i + 1 = n := by
        rcases hc with hc | hc
        · exact hc
        · by_cases hin : i + 1 < n
          · have := hb _ (show ordF ws (i + 1) < ws.length by rw [hl']; exact p.lt (i + 1) hin)
            omega
          · omega
      rw [this, pre_full p]
      exact corner_full xs q h0
    · have ht2 := hh (ws.getD (ordF ws i) 0 + 999).toNat (by omega)
      rw [show (((ws.getD (ordF ws i) 0 + 999).toNat : Nat) : Int) + 1 - 1000 = ws.getD (ordF ws i) 0 by omega, hlv] at ht2
      rw [lv_pre_eq (n := n) (c := i + 1) n (by omega) (fun j hj => by
        by_cases e : j = i
        · subst e; exact Int.le_refl _
        · exact hd j i (by omega) hi) (fun j a b => hend j a b)] at ht2
      exact ht2
  · intro hh t _
    obtain ⟨c, hc, h1, h2⟩ := level_end (w := fun j => ws.getD j 0) hd ((t : Int) + 1 - 1000) n (Nat.le_refl _)
    rw [hlv, lv_pre_eq (n := n) n hc h1 h2]
    by_cases hc0 : c = 0
    · subst hc0
      show weigh _ 0 n = xs.getD 0 0
      rw [weigh_none, h0]
    · obtain ⟨i, rfl⟩ : ∃ i, c = i + 1 := ⟨c - 1, by omega⟩
      have := hh (pre (ordF ws) (i + 1) : Int) ((lev_mem n).2 ⟨i, by omega, by
        by_cases e : i + 1 = n
        · exact .inl (by omega)
        · refine .inr ?_
          have a1 := h2 (i + 1) (Nat.le_refl _) (by omega)
          have a2 := h1 i (by omega)
          omega, rfl⟩)
      rwa [Int.toNat_natCast] at this
/-- No corner has a greater sum than the best one, and none a lesser one than that of the negatives. -/
theorem corner_le {n : Nat} {xs ws : List Int} (h : fit9 (n : Int) xs ws = true) {o : Nat → Nat} (q : Pm n o) : sm (fun k => ws.getD k 0 * (gain xs o n n).getD k 0) n ≤ bestN xs ws := by
  obtain ⟨hg, hs, hv, hl⟩ := fit9_yes h
  have h1 := ax_le (sb_of hs) (show ws.length = n by omega) (fun k hk => (isVec_yes hv).2 k (by omega)) q
  rw [best_ext h, gain_sum xs q (fun k => ws.getD k 0) n (Nat.le_refl _)]
  rw [ground_zero hg, Int.zero_add] at h1
  exact h1
theorem corner_ge {n : Nat} {xs ws : List Int} (h : fit9 (n : Int) xs ws = true) {o : Nat → Nat} (q : Pm n o) : -bestN xs (negV ws) ≤ sm (fun k => ws.getD k 0 * (gain xs o n n).getD k 0) n := by
  have h1 := corner_le (fit9_neg h) q
  obtain ⟨-, -, -, hl⟩ := fit9_yes h
  have : sm (fun k => (negV ws).getD k 0 * (gain xs o n n).getD k 0) n = -1 * sm (fun k => ws.getD k 0 * (gain xs o n n).getD k 0) n := by
    rw [← sm_mul]
    refine sm_congr _ fun k hk => ?_
    rw [negV_at ws (by omega), Int.neg_mul, Int.neg_mul, Int.one_mul]
  omega
theorem isBest_corner {n : Nat} {xs ws : List Int} (h : fit9 (n : Int) xs ws = true) {o : Nat → Nat} (q : Pm n o) : isBest (n : Int) xs ws (gain xs o n n) = decide (sm (fun k => ws.getD k 0 * (gain xs o n n).getD k 0) n = bestN xs ws) := by
  obtain ⟨hg, hs, -, -⟩ := fit9_yes h
  unfold isBest
  rw [h, corner_base hg hs q, Bool.true_and, Bool.true_and]
  apply bool_iff
  rw [decide_eq_true_eq]
  exact (best_iff h q).symm

end Go.Proofs.YtffbiflgmlabaaaGreatDoor.M

namespace Go.Proofs.YtffbiflgmlabaaaGreatDoor.M
set_option linter.unusedVariables false
set_option linter.unusedSimpArgs false

/-- The least of the first k + 1 values. -/
def minTo (xs : List Int) : Nat → Int
  | 0 => xs.getD 0 0
  | k + 1 => min (minTo xs k) (xs.getD (k + 1) 0)
theorem minTo_le (xs : List Int) : ∀ k j, j ≤ k → minTo xs k ≤ xs.getD j 0
  | 0, j, h => by
    obtain rfl : j = 0 := by omega
    exact Int.le_refl _
  | k + 1, j, h => by
    rw [minTo]
    by_cases e : j = k + 1
    · subst e; exact Int.min_le_right _ _
    · exact Int.le_trans (Int.min_le_left _ _) (minTo_le xs k j (by omega))
theorem minTo_at (xs : List Int) : ∀ k, ∃ j, j ≤ k ∧ minTo xs k = xs.getD j 0
  | 0 => ⟨0, Nat.le_refl _, rfl⟩
  | k + 1 => by
    obtain ⟨j, h1, h2⟩ := minTo_at xs k
    rw [minTo]
    by_cases c : minTo xs k ≤ xs.getD (k + 1) 0
    · exact ⟨j, by omega, by rw [Int.min_eq_left c]; exact h2⟩
    · exact ⟨k + 1, Nat.le_refl _, by rw [Int.min_eq_right (by omega)]⟩
def least (xs : List Int) : Int := minTo xs (xs.length - 1)
def minOf (n : Int) (xs : List Int) : Int × Bool := if isFn n xs = true then (least xs, true) else (0, false)
/-- The sets below m that have a value. -/
def argTo (xs : List Int) (y : Int) : Nat → List Nat
  | 0 => []
  | m + 1 => if xs.getD m 0 = y then argTo xs y m ++ [m] else argTo xs y m
theorem argTo_len (xs : List Int) (y : Int) : ∀ m, (argTo xs y m).length ≤ m
  | 0 => Nat.le_refl _
  | m + 1 => by
    have := argTo_len xs y m
    rw [argTo]
    split
    · rw [List.length_append]; exact Nat.add_le_add_right this 1
    · omega
theorem argTo_mem {xs : List Int} {y : Int} {s : Nat} : ∀ m, s ∈ argTo xs y m ↔ s < m ∧ xs.getD s 0 = y
  | 0 => by simp [argTo]
  | m + 1 => by
    rw [argTo]
    split
    · rename_i h
      rw [List.mem_append, argTo_mem m]
      constructor
      · rintro (⟨a, b⟩ | a)
        · exact ⟨by omega, b⟩
        · obtain rfl : s = m := by simpa using a
          exact ⟨by omega, h⟩
      · rintro ⟨a, b⟩
        by_cases e : s = m
        · exact .inr (by simp [e])
        · exact .inl ⟨by omega, b⟩
    · rename_i h
      rw [argTo_mem m]
      constructor
      · rintro ⟨a, b⟩
        exact ⟨by omega, b⟩
      · rintro ⟨a, b⟩
        by_cases e : s = m
        · subst e; exact absurd b h
        · exact ⟨by omega, b⟩
def args (xs : List Int) : List Nat := argTo xs (least xs) xs.length
theorem args_ne {xs : List Int} (h : 0 < xs.length) : 0 < (args xs).length := by
  obtain ⟨j, h1, h2⟩ := minTo_at xs (xs.length - 1)
  exact List.length_pos_of_mem ((argTo_mem (s := j) xs.length).2 ⟨by omega, h2.symm⟩)
theorem args_lt {xs : List Int} {s : Nat} (h : s ∈ args xs) : s < xs.length := ((argTo_mem xs.length).1 h).1
def minimizers (n : Int) (xs : List Int) : List Int × Bool := if isFn n xs = true then (nats (args xs), true) else ([], false)
def andTo (l : List Nat) : Nat → Nat
  | 0 => l.getD 0 0
  | k + 1 => andTo l k &&& l.getD (k + 1) 0
def orTo (l : List Nat) : Nat → Nat
  | 0 => 0
  | k + 1 => orTo l k ||| l.getD k 0
theorem andTo_lt {l : List Nat} {N : Nat} (h : ∀ s ∈ l, s < 2 ^ N) : ∀ k, andTo l k < 2 ^ N
  | 0 => by
    rw [andTo]
    by_cases e : 0 < l.length
    · rw [getD_at _ _ e]; exact h _ (List.getElem_mem e)
    · rw [List.getD_eq_getElem?_getD, List.getElem?_eq_none (by omega)]; exact Nat.two_pow_pos N
  | k + 1 => Nat.lt_of_le_of_lt Nat.and_le_left (andTo_lt h k)
theorem orTo_lt {l : List Nat} {N : Nat} (h : ∀ s ∈ l, s < 2 ^ N) : ∀ k, orTo l k < 2 ^ N
  | 0 => Nat.two_pow_pos N
  | k + 1 => by
    rw [orTo]
    refine Nat.or_lt_two_pow (orTo_lt h k) ?_
    by_cases e : k < l.length
    · rw [getD_at _ _ e]; exact h _ (List.getElem_mem e)
    · rw [List.getD_eq_getElem?_getD, List.getElem?_eq_none (by omega)]; exact Nat.two_pow_pos N
def leastMin (n : Int) (xs : List Int) : Int × Bool := if isSub n xs = true then ((andTo (args xs) ((args xs).length - 1) : Nat), true) else (0, false)
def greatMin (n : Int) (xs : List Int) : Int × Bool := if isSub n xs = true then ((orTo (args xs) (args xs).length : Nat), true) else (0, false)
def hasI (l : List Int) (s : Int) : Bool := decide (s ∈ l)
/-- With the k elements ahead of one, their union and what they have in common. -/
def latRow (l : List Int) (i : Nat) : Nat → Bool
  | 0 => true
  | k + 1 => latRow l i k && (hasI l ((l.getD i 0).toNat &&& (l.getD k 0).toNat : Nat) && hasI l ((l.getD i 0).toNat ||| (l.getD k 0).toNat : Nat))
def latTo (l : List Int) : Nat → Bool
  | 0 => true
  | i + 1 => latTo l i && (decide (0 ≤ l.getD i 0 ∧ l.getD i 0 ≤ 1023) && latRow l i i)
def isLat (l : List Int) : Bool := decide (l.length ≤ 64) && latTo l l.length
theorem latRow_no {l : List Int} {i k : Nat} (h : latRow l i (k + 1) = false) : ∀ m, k < m → latRow l i m = false
  | 0, h => absurd h (by omega)
  | m + 1, hm => by
    by_cases e : k = m
    · subst e; exact h
    · rw [latRow, latRow_no h m (by omega), Bool.false_and]
theorem latTo_no {l : List Int} {i : Nat} (h : latTo l (i + 1) = false) : ∀ m, i < m → latTo l m = false
  | 0, h => absurd h (by omega)
  | m + 1, hm => by
    by_cases e : i = m
    · subst e; exact h
    · rw [latTo, latTo_no h m (by omega), Bool.false_and]
theorem hasI_mem {l : List Int} {s : Int} : hasI l s = true ↔ ∃ j, j < l.length ∧ l.getD j 0 = s := by
  unfold hasI
  rw [decide_eq_true_eq]
  constructor
  · intro h
    obtain ⟨j, hj, e⟩ := List.mem_iff_getElem.1 h
    exact ⟨j, hj, by rw [getD_at _ _ hj]; exact e⟩
  · rintro ⟨j, hj, e⟩
    rw [getD_at _ _ hj] at e
    exact e ▸ List.getElem_mem hj
theorem hasI_no {l : List Int} {s : Int} (h : ∀ j, j < l.length → l.getD j 0 ≠ s) : hasI l s = false := by
  cases e : hasI l s
  · rfl
  · obtain ⟨j, hj, e2⟩ := hasI_mem.1 e
    exact absurd e2 (h j hj)
/-- Of the sets below s that contain a and have nothing of b, and of a itself, the first with the least value. -/
def btwTo (xs : List Int) (a b : Nat) : Nat → Nat
  | 0 => a
  | s + 1 => if s &&& a = a ∧ s &&& b = 0 ∧ xs.getD s 0 < xs.getD (btwTo xs a b s) 0 then s else btwTo xs a b s
theorem btwTo_lt {xs : List Int} {a b : Nat} (ha : a < xs.length) : ∀ s, s ≤ xs.length → btwTo xs a b s < xs.length
  | 0, _ => ha
  | s + 1, h => by
    rw [btwTo]
    split
    · omega
    · exact btwTo_lt ha s (by omega)
def between (n : Int) (xs : List Int) (a b : Int) : Int × Int × Bool :=
  if isFn n xs = true ∧ isSet n a = true ∧ isSet n b = true ∧ a.toNat &&& b.toNat = 0 then (xs.getD (btwTo xs a.toNat b.toNat xs.length) 0, (btwTo xs a.toNat b.toNat xs.length : Nat), true) else (0, 0, false)
theorem minimizers_le (n : Int) (xs : List Int) : (minimizers n xs).1.length ≤ 1048576 := by
  unfold minimizers
  split
  · rename_i h
    show (nats (args xs)).length ≤ _
    rw [nats_len]
    have := argTo_len xs (least xs) xs.length
    have := (isFn_len h).2
    unfold args
    omega
  · exact Nat.zero_le _

end Go.Proofs.YtffbiflgmlabaaaGreatDoor.M

namespace Go.Proofs.YtffbiflgmlabaaaGreatDoor.M
set_option linter.unusedVariables false

/-- An edge has its ends among the elements and a weight from 0 to 20. -/
def edgeOk (n : Int) (xs : List Int) (i : Nat) : Prop := 0 ≤ xs.getD (i * 3) 0 ∧ xs.getD (i * 3) 0 < n ∧ 0 ≤ xs.getD (i * 3 + 1) 0 ∧ xs.getD (i * 3 + 1) 0 < n ∧ 0 ≤ xs.getD (i * 3 + 2) 0 ∧ xs.getD (i * 3 + 2) 0 ≤ 20
instance (n : Int) (xs : List Int) (i : Nat) : Decidable (edgeOk n xs i) := by unfold edgeOk; infer_instance
def edgesOk (n : Int) (m : Nat) (xs : List Int) : Prop := m ≤ 20 ∧ ∀ i, i < m → edgeOk n xs i
instance (n : Int) (m : Nat) (xs : List Int) : Decidable (edgesOk n m xs) := by unfold edgesOk; infer_instance
/-- A block is a set of the elements, its weight is from 0 to 20. -/
def blockOk (n : Int) (xs : List Int) (i : Nat) : Prop := isSet n (xs.getD (i * 2) 0) = true ∧ 0 ≤ xs.getD (i * 2 + 1) 0 ∧ xs.getD (i * 2 + 1) 0 ≤ 20
instance (n : Int) (xs : List Int) (i : Nat) : Decidable (blockOk n xs i) := by unfold blockOk; infer_instance
def blocksOk (n : Int) (m : Nat) (xs : List Int) : Prop := m ≤ 20 ∧ ∀ i, i < m → blockOk n xs i
instance (n : Int) (m : Nat) (xs : List Int) : Decidable (blocksOk n m xs) := by unfold blocksOk; infer_instance

/-- The sum over those that are wanted. -/
def sumIf (b : Nat → Bool) (g : Nat → Int) : Nat → Int
  | 0 => 0
  | i + 1 => if b i = true then sumIf b g i + g i else sumIf b g i
theorem sumIf_bd {b : Nat → Bool} {g : Nat → Int} {m : Nat} (h : ∀ i, i < m → 0 ≤ g i ∧ g i ≤ 20) : ∀ i, i ≤ m → 0 ≤ sumIf b g i ∧ sumIf b g i ≤ 20 * (i : Int)
  | 0, _ => by simp [sumIf]
  | i + 1, hi => by
    have h1 := sumIf_bd (b := b) h i (by omega)
    have h2 := h i (by omega)
    unfold sumIf
    split <;> omega
theorem sumIf_two {a b c : Nat → Bool} {g : Nat → Int} {m : Nat} (h : ∀ i, i < m → (a i || b i) = c i ∧ (a i && b i) = false) : ∀ i, i ≤ m → sumIf a g i + sumIf b g i = sumIf c g i
  | 0, _ => rfl
  | i + 1, hi => by
    have h1 := sumIf_two (g := g) h i (by omega)
    obtain ⟨h2, h3⟩ := h i (by omega)
    unfold sumIf
    rw [← h2, ← h1]
    cases ha : a i <;> cases hb : b i <;> simp_all <;> omega
theorem sumIf_yes {b : Nat → Bool} {g : Nat → Int} {i : Nat} (h : b i = true) : sumIf b g (i + 1) = sumIf b g i + g i := by
  show (if b i = true then sumIf b g i + g i else sumIf b g i) = _
  rw [if_pos h]
theorem sumIf_no {b : Nat → Bool} {g : Nat → Int} {i : Nat} (h : b i = false) : sumIf b g (i + 1) = sumIf b g i := by
  show (if b i = true then sumIf b g i + g i else sumIf b g i) = _
  rw [if_neg (by rw [h]; decide)]
/-- An edge has exactly one end in the set; it leaves the set; a block meets it. -/
def crossB (xs : List Int) (s i : Nat) : Bool := s.testBit (xs.getD (i * 3) 0).toNat != s.testBit (xs.getD (i * 3 + 1) 0).toNat
def leaveB (xs : List Int) (s i : Nat) : Bool := s.testBit (xs.getD (i * 3) 0).toNat && !s.testBit (xs.getD (i * 3 + 1) 0).toNat
def meetB (xs : List Int) (s i : Nat) : Bool := decide (s &&& (xs.getD (i * 2) 0).toNat ≠ 0)
def wtE (xs : List Int) (i : Nat) : Int := xs.getD (i * 3 + 2) 0
def wtB (xs : List Int) (i : Nat) : Int := xs.getD (i * 2 + 1) 0
def cutV (xs : List Int) (m s : Nat) : Int := sumIf (crossB xs s) (wtE xs) m
def dcutV (xs : List Int) (m s : Nat) : Int := sumIf (leaveB xs s) (wtE xs) m
def coverV (xs : List Int) (m s : Nat) : Int := sumIf (meetB xs s) (wtB xs) m
def cutFn (n : Int) (m : Nat) (xs : List Int) : Int × List Int × Bool := if 0 ≤ n ∧ n ≤ 5 ∧ edgesOk n m xs then made n (tab (2 ^ n.toNat) (cutV xs m)) else (0, [], false)
def dcutFn (n : Int) (m : Nat) (xs : List Int) : Int × List Int × Bool := if 0 ≤ n ∧ n ≤ 5 ∧ edgesOk n m xs then made n (tab (2 ^ n.toNat) (dcutV xs m)) else (0, [], false)
def coverFn (n : Int) (m : Nat) (xs : List Int) : Int × List Int × Bool := if 0 ≤ n ∧ n ≤ 5 ∧ blocksOk n m xs then made n (tab (2 ^ n.toNat) (coverV xs m)) else (0, [], false)
theorem cross_at {xs : List Int} {s i F T : Nat} (hF : xs.getD (i * 3) 0 = (F : Int)) (hT : xs.getD (i * 3 + 1) 0 = (T : Int)) : crossB xs s i = (s.testBit F != s.testBit T) := by
  unfold crossB; rw [hF, hT, Int.toNat_natCast, Int.toNat_natCast]
theorem leave_at {xs : List Int} {s i F T : Nat} (hF : xs.getD (i * 3) 0 = (F : Int)) (hT : xs.getD (i * 3 + 1) 0 = (T : Int)) : leaveB xs s i = (s.testBit F && !s.testBit T) := by
  unfold leaveB; rw [hF, hT, Int.toNat_natCast, Int.toNat_natCast]
theorem meet_at {xs : List Int} {s i S : Nat} (hS : xs.getD (i * 2) 0 = (S : Int)) : meetB xs s i = decide (s &&& S ≠ 0) := by
  unfold meetB; rw [hS, Int.toNat_natCast]
theorem cutFn_len (n : Int) (m : Nat) (xs : List Int) : (cutFn n m xs).2.1.length ≤ 32 := by
  unfold cutFn; split <;> first | exact made_len _ _ | exact Nat.zero_le _
theorem dcutFn_len (n : Int) (m : Nat) (xs : List Int) : (dcutFn n m xs).2.1.length ≤ 32 := by
  unfold dcutFn; split <;> first | exact made_len _ _ | exact Nat.zero_le _
theorem coverFn_len (n : Int) (m : Nat) (xs : List Int) : (coverFn n m xs).2.1.length ≤ 32 := by
  unfold coverFn; split <;> first | exact made_len _ _ | exact Nat.zero_le _
theorem edge_wt {n : Int} {m : Nat} {xs : List Int} (h : ∀ i, i < m → edgeOk n xs i) : ∀ i, i < m → 0 ≤ wtE xs i ∧ wtE xs i ≤ 20 := fun i hi => ⟨(h i hi).2.2.2.2.1, (h i hi).2.2.2.2.2⟩
theorem block_wt {n : Int} {m : Nat} {xs : List Int} (h : ∀ i, i < m → blockOk n xs i) : ∀ i, i < m → 0 ≤ wtB xs i ∧ wtB xs i ≤ 20 := fun i hi => (h i hi).2
theorem testBit_compl {n s i : Nat} (hi : i < n) : (s ^^^ (2 ^ n - 1)).testBit i = !s.testBit i := by
  rw [Nat.testBit_xor, Nat.testBit_two_pow_sub_one]
  simp [hi]
/-- What leaves a set and what leaves its complement cross it. -/
theorem leave_two {n : Nat} {m : Nat} {xs : List Int} (h : ∀ i, i < m → edgeOk (n : Int) xs i) (s : Nat) : dcutV xs m s + dcutV xs m (s ^^^ (2 ^ n - 1)) = cutV xs m s := by
  refine sumIf_two (fun i hi => ?_) m (Nat.le_refl _)
  obtain ⟨h1, h2, h3, h4, -, -⟩ := h i hi
  unfold leaveB crossB
  rw [testBit_compl (by omega), testBit_compl (by omega)]
  cases s.testBit (xs.getD (i * 3) 0).toNat <;> cases s.testBit (xs.getD (i * 3 + 1) 0).toNat <;> simp

end Go.Proofs.YtffbiflgmlabaaaGreatDoor.M

namespace Go.Proofs.YtffbiflgmlabaaaGreatDoor.M
set_option linter.unusedVariables false
/-- The weights of listed elements, added up. -/
def wsum (ws : List Int) : List Int → Int
  | [] => 0
  | e :: l => ws.getD e.toNat 0 + wsum ws l
theorem div_pow_succ (S i : Nat) : S / 2 ^ i / 2 = S / 2 ^ (i + 1) := by rw [Nat.div_div_eq_div_mul, Nat.pow_succ]
theorem testBit_div (S i : Nat) : S.testBit i = decide (S / 2 ^ i % 2 = 1) := by rw [Nat.testBit_eq_decide_div_mod_eq]
theorem wsum_els (ws : List Int) (S : Nat) : ∀ f i, f + i = 10 → S < 2 ^ 10 → weigh ws S i + wsum ws (elsF f i (S / 2 ^ i)) = weigh ws S 10
  | 0, i, h, hS => by
    obtain rfl : i = 10 := by omega
    simp [elsF, wsum]
  | f + 1, i, h, hS => by
    have ih := wsum_els ws S f (i + 1) (by omega) hS
    rw [← ih]
    have hb := testBit_div S i
    rw [← div_pow_succ]
    show weigh ws S i + _ = (if S.testBit i = true then weigh ws S i + ws.getD i 0 else weigh ws S i) + _
    by_cases h1 : S / 2 ^ i % 2 = 1
    · rw [elsF_odd h1, hb]
      simp only [h1, decide_true, if_true, wsum, Int.toNat_natCast]
      omega
    · rw [hb]
      simp only [h1, decide_false]
      by_cases h0 : 0 < S / 2 ^ i
      · rw [elsF_even h0 h1]
        simp
      · have e : S / 2 ^ i = 0 := Nat.eq_zero_of_not_pos h0
        rw [e, elsF_zero, show 0 / 2 = 0 from rfl, elsF_zero]
        simp
theorem weigh_up (ws : List Int) (S n : Nat) (hS : S < 2 ^ n) : ∀ c, weigh ws S (n + c) = weigh ws S n
  | 0 => rfl
  | c + 1 => by
    have h1 : S.testBit (n + c) = false := Nat.testBit_lt_two_pow (Nat.lt_of_lt_of_le hS (Nat.pow_le_pow_right (by decide) (by omega)))
    show (if S.testBit (n + c) = true then _ else weigh ws S (n + c)) = _
    rw [h1]
    exact weigh_up ws S n hS c
theorem weigh_els (ws : List Int) (S n : Nat) (hS : S < 2 ^ n) (hn : n ≤ 10) : wsum ws (els S) = weigh ws S n := by
  have h := wsum_els ws S 10 0 rfl (Nat.lt_of_lt_of_le hS (Nat.pow_le_pow_right (by decide) hn))
  rw [Nat.pow_zero, Nat.div_one] at h
  have h2 := weigh_up ws S n hS (10 - n)
  rw [show n + (10 - n) = 10 by omega] at h2
  have h0 : weigh ws S 0 = 0 := rfl
  rw [h0] at h
  unfold els
  omega
theorem elsF_mem : ∀ (f i x n : Nat), x < 2 ^ n → ∀ e ∈ elsF f i x, (i : Int) ≤ e ∧ e < (i : Int) + (n : Int)
  | 0, _, _, _, _, e, he => by simp [elsF] at he
  | f + 1, i, x, 0, hx, e, he => by
    have : x = 0 := by simpa using hx
    subst this
    rw [elsF_zero] at he
    cases he
  | f + 1, i, x, n + 1, hx, e, he => by
    have hx2 : x / 2 < 2 ^ n := by rw [Nat.pow_succ] at hx; omega
    by_cases h1 : x % 2 = 1
    · rw [elsF_odd h1] at he
      rcases List.mem_cons.1 he with rfl | he
      · omega
      · have := elsF_mem f (i + 1) (x / 2) n hx2 e he
        omega
    · by_cases h0 : 0 < x
      · rw [elsF_even h0 h1] at he
        have := elsF_mem f (i + 1) (x / 2) n hx2 e he
        omega
      · obtain rfl : x = 0 := by omega
        rw [elsF_zero] at he
        cases he
theorem els_at (S n : Nat) (hS : S < 2 ^ n) {k : Nat} (hk : k < (els S).length) : 0 ≤ (els S).getD k 0 ∧ (els S).getD k 0 < (n : Int) := by
  have e : (els S).getD k 0 = (els S)[k] := by rw [List.getD_eq_getElem?_getD, List.getElem?_eq_getElem hk]; rfl
  have := elsF_mem 10 0 S n hS (els S)[k] (List.getElem_mem hk)
  rw [e]
  omega
theorem wsum_drop (ws l : List Int) {k : Nat} (hk : k < l.length) : wsum ws (l.drop k) = ws.getD (l.getD k 0).toNat 0 + wsum ws (l.drop (k + 1)) := by
  have e : l.getD k 0 = l[k] := by rw [List.getD_eq_getElem?_getD, List.getElem?_eq_getElem hk]; rfl
  rw [List.drop_eq_getElem_cons hk, e]
  rfl

end Go.Proofs.YtffbiflgmlabaaaGreatDoor.M
