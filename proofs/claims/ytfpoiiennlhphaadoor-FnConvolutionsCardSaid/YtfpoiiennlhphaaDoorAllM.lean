/-
  Functions of sets as plain mathematics: a number of elements and a list of values.
  Values and gains of functions as plain mathematics.
  Submodular functions as plain mathematics: the first set with two elements that add more together.
  Submodular functions as plain mathematics: no set shows a violation.
  Closures and flats as plain mathematics.
  The usual functions as plain mathematics: functions of the size, lists whose differences do not grow, cuts, covers.
  The elements of a set as plain mathematics: the places of the ones of a number.
  Restrictions, contractions, opposite and dual functions as plain mathematics.
  Sums over the listed elements of a set, as plain mathematics.
  Convolutions, increasing hulls, truncations as plain mathematics.
  What the law of convolutions says, as plain mathematics.
-/
import Init
import Derived.Lib.TrailingZeros
namespace Go.Proofs.YtfpoiiennlhphaaDoor.M
set_option linter.unusedVariables false

/-- A function: from 0 to 5 elements, a value from -1000 to 1000 for each set. -/
def isFn (n : Int) (xs : List Int) : Bool := decide (0 ≤ n) && (decide (n ≤ 5) && (decide (xs.length = 2 ^ n.toNat) && xs.all fun x => decide (-1000 ≤ x) && decide (x ≤ 1000)))

theorem isFn_yes {n : Int} {xs : List Int} (h : isFn n xs = true) : 0 ≤ n ∧ n ≤ 5 ∧ xs.length = 2 ^ n.toNat ∧ ∀ k, k < xs.length → -1000 ≤ xs.getD k 0 ∧ xs.getD k 0 ≤ 1000 := by
  simp only [isFn, Bool.and_eq_true, decide_eq_true_eq, List.all_eq_true] at h
  obtain ⟨h1, h2, h3, h4⟩ := h
  refine ⟨h1, h2, h3, fun k hk => ?_⟩
  have := h4 xs[k] (List.getElem_mem hk)
  simpa [hk] using this
theorem isFn_mk {n : Int} {xs : List Int} (h1 : 0 ≤ n) (h2 : n ≤ 5) (h3 : xs.length = 2 ^ n.toNat) (h4 : ∀ k, k < xs.length → -1000 ≤ xs.getD k 0 ∧ xs.getD k 0 ≤ 1000) : isFn n xs = true := by
  simp only [isFn, Bool.and_eq_true, decide_eq_true_eq, List.all_eq_true]
  refine ⟨h1, h2, h3, fun x hx => ?_⟩
  obtain ⟨k, hk, rfl⟩ := List.mem_iff_getElem.1 hx
  have := h4 k hk
  simpa [hk] using this
/-- Why a function is none: its number, the number of its values, or the first value that is out of range. -/
theorem isFn_no {n : Int} {xs : List Int} (h : isFn n xs = false) : (n < 0 ∨ 5 < n) ∨ (0 ≤ n ∧ n ≤ 5 ∧ xs.length ≠ 2 ^ n.toNat) ∨ (0 ≤ n ∧ n ≤ 5 ∧ xs.length = 2 ^ n.toNat ∧ ∃ k, k < xs.length ∧ (xs.getD k 0 < -1000 ∨ 1000 < xs.getD k 0) ∧ ∀ j, j < k → -1000 ≤ xs.getD j 0 ∧ xs.getD j 0 ≤ 1000) := by
  by_cases h1 : 0 ≤ n ∧ n ≤ 5
  · by_cases h3 : xs.length = 2 ^ n.toNat
    · refine .inr (.inr ⟨h1.1, h1.2, h3, ?_⟩)
      have key : ∀ m, m ≤ xs.length → (∀ j, j < m → -1000 ≤ xs.getD j 0 ∧ xs.getD j 0 ≤ 1000) ∨ ∃ k, k < xs.length ∧ (xs.getD k 0 < -1000 ∨ 1000 < xs.getD k 0) ∧ ∀ j, j < k → -1000 ≤ xs.getD j 0 ∧ xs.getD j 0 ≤ 1000 := by
        intro m
        induction m with
        | zero => exact fun _ => .inl fun j hj => absurd hj (by omega)
        | succ m ih =>
          intro hm
          rcases ih (by omega) with ih | ih
          · by_cases hb : -1000 ≤ xs.getD m 0 ∧ xs.getD m 0 ≤ 1000
            · refine .inl fun j hj => ?_
              by_cases e : j = m
              · subst e; exact hb
              · exact ih j (by omega)
            · exact .inr ⟨m, by omega, by omega, ih⟩
          · exact .inr ih
      rcases key xs.length (Nat.le_refl _) with h4 | h4
      · rw [isFn_mk h1.1 h1.2 h3 h4] at h
        cases h
      · exact h4
    · exact .inr (.inl ⟨h1.1, h1.2, h3⟩)
  · exact .inl (by omega)
theorem p2_le {n : Int} (h0 : 0 ≤ n) (h5 : n ≤ 5) : 1 ≤ 2 ^ n.toNat ∧ 2 ^ n.toNat ≤ 32 := by
  obtain ⟨k, rfl⟩ := Int.eq_ofNat_of_zero_le h0
  have : k = 0 ∨ k = 1 ∨ k = 2 ∨ k = 3 ∨ k = 4 ∨ k = 5 := by omega
  rcases this with rfl | rfl | rfl | rfl | rfl | rfl <;> decide

/-- k values. -/
def tab (k : Nat) (f : Nat → Int) : List Int := (List.range k).map f
theorem tab_zero (f : Nat → Int) : tab 0 f = [] := rfl
theorem tab_succ (k : Nat) (f : Nat → Int) : tab (k + 1) f = tab k f ++ [f k] := by simp [tab, List.range_succ]
theorem tab_length (k : Nat) (f : Nat → Int) : (tab k f).length = k := by simp [tab]
theorem tab_at {k : Nat} (f : Nat → Int) {j : Nat} (h : j < k) : (tab k f).getD j 0 = f j := by simp [tab, h]
theorem tab_congr {k : Nat} {f g : Nat → Int} (h : ∀ j, j < k → f j = g j) : tab k f = tab k g := by
  unfold tab
  exact List.map_congr_left fun j hj => h j (by simpa using hj)

theorem tab_set {m j : Nat} {ys : List Int} (f : Nat → Int) (hy : ys.length = m) (ht : ys.take j = tab j f) (hj : j < m) : (ys.set j (f j)).take (j + 1) = tab (j + 1) f := by
  rw [List.take_succ_eq_append_getElem (by simp; omega), List.take_set_of_le (Nat.le_refl _), ht, tab_succ]
  simp
/-- A function that was built, if it is one: its number, its values, whether. -/
def made (n : Int) (xs : List Int) : Int × List Int × Bool := if isFn n xs = true then (n, xs, true) else (0, [], false)
def addFn (n : Int) (xs : List Int) (m : Int) (ys : List Int) : Int × List Int × Bool :=
  if isFn n xs = true ∧ isFn m ys = true ∧ n = m then made n (tab xs.length fun s => xs.getD s 0 + ys.getD s 0) else (0, [], false)
def scaleFn (n : Int) (xs : List Int) (k : Int) : Int × List Int × Bool :=
  if isFn n xs = true ∧ -1000 ≤ k ∧ k ≤ 1000 then made n (tab xs.length fun s => k * xs.getD s 0) else (0, [], false)
def lowerFn (n : Int) (xs : List Int) : Int × List Int × Bool :=
  if isFn n xs = true then made n (tab xs.length fun s => xs.getD s 0 - xs.getD 0 0) else (0, [], false)
theorem isFn_len {n : Int} {xs : List Int} (h : isFn n xs = true) : 1 ≤ xs.length ∧ xs.length ≤ 32 := by
  obtain ⟨h0, h5, hl, _⟩ := isFn_yes h
  rw [hl]
  exact p2_le h0 h5
theorem made_len (n : Int) (xs : List Int) : (made n xs).2.1.length ≤ 32 := by
  unfold made
  split
  · rename_i h; exact (isFn_len h).2
  · exact Nat.zero_le _
theorem addFn_len (n : Int) (xs : List Int) (m : Int) (ys : List Int) : (addFn n xs m ys).2.1.length ≤ 32 := by
  unfold addFn; split <;> first | exact made_len _ _ | exact Nat.zero_le _
theorem scaleFn_len (n : Int) (xs : List Int) (k : Int) : (scaleFn n xs k).2.1.length ≤ 32 := by
  unfold scaleFn; split <;> first | exact made_len _ _ | exact Nat.zero_le _
theorem lowerFn_len (n : Int) (xs : List Int) : (lowerFn n xs).2.1.length ≤ 32 := by
  unfold lowerFn; split <;> first | exact made_len _ _ | exact Nat.zero_le _
/-- A product of two numbers from -1000 to 1000. -/
theorem mul_bd {a b : Int} (h1 : -1000 ≤ a) (h2 : a ≤ 1000) (h3 : -1000 ≤ b) (h4 : b ≤ 1000) : -1000000 ≤ a * b ∧ a * b ≤ 1000000 := by
  constructor
  · have e1 : 0 ≤ (1000 + a) * (1000 + b) := Int.mul_nonneg (by omega) (by omega)
    have e2 : 0 ≤ (1000 - a) * (1000 - b) := Int.mul_nonneg (by omega) (by omega)
    have s : (1000 + a) * (1000 + b) + (1000 - a) * (1000 - b) = 2000000 + 2 * (a * b) := by
      simp only [Int.add_mul, Int.mul_add, Int.sub_mul, Int.mul_sub]; omega
    omega
  · have e1 : 0 ≤ (1000 + a) * (1000 - b) := Int.mul_nonneg (by omega) (by omega)
    have e2 : 0 ≤ (1000 - a) * (1000 + b) := Int.mul_nonneg (by omega) (by omega)
    have s : (1000 + a) * (1000 - b) + (1000 - a) * (1000 + b) = 2000000 - 2 * (a * b) := by
      simp only [Int.add_mul, Int.mul_add, Int.sub_mul, Int.mul_sub]; omega
    omega

end Go.Proofs.YtfpoiiennlhphaaDoor.M

namespace Go.Proofs.YtfpoiiennlhphaaDoor.M
set_option linter.unusedVariables false

/-- s is a set of n elements. -/
def isSet (n s : Int) : Bool := decide (0 ≤ s) && decide (s < ((2 ^ n.toNat : Nat) : Int))
theorem isSet_yes {n s : Int} (h : isSet n s = true) : 0 ≤ s ∧ s < ((2 ^ n.toNat : Nat) : Int) := by simpa [isSet] using h
theorem isSet_no {n s : Int} (h : isSet n s = false) : s < 0 ∨ ((2 ^ n.toNat : Nat) : Int) ≤ s := by
  have : ¬ (0 ≤ s ∧ s < ((2 ^ n.toNat : Nat) : Int)) := fun hh => by
    have e : isSet n s = true := by simp only [isSet, Bool.and_eq_true, decide_eq_true_eq]; exact hh
    rw [h] at e
    cases e
  omega
def valueOf (n : Int) (xs : List Int) (s : Int) : Int := if isFn n xs = true ∧ isSet n s = true then xs.getD s.toNat 0 else -9999
/-- A set with one more element. -/
def withE (s e : Int) : Nat := s.toNat ||| 2 ^ e.toNat
def gainOf (n : Int) (xs : List Int) (s e : Int) : Int := if isFn n xs = true ∧ isSet n s = true ∧ 0 ≤ e ∧ e < n then xs.getD (withE s e) 0 - xs.getD s.toNat 0 else -9999
theorem withE_lt {n s e : Int} (h0 : 0 ≤ n) (hs : isSet n s = true) (e0 : 0 ≤ e) (en : e < n) : withE s e < 2 ^ n.toNat := by
  obtain ⟨h1, h2⟩ := isSet_yes hs
  exact Nat.or_lt_two_pow (by omega) (Nat.pow_lt_pow_right (by decide) (by omega))

end Go.Proofs.YtfpoiiennlhphaaDoor.M

namespace Go.Proofs.YtfpoiiennlhphaaDoor.M
set_option linter.unusedVariables false

/-- The first one from place j on, of c places. -/
def firstSome {α : Type} (f : Nat → Option α) : Nat → Nat → Option α
  | 0, _ => none
  | c + 1, j => match f j with
    | some v => some v
    | none => firstSome f c (j + 1)
theorem fs_hit {α : Type} {f : Nat → Option α} {v : α} : ∀ (c lo j : Nat), lo ≤ j → j < lo + c → (∀ i, lo ≤ i → i < j → f i = none) → f j = some v → firstSome f c lo = some v
  | 0, lo, j, h1, h2, _, _ => absurd h2 (by omega)
  | c + 1, lo, j, h1, h2, h3, h4 => by
    by_cases e : lo = j
    · subst e
      simp [firstSome, h4]
    · rw [firstSome, h3 lo (Nat.le_refl _) (by omega)]
      exact fs_hit c (lo + 1) j (by omega) (by omega) (fun i hi hj => h3 i (by omega) hj) h4
theorem fs_none {α : Type} {f : Nat → Option α} : ∀ (c lo : Nat), (∀ i, lo ≤ i → i < lo + c → f i = none) → firstSome f c lo = none
  | 0, _, _ => rfl
  | c + 1, lo, h => by
    rw [firstSome, h lo (Nat.le_refl _) (by omega)]
    exact fs_none c (lo + 1) fun i hi hj => h i (by omega) (by omega)

/-- Do i and k, outside of s, add more to s together than one by one? -/
def bad (xs : List Int) (s i k : Nat) : Bool := !s.testBit i && (!s.testBit k && decide (xs.getD (s ||| 2 ^ i) 0 + xs.getD (s ||| 2 ^ k) 0 < xs.getD (s ||| 2 ^ i ||| 2 ^ k) 0 + xs.getD s 0))
def violK (n : Nat) (xs : List Int) (s i : Nat) : Option (List Int) := firstSome (fun k => if bad xs s i k = true then some [(s : Int), (i : Int), (k : Int)] else none) (n - (i + 1)) (i + 1)
def violI (n : Nat) (xs : List Int) (s : Nat) : Option (List Int) := firstSome (violK n xs s) n 0
def violS (n : Nat) (xs : List Int) : Option (List Int) := firstSome (violI n xs) xs.length 0
/-- The first violation, and whether there is one. -/
def viol (n : Int) (xs : List Int) : List Int × Bool := if isFn n xs = true then match violS n.toNat xs with
    | some l => (l, true)
    | none => ([], false)
  else ([], false)
theorem viol_hit {n : Nat} {xs : List Int} {s i k : Nat} (hf : isFn (n : Int) xs = true) (hs : s < xs.length) (hi : i < n) (hk : k < n) (hik : i < k)
    (h1 : ∀ s', s' < s → violI n xs s' = none) (h2 : ∀ i', i' < i → violK n xs s i' = none) (h3 : ∀ k', i < k' → k' < k → bad xs s i k' = false) (hb : bad xs s i k = true) :
    viol (n : Int) xs = ([(s : Int), (i : Int), (k : Int)], true) := by
  have e1 : violK n xs s i = some [(s : Int), (i : Int), (k : Int)] := fs_hit _ _ k (by omega) (by omega) (fun j hj hjk => by rw [if_neg]; rw [h3 j (by omega) hjk]; decide) (if_pos hb)
  have e2 : violI n xs s = some [(s : Int), (i : Int), (k : Int)] := fs_hit _ _ i (by omega) (by omega) (fun j _ hj => h2 j hj) e1
  have e3 : violS n xs = some [(s : Int), (i : Int), (k : Int)] := fs_hit _ _ s (by omega) (by omega) (fun j _ hj => h1 j hj) e2
  unfold viol
  rw [if_pos hf, Int.toNat_natCast, e3]
theorem viol_none {n : Nat} {xs : List Int} (h1 : ∀ s', s' < xs.length → violI n xs s' = none) : viol (n : Int) xs = ([], false) := by
  have e3 : violS n xs = none := fs_none _ _ fun i _ hi => h1 i (by omega)
  unfold viol
  split
  · rw [Int.toNat_natCast, e3]
  · rfl
theorem violK_none {n : Nat} {xs : List Int} {s i : Nat} (h3 : ∀ k', i < k' → k' < n → bad xs s i k' = false) : violK n xs s i = none :=
  fs_none _ _ fun j hj hjn => by rw [if_neg]; rw [h3 j (by omega) (by omega)]; decide
theorem violI_none {n : Nat} {xs : List Int} {s : Nat} (h2 : ∀ i', i' < n → violK n xs s i' = none) : violI n xs s = none := fs_none _ _ fun i _ hi => h2 i (by omega)
theorem viol_no {n : Int} {xs : List Int} (h : isFn n xs = false) : viol n xs = ([], false) := by
  unfold viol
  rw [if_neg (by rw [h]; decide)]
theorem viol_len (n : Int) (xs : List Int) : (viol n xs).1.length ≤ 3 := by
  unfold viol
  split
  · split
    · rename_i l h
      have : ∀ {α : Type} {P : α → Prop} {f : Nat → Option α} (hf : ∀ j v, f j = some v → P v) (c lo : Nat) (v : α), firstSome f c lo = some v → P v := by
        intro α P f hf c
        induction c with
        | zero => intro lo v hv; cases hv
        | succ c ih =>
          intro lo v hv
          rw [firstSome] at hv
          split at hv
          · rename_i u hu
            injection hv with hv
            subst hv
            exact hf lo _ hu
          · exact ih _ _ hv
      have hl : l.length ≤ 3 := this (P := fun l : List Int => l.length ≤ 3) (fun s v hv => this (P := fun l : List Int => l.length ≤ 3) (fun i v hv => this (P := fun l : List Int => l.length ≤ 3) (fun k v hv => by
        split at hv
        · injection hv with hv; subst hv; simp
        · cases hv) _ _ v hv) _ _ v hv) _ _ l h
      exact hl
    · simp
  · simp
/-- Whether it is submodular, increasing, and so on. -/
def isSub (n : Int) (xs : List Int) : Bool := isFn n xs && !(viol n xs).2
def isSuper (n : Int) (xs : List Int) : Bool := (scaleFn n xs (-1)).2.2 && isSub (scaleFn n xs (-1)).1 (scaleFn n xs (-1)).2.1
def isMod (n : Int) (xs : List Int) : Bool := isSub n xs && isSuper n xs
def isGround (n : Int) (xs : List Int) : Bool := isFn n xs && decide (xs.getD 0 0 = 0)
/-- No element takes from a set: all sets below s, all elements below i. -/
def incAt (xs : List Int) (s i : Nat) : Bool := decide (xs.getD s 0 ≤ xs.getD (s ||| 2 ^ i) 0)
def isInc (n : Int) (xs : List Int) : Bool := isFn n xs && (List.range xs.length).all fun s => (List.range n.toNat).all fun i => incAt xs s i
def isPoly (n : Int) (xs : List Int) : Bool := isGround n xs && (isInc n xs && isSub n xs)
/-- The weights of a set, added up. -/
def weigh (ws : List Int) (s : Nat) : Nat → Int
  | 0 => 0
  | i + 1 => if s.testBit i = true then weigh ws s i + ws.getD i 0 else weigh ws s i
def modFn (ws : List Int) (c : Int) : Int × List Int × Bool :=
  if ws.length ≤ 5 ∧ -1000 ≤ c ∧ c ≤ 1000 ∧ ∀ x ∈ ws, -1000 ≤ x ∧ x ≤ 1000 then made (ws.length : Int) (tab (2 ^ ws.length) fun s => c + weigh ws s ws.length) else (0, [], false)
theorem modFn_len (ws : List Int) (c : Int) : (modFn ws c).2.1.length ≤ 32 := by
  unfold modFn; split <;> first | exact made_len _ _ | exact Nat.zero_le _

end Go.Proofs.YtfpoiiennlhphaaDoor.M

namespace Go.Proofs.YtfpoiiennlhphaaDoor.M
set_option linter.unusedVariables false

/-- Submodular: no set shows a violation. -/
theorem fs_all {α : Type} {f : Nat → Option α} : ∀ (c lo : Nat), firstSome f c lo = none → ∀ i, lo ≤ i → i < lo + c → f i = none
  | 0, lo, _, i, h1, h2 => absurd h2 (by omega)
  | c + 1, lo, h, i, h1, h2 => by
    rw [firstSome] at h
    cases hf : f lo with
    | some v => rw [hf] at h; cases h
    | none =>
      rw [hf] at h
      by_cases e : lo = i
      · subst e; exact hf
      · exact fs_all c (lo + 1) h i (by omega) (by omega)
theorem sub_iff {n : Nat} {xs : List Int} : isSub (n : Int) xs = true ↔ isFn (n : Int) xs = true ∧ ∀ s i k, s < xs.length → i < n → k < n → i < k → bad xs s i k = false := by
  unfold isSub
  constructor
  · intro h
    simp only [Bool.and_eq_true, Bool.not_eq_true'] at h
    obtain ⟨hf, hv⟩ := h
    refine ⟨hf, fun s i k hs hi hk hik => ?_⟩
    unfold viol at hv
    rw [if_pos hf, Int.toNat_natCast] at hv
    have h1 : violS n xs = none := by
      cases h : violS n xs with
      | none => rfl
      | some l => rw [h] at hv; cases hv
    have h2 := fs_all _ _ h1 s (by omega) (by omega)
    have h3 := fs_all _ _ h2 i (by omega) (by omega)
    have h4 := fs_all _ _ h3 k (by omega) (by omega)
    cases hb : bad xs s i k
    · rfl
    · rw [hb] at h4; cases h4
  · rintro ⟨hf, h⟩
    rw [hf, viol_none (n := n) (xs := xs) fun s hs => violI_none fun i hi => violK_none fun k hik hk => h s i k hs hi hk hik]
    rfl
theorem bad_false {n : Nat} {xs : List Int} {s i k : Nat} (h : bad xs s i k = false) (h1 : s.testBit i = false) (h2 : s.testBit k = false) : xs.getD (s ||| 2 ^ i ||| 2 ^ k) 0 + xs.getD s 0 ≤ xs.getD (s ||| 2 ^ i) 0 + xs.getD (s ||| 2 ^ k) 0 := by
  unfold bad at h
  rw [h1, h2] at h
  simpa using h

end Go.Proofs.YtfpoiiennlhphaaDoor.M

namespace Go.Proofs.YtfpoiiennlhphaaDoor.M
set_option linter.unusedVariables false

/-- Elements that add nothing to s are added. -/
def addZ (xs : List Int) (s : Nat) : Nat → Nat
  | 0 => s
  | e + 1 => if xs.getD (s ||| 2 ^ e) 0 = xs.getD s 0 then addZ xs s e ||| 2 ^ e else addZ xs s e
def clos (n : Nat) (xs : List Int) (s : Nat) : Nat := addZ xs s n
def closureOf (n : Int) (xs : List Int) (s : Int) : Int := if isPoly n xs = true ∧ isSet n s = true then ((clos n.toNat xs s.toNat : Nat) : Int) else -1
def isFlat (n : Int) (xs : List Int) (s : Int) : Bool := decide (0 ≤ s) && decide (closureOf n xs s = s)
/-- The flats below m. -/
def flatsTo (n : Nat) (xs : List Int) : Nat → List Int
  | 0 => []
  | m + 1 => if clos n xs m = m then flatsTo n xs m ++ [(m : Int)] else flatsTo n xs m
def flatsOf (n : Int) (xs : List Int) : List Int × Bool := if isPoly n xs = true then (flatsTo n.toNat xs xs.length, true) else ([], false)
theorem flatsTo_len (n : Nat) (xs : List Int) : ∀ m, (flatsTo n xs m).length ≤ m
  | 0 => Nat.le_refl _
  | m + 1 => by
    have := flatsTo_len n xs m
    unfold flatsTo
    split
    · rw [List.length_append]; simp; omega
    · omega

/-- What is asked of a polymatroid, of its values alone. -/
structure Pol (n : Nat) (xs : List Int) : Prop where
  fn : isFn (n : Int) xs = true
  len : xs.length = 2 ^ n
  zero : xs.getD 0 0 = 0
  inc : ∀ s i, s < 2 ^ n → i < n → xs.getD s 0 ≤ xs.getD (s ||| 2 ^ i) 0
  sub : ∀ s i k, s < 2 ^ n → i < n → k < n → i ≠ k → s.testBit i = false → s.testBit k = false → xs.getD (s ||| 2 ^ i ||| 2 ^ k) 0 + xs.getD s 0 ≤ xs.getD (s ||| 2 ^ i) 0 + xs.getD (s ||| 2 ^ k) 0
theorem or_swap (s a b : Nat) : s ||| a ||| b = s ||| b ||| a := by
  apply Nat.eq_of_testBit_eq; intro q
  simp only [Nat.testBit_or]
  cases s.testBit q <;> cases a.testBit q <;> cases b.testBit q <;> rfl
theorem pol_of {n : Nat} {xs : List Int} (h : isPoly (n : Int) xs = true) : Pol n xs := by
  unfold isPoly isGround isInc at h
  simp only [Bool.and_eq_true, decide_eq_true_eq] at h
  obtain ⟨⟨hf, h0⟩, ⟨-, hi⟩, hs⟩ := h
  obtain ⟨-, -, hl, -⟩ := isFn_yes hf
  rw [Int.toNat_natCast] at hl hi
  refine ⟨hf, hl, h0, fun s i hs' hi' => ?_, fun s i k hs' hi' hk' hne t1 t2 => ?_⟩
  · have h1 := List.all_eq_true.1 hi s (List.mem_range.2 (by omega))
    have h2 := List.all_eq_true.1 h1 i (List.mem_range.2 hi')
    unfold incAt at h2
    exact of_decide_eq_true h2
  · rcases Nat.lt_or_gt_of_ne hne with hlt | hlt
    · exact bad_false (n := n) ((sub_iff.1 hs).2 s i k (by omega) hi' hk' hlt) t1 t2
    · have := bad_false (n := n) ((sub_iff.1 hs).2 s k i (by omega) hk' hi' hlt) t2 t1
      rw [or_swap] at this
      omega
theorem or_bit {s i : Nat} (h : s.testBit i = true) : s ||| 2 ^ i = s := by
  apply Nat.eq_of_testBit_eq; intro q
  rw [Nat.testBit_or, Nat.testBit_two_pow]
  by_cases e : i = q
  · subst e; simp [h]
  · simp [e]
theorem or_low (S D j : Nat) : S ||| D % 2 ^ (j + 1) = if D.testBit j = true then (S ||| D % 2 ^ j) ||| 2 ^ j else S ||| D % 2 ^ j := by
  apply Nat.eq_of_testBit_eq; intro q
  by_cases h : D.testBit j = true
  · rw [if_pos h]
    simp only [Nat.testBit_or, Nat.testBit_mod_two_pow, Nat.testBit_two_pow]
    by_cases e : j = q
    · subst e; simp [h]
    · have : decide (q < j + 1) = decide (q < j) := by rw [decide_eq_decide]; omega
      rw [this]; simp [e]
  · rw [if_neg h]
    simp only [Nat.testBit_or, Nat.testBit_mod_two_pow]
    by_cases e : j = q
    · subst e; simp [h]
    · have : decide (q < j + 1) = decide (q < j) := by rw [decide_eq_decide]; omega
      rw [this]
theorem or_lt {n S i : Nat} (hS : S < 2 ^ n) (hi : i < n) : S ||| 2 ^ i < 2 ^ n := Nat.or_lt_two_pow hS (Nat.pow_lt_pow_right (by decide) hi)
theorem low_lt {n S D : Nat} (hS : S < 2 ^ n) (hD : D < 2 ^ n) (j : Nat) : S ||| D % 2 ^ j < 2 ^ n := Nat.or_lt_two_pow hS (Nat.lt_of_le_of_lt (Nat.mod_le _ _) hD)

section

variable {n : Nat} {xs : List Int} (p : Pol n xs)
include p
theorem Pol.gain_low {S D e : Nat} (hS : S < 2 ^ n) (hD : D < 2 ^ n) (he : e < n) : ∀ j, j ≤ n → xs.getD ((S ||| D % 2 ^ j) ||| 2 ^ e) 0 + xs.getD S 0 ≤ xs.getD (S ||| D % 2 ^ j) 0 + xs.getD (S ||| 2 ^ e) 0
  | 0, _ => by rw [Nat.pow_zero, Nat.mod_one, Nat.or_zero]; omega
  | j + 1, hj => by
    have ih := Pol.gain_low hS hD he j (by omega)
    have hT := low_lt hS hD j
    rw [or_low]
    split
    · generalize S ||| D % 2 ^ j = T at ih hT ⊢
      have hiS := p.inc S e hS he
      by_cases t1 : T.testBit j = true
      · rwa [or_bit t1]
      · by_cases t2 : T.testBit e = true
        · have : T ||| 2 ^ j ||| 2 ^ e = T ||| 2 ^ j := by rw [or_swap, or_bit t2]
          rw [this]; omega
        · by_cases hje : j = e
          · subst hje
            have : T ||| 2 ^ j ||| 2 ^ j = T ||| 2 ^ j := or_bit (by rw [Nat.testBit_or, Nat.testBit_two_pow]; simp)
            rw [this]; omega
          · have := p.sub T j e hT (by omega) he hje (by simpa using t1) (by simpa using t2)
            omega
    · exact ih
theorem Pol.mono_low {S D : Nat} (hS : S < 2 ^ n) (hD : D < 2 ^ n) : ∀ j, j ≤ n → xs.getD S 0 ≤ xs.getD (S ||| D % 2 ^ j) 0
  | 0, _ => by rw [Nat.pow_zero, Nat.mod_one, Nat.or_zero]; omega
  | j + 1, hj => by
    have ih := Pol.mono_low hS hD j (by omega)
    rw [or_low]
    split
    · have := p.inc (S ||| D % 2 ^ j) j (low_lt hS hD j) (by omega)
      omega
    · exact ih
/-- What an element adds does not grow with the set. -/
theorem Pol.gain {S T e : Nat} (hS : S < 2 ^ n) (hT : T < 2 ^ n) (h : S ||| T = T) (he : e < n) : xs.getD (T ||| 2 ^ e) 0 + xs.getD S 0 ≤ xs.getD T 0 + xs.getD (S ||| 2 ^ e) 0 := by
  have := p.gain_low hS hT he n (Nat.le_refl _)
  rwa [Nat.mod_eq_of_lt hT, h] at this
theorem Pol.mono {S T : Nat} (hS : S < 2 ^ n) (hT : T < 2 ^ n) (h : S ||| T = T) : xs.getD S 0 ≤ xs.getD T 0 := by
  have := p.mono_low hS hT n (Nat.le_refl _)
  rwa [Nat.mod_eq_of_lt hT, h] at this
theorem Pol.zero_iff {S T e : Nat} (hS : S < 2 ^ n) (hT : T < 2 ^ n) (h : S ||| T = T) (hF : xs.getD T 0 = xs.getD S 0) (he : e < n) : xs.getD (T ||| 2 ^ e) 0 = xs.getD T 0 ↔ xs.getD (S ||| 2 ^ e) 0 = xs.getD S 0 := by
  have h1 := p.gain hS hT h he
  have h2 := p.inc S e hS he
  have h3 := p.inc T e hT he
  have h4 := p.mono (S := S ||| 2 ^ e) (T := T ||| 2 ^ e) (or_lt hS he) (or_lt hT he) (by
    apply Nat.eq_of_testBit_eq; intro q
    have := congrArg (fun x => x.testBit q) h
    simp only [Nat.testBit_or] at this ⊢
    cases hs : S.testBit q <;> cases ht : T.testBit q <;> cases (2 ^ e).testBit q <;> simp_all)
  constructor <;> intro _ <;> omega

end

theorem addZ_bit (xs : List Int) (s i : Nat) : ∀ e, (addZ xs s e).testBit i = (s.testBit i || (decide (i < e) && decide (xs.getD (s ||| 2 ^ i) 0 = xs.getD s 0)))
  | 0 => by simp [addZ]
  | e + 1 => by
    have ih := addZ_bit xs s i e
    have hd : ∀ (h : ¬ e = i), decide (i < e + 1) = decide (i < e) := fun h => by rw [decide_eq_decide]; omega
    show (if xs.getD (s ||| 2 ^ e) 0 = xs.getD s 0 then addZ xs s e ||| 2 ^ e else addZ xs s e).testBit i = _
    split
    · rename_i hz
      rw [Nat.testBit_or, Nat.testBit_two_pow, ih]
      by_cases h : e = i
      · subst h; rw [decide_eq_true hz]; simp
      · rw [hd h]; simp [h]
    · rename_i hz
      rw [ih]
      by_cases h : e = i
      · subst h; rw [decide_eq_false hz]; simp
      · rw [hd h]
theorem addZ_lt {n : Nat} (xs : List Int) {s : Nat} (hs : s < 2 ^ n) : ∀ e, e ≤ n → addZ xs s e < 2 ^ n
  | 0, _ => hs
  | e + 1, he => by
    have ih := addZ_lt xs hs e (by omega)
    unfold addZ
    split
    · exact or_lt ih (by omega)
    · exact ih
theorem addZ_sup (xs : List Int) (s e : Nat) : s ||| addZ xs s e = addZ xs s e := by
  apply Nat.eq_of_testBit_eq; intro q
  rw [Nat.testBit_or, addZ_bit]
  cases s.testBit q <;> simp

section

variable {n : Nat} {xs : List Int} (p : Pol n xs)
include p
theorem Pol.addZ_val {s : Nat} (hs : s < 2 ^ n) : ∀ e, e ≤ n → xs.getD (addZ xs s e) 0 = xs.getD s 0
  | 0, _ => rfl
  | e + 1, he => by
    have ih := Pol.addZ_val hs e (by omega)
    unfold addZ
    split
    · rename_i hz
      rw [(p.zero_iff hs (addZ_lt xs hs e (by omega)) (addZ_sup xs s e) ih (by omega)).2 hz, ih]
    · exact ih
theorem Pol.addZ_add {s e : Nat} (hs : s < 2 ^ n) (he : e < n) (h : xs.getD (addZ xs s e ||| 2 ^ e) 0 = xs.getD (addZ xs s e) 0) : addZ xs s (e + 1) = addZ xs s e ||| 2 ^ e := by
  have hz := (p.zero_iff hs (addZ_lt xs hs e (by omega)) (addZ_sup xs s e) (p.addZ_val hs e (by omega)) he).1 h
  show (if _ then _ else _) = _
  rw [if_pos hz]
theorem Pol.addZ_keep {s e : Nat} (hs : s < 2 ^ n) (he : e < n) (h : (addZ xs s e).testBit e = true ∨ xs.getD (addZ xs s e ||| 2 ^ e) 0 ≠ xs.getD (addZ xs s e) 0) : addZ xs s (e + 1) = addZ xs s e := by
  show (if xs.getD (s ||| 2 ^ e) 0 = xs.getD s 0 then addZ xs s e ||| 2 ^ e else addZ xs s e) = _
  split
  · rename_i hz
    rcases h with h | h
    · exact or_bit h
    · exact absurd ((p.zero_iff hs (addZ_lt xs hs e (by omega)) (addZ_sup xs s e) (p.addZ_val hs e (by omega)) he).2 hz) h
  · rfl
theorem Pol.clos_fix {s : Nat} (hs : s < 2 ^ n) (e : Nat) (he : e ≤ n) : addZ xs (clos n xs s) e = clos n xs s := by
  apply Nat.eq_of_testBit_eq; intro q
  rw [addZ_bit]
  by_cases hq : q < e ∧ xs.getD (clos n xs s ||| 2 ^ q) 0 = xs.getD (clos n xs s) 0
  · obtain ⟨h1, h2⟩ := hq
    have hz := (p.zero_iff hs (addZ_lt xs hs n (Nat.le_refl _)) (addZ_sup xs s n) (p.addZ_val hs n (Nat.le_refl _)) (by omega : q < n)).1 h2
    have : (clos n xs s).testBit q = true := by
      unfold clos; rw [addZ_bit, decide_eq_true hz, decide_eq_true (by omega : q < n)]; simp
    rw [this]; simp
  · have : (decide (q < e) && decide (xs.getD (clos n xs s ||| 2 ^ q) 0 = xs.getD (clos n xs s) 0)) = false := by
      rw [Bool.and_eq_false_iff]
      by_cases h1 : q < e
      · exact .inr (decide_eq_false fun h2 => hq ⟨h1, h2⟩)
      · exact .inl (decide_eq_false h1)
    rw [this, Bool.or_false]
theorem Pol.clos_clos {s : Nat} (hs : s < 2 ^ n) : clos n xs (clos n xs s) = clos n xs s := p.clos_fix hs n (Nat.le_refl _)
/-- Flats have their common elements. -/
theorem Pol.flat_and {a b : Nat} (ha : a < 2 ^ n) (hb : b < 2 ^ n) (fa : clos n xs a = a) (fb : clos n xs b = b) : clos n xs (a &&& b) = a &&& b := by
  have hab : a &&& b < 2 ^ n := Nat.lt_of_le_of_lt Nat.and_le_left ha
  have key : ∀ c, c < 2 ^ n → clos n xs c = c → (a &&& b) ||| c = c → ∀ q, q < n → xs.getD ((a &&& b) ||| 2 ^ q) 0 = xs.getD (a &&& b) 0 → c.testBit q = true := fun c hc fc hs q hq hz => by
    have h1 := p.gain hab hc hs hq
    have h2 := p.inc c q hc hq
    rw [← fc]
    unfold clos
    rw [addZ_bit]
    have : xs.getD (c ||| 2 ^ q) 0 = xs.getD c 0 := by omega
    rw [decide_eq_true hq, decide_eq_true this]; simp
  apply Nat.eq_of_testBit_eq; intro q
  unfold clos
  rw [addZ_bit]
  by_cases hq : q < n ∧ xs.getD ((a &&& b) ||| 2 ^ q) 0 = xs.getD (a &&& b) 0
  · have k1 := key a ha fa (by apply Nat.eq_of_testBit_eq; intro r; rw [Nat.testBit_or, Nat.testBit_and]; cases a.testBit r <;> simp) q hq.1 hq.2
    have k2 := key b hb fb (by apply Nat.eq_of_testBit_eq; intro r; rw [Nat.testBit_or, Nat.testBit_and]; cases a.testBit r <;> cases b.testBit r <;> rfl) q hq.1 hq.2
    rw [Nat.testBit_and, k1, k2]; simp
  · have : (decide (q < n) && decide (xs.getD ((a &&& b) ||| 2 ^ q) 0 = xs.getD (a &&& b) 0)) = false := by
      rw [Bool.and_eq_false_iff]
      by_cases h1 : q < n
      · exact .inr (decide_eq_false fun h2 => hq ⟨h1, h2⟩)
      · exact .inl (decide_eq_false h1)
    rw [this, Bool.or_false]

end


end Go.Proofs.YtfpoiiennlhphaaDoor.M

namespace Go.Proofs.YtfpoiiennlhphaaDoor.M
set_option linter.unusedVariables false

/-- How many ones x has, of f places. -/
def onesF : Nat → Nat → Nat
  | 0, _ => 0
  | f + 1, x => x % 2 + onesF f (x / 2)
/-- The size of a set of at most ten elements. -/
def ones (x : Nat) : Nat := onesF 10 x
theorem onesF_le : ∀ f x, onesF f x ≤ f
  | 0, _ => Nat.le_refl _
  | f + 1, x => by
    have := onesF_le f (x / 2)
    unfold onesF
    omega
theorem onesF_zero : ∀ f, onesF f 0 = 0
  | 0 => rfl
  | f + 1 => by unfold onesF; simpa using onesF_zero f
theorem ones_le5 : ∀ n, n ≤ 5 → ∀ s, s < 2 ^ n → ones s ≤ n := by decide +kernel
theorem ones_full : ∀ k, k ≤ 5 → ones (2 ^ k - 1) = k := by decide +kernel
/-- The function of the size. -/
def sizeFn (v : List Int) : Int × List Int × Bool := if 1 ≤ v.length ∧ v.length ≤ 6 then made ((v.length - 1 : Nat) : Int) (tab (2 ^ (v.length - 1)) fun s => v.getD (ones s) 0) else (0, [], false)
theorem sizeFn_len (v : List Int) : (sizeFn v).2.1.length ≤ 32 := by
  unfold sizeFn; split <;> first | exact made_len _ _ | exact Nat.zero_le _
/-- The function of the size is made exactly if there are from 1 to 6 values, all within the range. -/
theorem sizeFn_is (v : List Int) : (sizeFn v).2.2 = decide (1 ≤ v.length ∧ v.length ≤ 6 ∧ ∀ k, k < v.length → -1000 ≤ v.getD k 0 ∧ v.getD k 0 ≤ 1000) := by
  by_cases h : 1 ≤ v.length ∧ v.length ≤ 6
  · obtain ⟨h1, h6⟩ := h
    obtain ⟨n, hn⟩ : ∃ n, v.length = n + 1 := ⟨v.length - 1, by omega⟩
    have key : isFn (n : Int) (tab (2 ^ n) fun s => v.getD (ones s) 0) = decide (1 ≤ v.length ∧ v.length ≤ 6 ∧ ∀ k, k < v.length → -1000 ≤ v.getD k 0 ∧ v.getD k 0 ≤ 1000) := by
      by_cases hv : ∀ k, k < v.length → -1000 ≤ v.getD k 0 ∧ v.getD k 0 ≤ 1000
      · rw [isFn_mk (by omega) (by omega) (by rw [tab_length, Int.toNat_natCast]) fun k hk => by
          rw [tab_length] at hk
          rw [tab_at _ hk]
          have := ones_le5 n (by omega) k hk
          exact hv _ (by omega)]
        exact (decide_eq_true ⟨h1, h6, hv⟩).symm
      · rw [decide_eq_false fun hh => hv hh.2.2]
        cases hf : isFn (n : Int) (tab (2 ^ n) fun s => v.getD (ones s) 0)
        · rfl
        · exfalso
          refine hv fun k hk => ?_
          obtain ⟨_, _, _, hb⟩ := isFn_yes hf
          have hkn : k ≤ n := by omega
          have hp : 2 ^ k - 1 < 2 ^ n := by
            have h2 : 2 ^ k ≤ 2 ^ n := Nat.pow_le_pow_right (by decide) hkn
            have h3 := Nat.two_pow_pos k
            omega
          have := hb (2 ^ k - 1) (by rw [tab_length]; exact hp)
          rw [tab_at _ hp, ones_full k (by omega)] at this
          exact this
    unfold sizeFn
    rw [if_pos ⟨h1, h6⟩, ← key, hn, Nat.add_sub_cancel]
    unfold made
    split
    · rename_i e; exact e.symm
    · rename_i e; simpa using e
  · unfold sizeFn
    rw [if_neg h, decide_eq_false fun hh => h ⟨hh.1, hh.2.1⟩]
/-- The first one that is none. -/
theorem first_bad {p : Nat → Prop} {c : Nat} (h : ¬ ∀ k, k < c → p k) : ∃ j, j < c ∧ ¬ p j ∧ ∀ k, k < j → p k := by
  have key : ∀ c, (∀ k, k < c → p k) ∨ ∃ j, j < c ∧ ¬ p j ∧ ∀ k, k < j → p k := by
    intro c
    induction c with
    | zero => exact .inl fun k hk => absurd hk (by omega)
    | succ c ih =>
      rcases ih with h1 | ⟨j, hj, hb, hv⟩
      · by_cases hc : p c
        · exact .inl fun k hk => by
            by_cases e : k = c
            · subst e; exact hc
            · exact h1 k (by omega)
        · exact .inr ⟨c, by omega, hc, h1⟩
      · exact .inr ⟨j, by omega, hb, hv⟩
  rcases key c with h1 | h1
  · exact absurd h1 h
  · exact h1
/-- The differences do not grow. -/
def concaveTo (v : List Int) (c : Nat) : Prop := ∀ i, i < c → 2 ≤ i → v.getD i 0 - v.getD (i - 1) 0 ≤ v.getD (i - 1) 0 - v.getD (i - 2) 0
instance (v : List Int) (c : Nat) : Decidable (concaveTo v c) := by unfold concaveTo; infer_instance
def concave (v : List Int) : Bool := decide (1 ≤ v.length ∧ v.length ≤ 6 ∧ (∀ k, k < v.length → -1000 ≤ v.getD k 0 ∧ v.getD k 0 ≤ 1000) ∧ concaveTo v v.length)

end Go.Proofs.YtfpoiiennlhphaaDoor.M

namespace Go.Proofs.YtfpoiiennlhphaaDoor.M
set_option linter.unusedVariables false

/-- The places of x's ones, from place i on; f bounds how many places are looked at. -/
def elsF : Nat → Nat → Nat → List Int
  | 0, _, _ => []
  | f + 1, i, x => if x = 0 then [] else if x % 2 = 1 then (i : Int) :: elsF f (i + 1) (x / 2) else elsF f (i + 1) (x / 2)
theorem elsF_zero (f i : Nat) : elsF f i 0 = [] := by cases f <;> rfl
theorem elsF_odd {f i x : Nat} (h : x % 2 = 1) : elsF (f + 1) i x = (i : Int) :: elsF f (i + 1) (x / 2) := by
  simp only [elsF]
  rw [if_neg (by omega), if_pos h]
theorem elsF_even {f i x : Nat} (h0 : 0 < x) (h : ¬ x % 2 = 1) : elsF (f + 1) i x = elsF f (i + 1) (x / 2) := by
  simp only [elsF]
  rw [if_neg (by omega), if_neg h]
theorem elsF_len : ∀ f i x, (elsF f i x).length ≤ f
  | 0, _, _ => by simp [elsF]
  | f + 1, i, x => by
    have := elsF_len f (i + 1) (x / 2)
    simp only [elsF]
    split
    · simp
    · split
      · simp; omega
      · omega
/-- The elements of a set of at most ten. -/
def els (x : Nat) : List Int := elsF 10 0 x
theorem els_len (x : Nat) : (els x).length ≤ 10 := elsF_len 10 0 x
/-- The first one, and what is left without it: of every set of at most ten elements. -/
theorem els_low : ∀ x, x < 1024 → x ≠ 0 → els x = ((Lib.ctz 64 x : Nat) : Int) :: els (x &&& (x - 1)) := by decide +kernel
theorem els_less : ∀ x, x < 1024 → x ≠ 0 → (x &&& (x - 1)) < x := by decide +kernel
def elementsOf (n s : Int) : List Int := if 0 ≤ n ∧ n ≤ 10 ∧ isSet n s = true then els s.toNat else []
theorem elementsOf_len (n s : Int) : (elementsOf n s).length ≤ 10 := by
  unfold elementsOf
  split
  · exact els_len _
  · simp
theorem set_lt {n s : Int} (h0 : 0 ≤ n) (h10 : n ≤ 10) (hs : isSet n s = true) : ∃ S : Nat, s = (S : Int) ∧ S < 1024 := by
  obtain ⟨h1, h2⟩ := isSet_yes hs
  obtain ⟨S, rfl⟩ := Int.eq_ofNat_of_zero_le h1
  have : 2 ^ n.toNat ≤ 2 ^ 10 := Nat.pow_le_pow_right (by decide) (by omega)
  exact ⟨S, rfl, by omega⟩

end Go.Proofs.YtfpoiiennlhphaaDoor.M

namespace Go.Proofs.YtfpoiiennlhphaaDoor.M
set_option linter.unusedVariables false
set_option linter.unusedSimpArgs false

/-- The bits of a number put to listed elements. -/
def spread (l : List Int) (x : Nat) : Nat → Nat
  | 0 => 0
  | i + 1 => if x.testBit i = true then spread l x i ||| 2 ^ (l.getD i 0).toNat else spread l x i
def restV (xs : List Int) (s x : Nat) : Int := xs.getD (spread (els s) x (ones s)) 0
def restrictFn (n : Int) (xs : List Int) (s : Int) : Int × List Int × Bool := if isFn n xs = true ∧ isSet n s = true then (((ones s.toNat : Nat) : Int), tab (2 ^ ones s.toNat) (restV xs s.toNat), true) else (0, [], false)
/-- The elements of the first n that are not in s. -/
def compl (n s : Nat) : Nat := 2 ^ n - 1 - s
def contV (xs : List Int) (s r x : Nat) : Int := xs.getD (s ||| spread (els r) x (ones r)) 0 - xs.getD s 0
def contractFn (n : Int) (xs : List Int) (s : Int) : Int × List Int × Bool := if isFn n xs = true ∧ isSet n s = true then made ((ones (compl n.toNat s.toNat) : Nat) : Int) (tab (2 ^ ones (compl n.toNat s.toNat)) (contV xs s.toNat (compl n.toNat s.toNat))) else (0, [], false)
def oppV (xs : List Int) (s : Nat) : Int := xs.getD (xs.length - 1 - s) 0
def oppositeFn (n : Int) (xs : List Int) : Int × List Int × Bool := if isFn n xs = true then (n, tab xs.length (oppV xs), true) else (0, [], false)
def dualV (xs ws : List Int) (s : Nat) : Int := weigh ws s ws.length + xs.getD (xs.length - 1 - s) 0 - xs.getD (xs.length - 1) 0
def weightsOk (ws : List Int) : Prop := ∀ k, k < ws.length → -1000 ≤ ws.getD k 0 ∧ ws.getD k 0 ≤ 1000
instance (ws : List Int) : Decidable (weightsOk ws) := by unfold weightsOk; infer_instance
def dualFn (n : Int) (xs ws : List Int) : Int × List Int × Bool := if isFn n xs = true ∧ (ws.length : Int) = n ∧ weightsOk ws then made n (tab xs.length (dualV xs ws)) else (0, [], false)

theorem ones_els : ∀ s, s < 32 → (els s).length = ones s := by decide +kernel
theorem els_ok : ∀ s, s < 32 → ∀ j, j < (els s).length → 0 ≤ (els s).getD j 0 ∧ s.testBit ((els s).getD j 0).toNat = true ∧ ∀ k, k < j → (els s).getD k 0 < (els s).getD j 0 := by decide +kernel
theorem ones_le : ∀ n, n ≤ 5 → ∀ s, s < 2 ^ n → ones s ≤ n := ones_le5
theorem compl_lt {n s : Nat} : compl n s < 2 ^ n := by
  have := Nat.two_pow_pos n
  unfold compl; omega
theorem compl_bit {n s i : Nat} (hs : s < 2 ^ n) : (compl n s).testBit i = (decide (i < n) && !s.testBit i) := by
  have := Nat.testBit_two_pow_sub_succ hs i
  rwa [show 2 ^ n - (s + 1) = compl n s by unfold compl; omega] at this
theorem restrict_len {n : Int} {xs : List Int} {s : Int} : (restrictFn n xs s).2.1.length ≤ 32 := by
  unfold restrictFn
  split
  · rename_i h
    obtain ⟨h0, h5, -, -⟩ := isFn_yes h.1
    obtain ⟨h1, h2⟩ := isSet_yes h.2
    have h3 := ones_le5 n.toNat (by omega) s.toNat (by omega)
    have h4 : 2 ^ ones s.toNat ≤ 2 ^ 5 := Nat.pow_le_pow_right (by decide) (by omega)
    show (tab _ _).length ≤ 32
    rw [tab_length]; omega
  · exact Nat.zero_le _
theorem contract_len (n : Int) (xs : List Int) (s : Int) : (contractFn n xs s).2.1.length ≤ 32 := by
  unfold contractFn; split <;> first | exact made_len _ _ | exact Nat.zero_le _
theorem opposite_len (n : Int) (xs : List Int) : (oppositeFn n xs).2.1.length ≤ 32 := by
  unfold oppositeFn
  split
  · rename_i h
    show (tab _ _).length ≤ 32
    rw [tab_length]; exact (isFn_len h).2
  · exact Nat.zero_le _
theorem dual_len (n : Int) (xs ws : List Int) : (dualFn n xs ws).2.1.length ≤ 32 := by
  unfold dualFn; split <;> first | exact made_len _ _ | exact Nat.zero_le _

-- the spread
theorem spread_lt {n : Nat} {l : List Int} {x : Nat} : ∀ m, (∀ j, j < m → (l.getD j 0).toNat < n) → spread l x m < 2 ^ n
  | 0, _ => Nat.two_pow_pos n
  | m + 1, h => by
    have ih := spread_lt (x := x) m fun j hj => h j (by omega)
    unfold spread
    split
    · exact or_lt ih (h m (by omega))
    · exact ih
theorem spread_zero (l : List Int) : ∀ m, spread l 0 m = 0
  | 0 => rfl
  | m + 1 => by
    unfold spread
    rw [Nat.zero_testBit, if_neg (by decide)]
    exact spread_zero l m
theorem or_testBit (x i q : Nat) : (x ||| 2 ^ i).testBit q = (x.testBit q || decide (i = q)) := by rw [Nat.testBit_or, Nat.testBit_two_pow]
theorem spread_low (l : List Int) (x i : Nat) : ∀ m, m ≤ i → spread l (x ||| 2 ^ i) m = spread l x m
  | 0, _ => rfl
  | m + 1, h => by
    have ih := spread_low l x i m (by omega)
    unfold spread
    rw [or_testBit, decide_eq_false (by omega), Bool.or_false, ih]
theorem spread_or (l : List Int) (x i : Nat) : ∀ m, i < m → spread l (x ||| 2 ^ i) m = spread l x m ||| 2 ^ (l.getD i 0).toNat
  | 0, h => absurd h (by omega)
  | m + 1, h => by
    unfold spread
    rw [or_testBit]
    by_cases e : i = m
    · subst e
      rw [spread_low l x i i (Nat.le_refl _), decide_eq_true rfl, Bool.or_true, if_pos rfl]
      split
      · exact (or_bit (by rw [or_testBit]; simp)).symm
      · rfl
    · rw [spread_or l x i m (by omega), decide_eq_false e, Bool.or_false]
      split
      · rw [or_swap]
      · rfl
theorem spread_no {l : List Int} {x i : Nat} (hx : x.testBit i = false) : ∀ m, (∀ j, j < m → j ≠ i → (l.getD j 0).toNat ≠ (l.getD i 0).toNat) → (spread l x m).testBit (l.getD i 0).toNat = false
  | 0, _ => Nat.zero_testBit _
  | m + 1, h => by
    have ih := spread_no hx m fun j hj => h j (by omega)
    unfold spread
    split
    · rename_i ht
      have hne : m ≠ i := fun e => by subst e; rw [hx] at ht; cases ht
      rw [or_testBit, ih, decide_eq_false (h m (by omega) hne)]; rfl
    · exact ih
/-- The elements that spread a number: apart, below n, none in the base. -/
structure Lies (n : Nat) (l : List Int) (m S : Nat) : Prop where
  below : ∀ j, j < m → (l.getD j 0).toNat < n
  apart : ∀ j k, j < m → k < m → j ≠ k → (l.getD j 0).toNat ≠ (l.getD k 0).toNat
  out : ∀ j, j < m → S.testBit (l.getD j 0).toNat = false
theorem lies_els {n s S : Nat} (h5 : n ≤ 5) (hs : s < 2 ^ n) (ho : ∀ q, s.testBit q = true → S.testBit q = false) : Lies n (els s) (ones s) S := by
  have h32 : s < 32 := Nat.lt_of_lt_of_le hs (Nat.le_trans (Nat.pow_le_pow_right (by decide) h5) (by decide))
  have hl := ones_els s h32
  refine ⟨fun j hj => ?_, fun j k hj hk hne => ?_, fun j hj => ?_⟩
  · obtain ⟨-, h2, -⟩ := els_ok s h32 j (by omega)
    refine Nat.lt_of_not_le fun hge => ?_
    rw [Nat.testBit_lt_two_pow (Nat.lt_of_lt_of_le hs (Nat.pow_le_pow_right (by decide) hge))] at h2
    cases h2
  · obtain ⟨j0, -, j2⟩ := els_ok s h32 j (by omega)
    obtain ⟨k0, -, k2⟩ := els_ok s h32 k (by omega)
    rcases Nat.lt_or_gt_of_ne hne with h | h
    · have := k2 j h; omega
    · have := j2 k h; omega
  · exact ho _ (els_ok s h32 j (by omega)).2.1
/-- Where f is submodular, so is what it is on the spread of numbers over a base. -/
theorem spread_sub {n : Nat} {xs : List Int} (h : isSub (n : Int) xs = true) {l : List Int} {m S : Nat} (hl : Lies n l m S) (hS : S < 2 ^ n) (c : Int) {x i k : Nat} (hx : x < 2 ^ m) (hi : i < m) (hk : k < m) (hik : i < k) : bad (tab (2 ^ m) fun x => xs.getD (S ||| spread l x m) 0 - c) x i k = false := by
  obtain ⟨hf, hsub⟩ := sub_iff.1 h
  obtain ⟨-, -, hlen, -⟩ := isFn_yes hf
  rw [Int.toNat_natCast] at hlen
  have b1 := or_lt hx hi
  have b2 := or_lt hx hk
  have b3 := or_lt b1 hk
  unfold bad
  rw [tab_at _ hx, tab_at _ b1, tab_at _ b2, tab_at _ b3]
  cases t1 : x.testBit i
  · cases t2 : x.testBit k
    · have hT : S ||| spread l x m < 2 ^ n := Nat.or_lt_two_pow hS (spread_lt m hl.below)
      have u1 : (S ||| spread l x m).testBit (l.getD i 0).toNat = false := by
        rw [Nat.testBit_or, hl.out i hi, spread_no t1 m fun j hj hne => hl.apart j i hj hi hne]; rfl
      have u2 : (S ||| spread l x m).testBit (l.getD k 0).toNat = false := by
        rw [Nat.testBit_or, hl.out k hk, spread_no t2 m fun j hj hne => hl.apart j k hj hk hne]; rfl
      rw [spread_or l (x ||| 2 ^ i) k m hk, spread_or l x i m hi, spread_or l x k m hk]
      simp only [← Nat.or_assoc]
      have hne := hl.apart i k hi hk (by omega)
      have bi := hl.below i hi
      have bk := hl.below k hk
      generalize (l.getD i 0).toNat = I at *
      generalize (l.getD k 0).toNat = K at *
      generalize S ||| spread l x m = T at *
      have key : xs.getD (T ||| 2 ^ I ||| 2 ^ K) 0 + xs.getD T 0 ≤ xs.getD (T ||| 2 ^ I) 0 + xs.getD (T ||| 2 ^ K) 0 := by
        rcases Nat.lt_or_gt_of_ne hne with h | h
        · exact bad_false (n := n) (hsub T I K (by omega) bi bk h) u1 u2
        · have := bad_false (n := n) (hsub T K I (by omega) bk bi h) u2 u1
          rw [or_swap] at this
          omega
      simp only [Bool.not_false, Bool.true_and, decide_eq_false_iff_not]
      omega
    · simp
  · simp
theorem restV_eq (xs : List Int) (s : Nat) : restV xs s = fun x => xs.getD (0 ||| spread (els s) x (ones s)) 0 - 0 := by
  funext x
  unfold restV
  rw [Nat.zero_or]
  omega
theorem restrict_fn {n : Int} {xs : List Int} {s : Int} (hf : isFn n xs = true) (hs : isSet n s = true) : isFn ((ones s.toNat : Nat) : Int) (tab (2 ^ ones s.toNat) (restV xs s.toNat)) = true := by
  obtain ⟨h0, h5, hl, hv⟩ := isFn_yes hf
  obtain ⟨s0, s1⟩ := isSet_yes hs
  have hs' : s.toNat < 2 ^ n.toNat := by omega
  have ho := ones_le5 n.toNat (by omega) s.toNat hs'
  refine isFn_mk (by omega) (by omega) (by rw [tab_length, Int.toNat_natCast]) fun k hk => ?_
  rw [tab_length] at hk
  rw [tab_at _ hk]
  exact hv _ (by
    rw [hl]
    exact spread_lt _ (lies_els (S := 0) (by omega) hs' fun q _ => Nat.zero_testBit q).below)
theorem restrict_made {n : Int} {xs : List Int} {s : Int} (hf : isFn n xs = true) (hs : isSet n s = true) : restrictFn n xs s = made ((ones s.toNat : Nat) : Int) (tab (2 ^ ones s.toNat) (restV xs s.toNat)) := by
  unfold restrictFn made
  rw [if_pos ⟨hf, hs⟩, if_pos (restrict_fn hf hs)]
/-- Restrictions of submodular functions are submodular. -/
theorem restrict_sub {n : Int} {xs : List Int} {s : Int} (h : isSub n xs = true) (hs : isSet n s = true) : isSub (restrictFn n xs s).1 (restrictFn n xs s).2.1 = true := by
  have hf : isFn n xs = true := by unfold isSub at h; simp only [Bool.and_eq_true] at h; exact h.1
  obtain ⟨h0, h5, -, -⟩ := isFn_yes hf
  obtain ⟨s0, s1⟩ := isSet_yes hs
  obtain ⟨N, rfl⟩ := Int.eq_ofNat_of_zero_le h0
  rw [Int.toNat_natCast] at s1
  have hr := restrict_fn hf hs
  unfold restrictFn
  rw [if_pos ⟨hf, hs⟩]
  refine sub_iff.2 ⟨hr, fun x i k hx hi hk hik => ?_⟩
  rw [tab_length] at hx
  rw [restV_eq]
  exact spread_sub h (lies_els (by omega) (by omega) fun q _ => Nat.zero_testBit q) (Nat.two_pow_pos N) 0 hx hi hk hik
/-- Contractions of submodular functions are submodular and give 0 to the empty set. -/
theorem contract_sub {n : Int} {xs : List Int} {s : Int} (h : isSub n xs = true) (hs : isSet n s = true) (ht : (contractFn n xs s).2.2 = true) : isSub (contractFn n xs s).1 (contractFn n xs s).2.1 = true ∧ isGround (contractFn n xs s).1 (contractFn n xs s).2.1 = true := by
  have hf : isFn n xs = true := by unfold isSub at h; simp only [Bool.and_eq_true] at h; exact h.1
  obtain ⟨h0, h5, -, -⟩ := isFn_yes hf
  obtain ⟨s0, s1⟩ := isSet_yes hs
  obtain ⟨N, rfl⟩ := Int.eq_ofNat_of_zero_le h0
  rw [Int.toNat_natCast] at s1
  unfold contractFn at ht ⊢
  rw [if_pos ⟨hf, hs⟩, Int.toNat_natCast] at ht ⊢
  unfold made at ht ⊢
  split at ht
  · rename_i hm
    rw [if_pos hm]
    refine ⟨sub_iff.2 ⟨hm, fun x i k hx hi hk hik => ?_⟩, ?_⟩
    · rw [tab_length] at hx
      refine spread_sub h (lies_els (by omega) compl_lt fun q hq => ?_) (by omega) _ hx hi hk hik
      rw [compl_bit (by omega)] at hq
      simpa using (Bool.and_eq_true_iff.1 hq).2
    · show (isFn _ _ && decide _) = true
      rw [hm, tab_at _ (Nat.two_pow_pos _)]
      unfold contV
      rw [spread_zero, Nat.or_zero]
      simp
  · cases ht
-- opposite functions
theorem compl_two {n s i k : Nat} (hs : s < 2 ^ n) (hi : i < n) (hk : k < n) (hne : i ≠ k) (t1 : s.testBit i = false) (t2 : s.testBit k = false) :
    compl n s = compl n (s ||| 2 ^ i ||| 2 ^ k) ||| 2 ^ i ||| 2 ^ k ∧ compl n (s ||| 2 ^ i) = compl n (s ||| 2 ^ i ||| 2 ^ k) ||| 2 ^ k ∧ compl n (s ||| 2 ^ k) = compl n (s ||| 2 ^ i ||| 2 ^ k) ||| 2 ^ i := by
  have b1 := or_lt hs hi
  have b2 := or_lt hs hk
  have b3 := or_lt b1 hk
  refine ⟨?_, ?_, ?_⟩ <;>
    (apply Nat.eq_of_testBit_eq; intro q
     simp only [or_testBit, compl_bit hs, compl_bit b1, compl_bit b2, compl_bit b3]
     by_cases e1 : i = q
     · subst e1
       simp [hi, t1, hne, Ne.symm hne]
     · by_cases e2 : k = q
       · subst e2
         simp [hk, t2, hne, e1]
       · simp [e1, e2])
theorem opp_at {n s : Nat} {xs : List Int} (hl : xs.length = 2 ^ n) (hs : s < 2 ^ n) : (tab xs.length (oppV xs)).getD s 0 = xs.getD (compl n s) 0 := by
  rw [tab_at _ (by omega)]
  unfold oppV compl
  rw [hl]
theorem opp_bad {n s i k : Nat} {xs ys : List Int} (hv : ∀ s, s < 2 ^ n → ys.getD s 0 = xs.getD (compl n s) 0) (hs : s < 2 ^ n) (hi : i < n) (hk : k < n) (hne : i ≠ k) (t1 : s.testBit i = false) (t2 : s.testBit k = false) :
    bad ys s i k = bad xs (compl n (s ||| 2 ^ i ||| 2 ^ k)) i k := by
  have b1 := or_lt hs hi
  have b2 := or_lt hs hk
  have b3 := or_lt b1 hk
  obtain ⟨c1, c2, c3⟩ := compl_two hs hi hk hne t1 t2
  unfold bad
  rw [hv s hs, hv _ b1, hv _ b2, hv _ b3, c1, c2, c3, compl_bit b3, compl_bit b3, t1, t2]
  simp only [or_testBit]
  simp
  constructor <;> intro _ <;> omega
theorem opp_sub_of {n : Nat} {xs ys : List Int} (hv : ∀ s, s < 2 ^ n → ys.getD s 0 = xs.getD (compl n s) 0) (hy : isFn (n : Int) ys = true) (h : isSub (n : Int) xs = true) : isSub (n : Int) ys = true := by
  obtain ⟨hf, hsub⟩ := sub_iff.1 h
  obtain ⟨-, -, hl, -⟩ := isFn_yes hf
  obtain ⟨-, -, hl2, -⟩ := isFn_yes hy
  rw [Int.toNat_natCast] at hl hl2
  refine sub_iff.2 ⟨hy, fun s i k hs hi hk hik => ?_⟩
  cases t1 : s.testBit i
  · cases t2 : s.testBit k
    · rw [opp_bad hv (by omega) hi hk (by omega) t1 t2]
      exact hsub _ i k (by rw [hl]; exact compl_lt) hi hk hik
    · unfold bad; rw [t1, t2]; rfl
  · unfold bad; rw [t1]; rfl
theorem compl_compl {n s : Nat} (hs : s < 2 ^ n) : compl n (compl n s) = s := by unfold compl; omega
theorem opposite_fn {n : Int} {xs : List Int} (hf : isFn n xs = true) : isFn n (tab xs.length (oppV xs)) = true := by
  obtain ⟨h0, h5, hl, hv⟩ := isFn_yes hf
  have h1 := isFn_len hf
  refine isFn_mk h0 h5 (by rw [tab_length]; exact hl) fun k hk => ?_
  rw [tab_length] at hk
  rw [tab_at _ hk]
  exact hv _ (by omega)
theorem opposite_made {n : Int} {xs : List Int} (hf : isFn n xs = true) : oppositeFn n xs = made n (tab xs.length (oppV xs)) := by
  unfold oppositeFn made
  rw [if_pos hf, if_pos (opposite_fn hf)]
/-- An opposite function is submodular exactly if the function is. -/
theorem opposite_sub {n : Int} {xs : List Int} (hf : isFn n xs = true) : isSub (oppositeFn n xs).1 (oppositeFn n xs).2.1 = isSub n xs := by
  obtain ⟨h0, h5, hl, hv⟩ := isFn_yes hf
  obtain ⟨N, rfl⟩ := Int.eq_ofNat_of_zero_le h0
  rw [Int.toNat_natCast] at hl
  have ho := opposite_fn hf
  unfold oppositeFn
  rw [if_pos hf]
  show isSub (N : Int) (tab xs.length (oppV xs)) = _
  rw [Bool.eq_iff_iff]
  refine ⟨fun h => opp_sub_of (xs := tab xs.length (oppV xs)) (fun s hs => ?_) hf h, fun h => opp_sub_of (fun s hs => opp_at hl hs) ho h⟩
  rw [opp_at hl compl_lt, compl_compl hs]
-- dual functions
theorem weigh_low (ws : List Int) (s i : Nat) : ∀ m, m ≤ i → weigh ws (s ||| 2 ^ i) m = weigh ws s m
  | 0, _ => rfl
  | m + 1, h => by
    have ih := weigh_low ws s i m (by omega)
    unfold weigh
    rw [or_testBit, decide_eq_false (by omega), Bool.or_false, ih]
theorem weigh_or (ws : List Int) {s i : Nat} (ht : s.testBit i = false) : ∀ m, i < m → weigh ws (s ||| 2 ^ i) m = weigh ws s m + ws.getD i 0
  | 0, h => absurd h (by omega)
  | m + 1, h => by
    unfold weigh
    rw [or_testBit]
    by_cases e : i = m
    · subst e
      rw [weigh_low ws s i i (Nat.le_refl _), decide_eq_true rfl, Bool.or_true, if_pos rfl, ht, if_neg (by decide)]
    · rw [weigh_or ws ht m (by omega), decide_eq_false e, Bool.or_false]
      split <;> omega
theorem dual_bad {n s i k : Nat} {xs ws : List Int} (hl : xs.length = 2 ^ n) (hw : ws.length = n) (hs : s < 2 ^ n) (hi : i < n) (hk : k < n) (hne : i ≠ k) : bad (tab xs.length (dualV xs ws)) s i k = bad (tab xs.length (oppV xs)) s i k := by
  have b1 := or_lt hs hi
  have b2 := or_lt hs hk
  have b3 := or_lt b1 hk
  unfold bad
  rw [← hl] at hs b1 b2 b3
  rw [tab_at _ hs, tab_at _ b1, tab_at _ b2, tab_at _ b3, tab_at _ hs, tab_at _ b1, tab_at _ b2, tab_at _ b3]
  cases t1 : s.testBit i
  · cases t2 : s.testBit k
    · have w1 := weigh_or ws t1 ws.length (by omega)
      have w2 := weigh_or ws t2 ws.length (by omega)
      have w3 := weigh_or ws (s := s ||| 2 ^ i) (i := k) (by rw [or_testBit, t2, decide_eq_false hne]; rfl) ws.length (by omega)
      unfold dualV oppV
      rw [w3, w1, w2]
      simp only [Bool.not_false, Bool.true_and]
      rw [decide_eq_decide]
      constructor <;> intro _ <;> omega
    · simp
  · simp
/-- A dual function is submodular exactly if the function is. -/
theorem dual_sub {n : Int} {xs ws : List Int} (ht : (dualFn n xs ws).2.2 = true) : isSub (dualFn n xs ws).1 (dualFn n xs ws).2.1 = isSub n xs := by
  unfold dualFn at ht ⊢
  split at ht
  · rename_i hh
    rw [if_pos hh]
    obtain ⟨hf, hw, -⟩ := hh
    unfold made at ht ⊢
    split at ht
    · rename_i hm
      rw [if_pos hm]
      have ho := opposite_sub hf
      unfold oppositeFn at ho
      rw [if_pos hf] at ho
      have ho' : isSub n (tab xs.length (oppV xs)) = isSub n xs := ho
      rw [← ho']
      obtain ⟨h0, h5, hl, hv⟩ := isFn_yes hf
      obtain ⟨N, rfl⟩ := Int.eq_ofNat_of_zero_le h0
      rw [Int.toNat_natCast] at hl
      have hof := opposite_fn hf
      show isSub (N : Int) (tab xs.length (dualV xs ws)) = _
      rw [Bool.eq_iff_iff, sub_iff, sub_iff]
      simp only [tab_length]
      constructor
      · rintro ⟨-, h⟩
        exact ⟨hof, fun s i k hs hi hk hik => by rw [← dual_bad (ws := ws) hl (by omega) (by omega) hi hk (by omega)]; exact h s i k hs hi hk hik⟩
      · rintro ⟨-, h⟩
        exact ⟨hm, fun s i k hs hi hk hik => by rw [dual_bad (ws := ws) hl (by omega) (by omega) hi hk (by omega)]; exact h s i k hs hi hk hik⟩
    · cases ht
  · cases ht

end Go.Proofs.YtfpoiiennlhphaaDoor.M

namespace Go.Proofs.YtfpoiiennlhphaaDoor.M
set_option linter.unusedVariables false
/-- The weights of listed elements, added up. -/
def wsum (ws : List Int) : List Int → Int
  | [] => 0
  | e :: l => ws.getD e.toNat 0 + wsum ws l
theorem div_pow_succ (S i : Nat) : S / 2 ^ i / 2 = S / 2 ^ (i + 1) := by rw [Nat.div_div_eq_div_mul, Nat.pow_succ]
theorem testBit_div (S i : Nat) : S.testBit i = decide (S / 2 ^ i % 2 = 1) := by rw [Nat.testBit_eq_decide_div_mod_eq]
theorem wsum_els (ws : List Int) (S : Nat) : ∀ f i, f + i = 10 → S < 2 ^ 10 → weigh ws S i + wsum ws (elsF f i (S / 2 ^ i)) = weigh ws S 10
  | 0, i, h, hS => by
    obtain rfl : i = 10 := by omega
    simp [elsF, wsum]
  | f + 1, i, h, hS => by
    have ih := wsum_els ws S f (i + 1) (by omega) hS
    rw [← ih]
    have hb := testBit_div S i
    rw [← div_pow_succ]
    show weigh ws S i + _ = (if S.testBit i = true then weigh ws S i + ws.getD i 0 else weigh ws S i) + _
    by_cases h1 : S / 2 ^ i % 2 = 1
    · rw [elsF_odd h1, hb]
      simp only [h1, decide_true, if_true, wsum, Int.toNat_natCast]
      omega
    · rw [hb]
      simp only [h1, decide_false]
      by_cases h0 : 0 < S / 2 ^ i
      · rw [elsF_even h0 h1]
        simp
      · have e : S / 2 ^ i = 0 := Nat.eq_zero_of_not_pos h0
        rw [e, elsF_zero, show 0 / 2 = 0 from rfl, elsF_zero]
        simp
theorem weigh_up (ws : List Int) (S n : Nat) (hS : S < 2 ^ n) : ∀ c, weigh ws S (n + c) = weigh ws S n
  | 0 => rfl
  | c + 1 => by
    have h1 : S.testBit (n + c) = false := Nat.testBit_lt_two_pow (Nat.lt_of_lt_of_le hS (Nat.pow_le_pow_right (by decide) (by omega)))
    show (if S.testBit (n + c) = true then _ else weigh ws S (n + c)) = _
    rw [h1]
    exact weigh_up ws S n hS c
theorem weigh_els (ws : List Int) (S n : Nat) (hS : S < 2 ^ n) (hn : n ≤ 10) : wsum ws (els S) = weigh ws S n := by
  have h := wsum_els ws S 10 0 rfl (Nat.lt_of_lt_of_le hS (Nat.pow_le_pow_right (by decide) hn))
  rw [Nat.pow_zero, Nat.div_one] at h
  have h2 := weigh_up ws S n hS (10 - n)
  rw [show n + (10 - n) = 10 by omega] at h2
  have h0 : weigh ws S 0 = 0 := rfl
  rw [h0] at h
  unfold els
  omega
theorem elsF_mem : ∀ (f i x n : Nat), x < 2 ^ n → ∀ e ∈ elsF f i x, (i : Int) ≤ e ∧ e < (i : Int) + (n : Int)
  | 0, _, _, _, _, e, he => by simp [elsF] at he
  | f + 1, i, x, 0, hx, e, he => by
    have : x = 0 := by simpa using hx
    subst this
    rw [elsF_zero] at he
    cases he
  | f + 1, i, x, n + 1, hx, e, he => by
    have hx2 : x / 2 < 2 ^ n := by rw [Nat.pow_succ] at hx; omega
    by_cases h1 : x % 2 = 1
    · rw [elsF_odd h1] at he
      rcases List.mem_cons.1 he with rfl | he
      · omega
      · have := elsF_mem f (i + 1) (x / 2) n hx2 e he
        omega
    · by_cases h0 : 0 < x
      · rw [elsF_even h0 h1] at he
        have := elsF_mem f (i + 1) (x / 2) n hx2 e he
        omega
      · obtain rfl : x = 0 := by omega
        rw [elsF_zero] at he
        cases he
theorem els_at (S n : Nat) (hS : S < 2 ^ n) {k : Nat} (hk : k < (els S).length) : 0 ≤ (els S).getD k 0 ∧ (els S).getD k 0 < (n : Int) := by
  have e : (els S).getD k 0 = (els S)[k] := by rw [List.getD_eq_getElem?_getD, List.getElem?_eq_getElem hk]; rfl
  have := elsF_mem 10 0 S n hS (els S)[k] (List.getElem_mem hk)
  rw [e]
  omega
theorem wsum_drop (ws l : List Int) {k : Nat} (hk : k < l.length) : wsum ws (l.drop k) = ws.getD (l.getD k 0).toNat 0 + wsum ws (l.drop (k + 1)) := by
  have e : l.getD k 0 = l[k] := by rw [List.getD_eq_getElem?_getD, List.getElem?_eq_getElem hk]; rfl
  rw [List.drop_eq_getElem_cons hk, e]
  rfl

end Go.Proofs.YtfpoiiennlhphaaDoor.M

namespace Go.Proofs.YtfpoiiennlhphaaDoor.M
set_option linter.unusedVariables false
set_option linter.unusedSimpArgs false

/-- f of a part and g of the rest. -/
def partV (xs ys : List Int) (s x : Nat) : Int := xs.getD x 0 + ys.getD (s - x) 0
/-- The least part below c with the least sum. -/
def splitTo (xs ys : List Int) (s : Nat) : Nat → Nat
  | 0 => 0
  | x + 1 => if (x + 1) &&& s = x + 1 ∧ partV xs ys s (x + 1) < partV xs ys s (splitTo xs ys s x) then x + 1 else splitTo xs ys s x
def split (xs ys : List Int) (s : Nat) : Nat := splitTo xs ys s s
def convV (xs ys : List Int) (s : Nat) : Int := partV xs ys s (split xs ys s)
def fits (n : Int) (xs : List Int) (m : Int) (ys : List Int) : Bool := isFn n xs && (isFn m ys && decide (n = m))
def convFn (n : Int) (xs : List Int) (m : Int) (ys : List Int) : Int × List Int × Bool := if fits n xs m ys = true then made n (tab xs.length (convV xs ys)) else (0, [], false)
def splitOf (n : Int) (xs : List Int) (m : Int) (ys : List Int) (s : Int) : Int × Bool := if fits n xs m ys = true ∧ isSet n s = true then (((split xs ys s.toNat : Nat) : Int), true) else (0, false)
/-- The least value of those from s on, c of them, that contain s. -/
def hullTo (xs : List Int) (s : Nat) : Nat → Int
  | 0 => xs.getD s 0
  | c + 1 => if (s + c) &&& s = s then min (hullTo xs s c) (xs.getD (s + c) 0) else hullTo xs s c
def hullV (xs : List Int) (s : Nat) : Int := hullTo xs s (xs.length - s)
def hullFn (n : Int) (xs : List Int) : Int × List Int × Bool := if isFn n xs = true then (n, tab xs.length (hullV xs), true) else (0, [], false)
def truncV (xs : List Int) (k : Int) (s : Nat) : Int := min k (xs.getD s 0)
def truncFn (n : Int) (xs : List Int) (k : Int) : Int × List Int × Bool := if isFn n xs = true ∧ -1000 ≤ k ∧ k ≤ 1000 then (n, tab xs.length (truncV xs k), true) else (0, [], false)
def reduceFn (n : Int) (xs ws : List Int) : Int × List Int × Bool := if (modFn ws 0).2.2 = true ∧ isFn n xs = true ∧ (modFn ws 0).1 = n then convFn n xs (modFn ws 0).1 (modFn ws 0).2.1 else (0, [], false)
theorem convFn_len (n : Int) (xs : List Int) (m : Int) (ys : List Int) : (convFn n xs m ys).2.1.length ≤ 32 := by
  unfold convFn; split <;> first | exact made_len _ _ | exact Nat.zero_le _
theorem hullFn_len (n : Int) (xs : List Int) : (hullFn n xs).2.1.length ≤ 32 := by
  unfold hullFn
  split
  · rename_i h
    show (tab _ _).length ≤ 32
    rw [tab_length]; exact (isFn_len h).2
  · exact Nat.zero_le _
theorem truncFn_len (n : Int) (xs : List Int) (k : Int) : (truncFn n xs k).2.1.length ≤ 32 := by
  unfold truncFn
  split
  · rename_i h
    show (tab _ _).length ≤ 32
    rw [tab_length]; exact (isFn_len h.1).2
  · exact Nat.zero_le _
theorem reduceFn_len (n : Int) (xs ws : List Int) : (reduceFn n xs ws).2.1.length ≤ 32 := by
  unfold reduceFn; split <;> first | exact convFn_len _ _ _ _ | exact Nat.zero_le _
theorem fits_yes {n : Int} {xs : List Int} {m : Int} {ys : List Int} (h : fits n xs m ys = true) : isFn n xs = true ∧ isFn m ys = true ∧ n = m := by
  unfold fits at h
  simpa using h

-- the split
theorem splitTo_in (xs ys : List Int) (s : Nat) : ∀ c, splitTo xs ys s c &&& s = splitTo xs ys s c ∧ splitTo xs ys s c ≤ c
  | 0 => by simp [splitTo]
  | c + 1 => by
    have ih := splitTo_in xs ys s c
    unfold splitTo
    split
    · rename_i h; exact ⟨h.1, Nat.le_refl _⟩
    · exact ⟨ih.1, by omega⟩
theorem splitTo_min (xs ys : List Int) (s : Nat) : ∀ c x, x ≤ c → x &&& s = x → partV xs ys s (splitTo xs ys s c) ≤ partV xs ys s x
  | 0, x, hx, _ => by
    obtain rfl : x = 0 := by omega
    exact Int.le_refl _
  | c + 1, x, hx, hs => by
    have ih := splitTo_min xs ys s c
    unfold splitTo
    split
    · rename_i h
      by_cases e : x = c + 1
      · subst e; exact Int.le_refl _
      · have := ih x (by omega) hs; omega
    · rename_i h
      by_cases e : x = c + 1
      · subst e
        by_cases hlt : partV xs ys s (c + 1) < partV xs ys s (splitTo xs ys s c)
        · exact absurd ⟨hs, hlt⟩ h
        · omega
      · exact ih x (by omega) hs
theorem and_le_of {x s : Nat} (h : x &&& s = x) : x ≤ s := by
  have := Nat.and_le_right (n := x) (m := s)
  omega
theorem split_in (xs ys : List Int) (s : Nat) : split xs ys s &&& s = split xs ys s ∧ split xs ys s ≤ s := splitTo_in xs ys s s
theorem split_min (xs ys : List Int) {s x : Nat} (h : x &&& s = x) : convV xs ys s ≤ partV xs ys s x := splitTo_min xs ys s s x (and_le_of h) h
-- the hull
theorem hullTo_at (xs : List Int) (s : Nat) : ∀ c, ∃ x, x &&& s = s ∧ (x = s ∨ x < s + c) ∧ hullTo xs s c = xs.getD x 0
  | 0 => ⟨s, Nat.and_self s, .inl rfl, rfl⟩
  | c + 1 => by
    obtain ⟨x, h1, h2, h3⟩ := hullTo_at xs s c
    unfold hullTo
    split
    · rename_i h
      by_cases hm : hullTo xs s c ≤ xs.getD (s + c) 0
      · exact ⟨x, h1, by omega, by rw [← h3]; omega⟩
      · exact ⟨s + c, h, by omega, by omega⟩
    · exact ⟨x, h1, by omega, h3⟩
theorem hullTo_le (xs : List Int) (s : Nat) : ∀ c, hullTo xs s c ≤ xs.getD s 0 ∧ ∀ d, d < c → (s + d) &&& s = s → hullTo xs s c ≤ xs.getD (s + d) 0
  | 0 => ⟨Int.le_refl _, fun d hd => absurd hd (by omega)⟩
  | c + 1 => by
    obtain ⟨h1, h2⟩ := hullTo_le xs s c
    unfold hullTo
    split
    · rename_i h
      refine ⟨by omega, fun d hd hs => ?_⟩
      by_cases e : d = c
      · subst e; omega
      · have := h2 d (by omega) hs; omega
    · rename_i h
      refine ⟨h1, fun d hd hs => ?_⟩
      by_cases e : d = c
      · subst e; exact absurd hs h
      · exact h2 d (by omega) hs
theorem hull_at {xs : List Int} {s : Nat} (hs : s < xs.length) : ∃ x, x &&& s = s ∧ x < xs.length ∧ hullV xs s = xs.getD x 0 := by
  obtain ⟨x, h1, h2, h3⟩ := hullTo_at xs s (xs.length - s)
  exact ⟨x, h1, by omega, h3⟩
theorem hull_le {xs : List Int} {s x : Nat} (hx : x < xs.length) (h : x &&& s = s) : hullV xs s ≤ xs.getD x 0 := by
  have hle : s ≤ x := by
    have := Nat.and_le_left (n := x) (m := s)
    omega
  have := (hullTo_le xs s (xs.length - s)).2 (x - s) (by omega) (by rw [show s + (x - s) = x by omega]; exact h)
  rwa [show s + (x - s) = x by omega] at this

-- submodular functions, by unions and intersections
structure Sb (n : Nat) (xs : List Int) : Prop where
  len : xs.length = 2 ^ n
  sub : ∀ s i k, s < 2 ^ n → i < n → k < n → i ≠ k → s.testBit i = false → s.testBit k = false → xs.getD (s ||| 2 ^ i ||| 2 ^ k) 0 + xs.getD s 0 ≤ xs.getD (s ||| 2 ^ i) 0 + xs.getD (s ||| 2 ^ k) 0
theorem sb_of {n : Nat} {xs : List Int} (h : isSub (n : Int) xs = true) : Sb n xs := by
  obtain ⟨hf, hsub⟩ := sub_iff.1 h
  obtain ⟨-, -, hl, -⟩ := isFn_yes hf
  rw [Int.toNat_natCast] at hl
  refine ⟨hl, fun s i k hs hi hk hne t1 t2 => ?_⟩
  rcases Nat.lt_or_gt_of_ne hne with hlt | hlt
  · exact bad_false (n := n) (hsub s i k (by omega) hi hk hlt) t1 t2
  · have := bad_false (n := n) (hsub s k i (by omega) hk hi hlt) t2 t1
    rw [or_swap] at this
    omega
/-- To be submodular it is enough that any two supersets by one element do. -/
theorem sub_of {n : Nat} {xs : List Int} (hf : isFn (n : Int) xs = true) (h : ∀ s i k, s < 2 ^ n → i < n → k < n → i < k → s.testBit i = false → s.testBit k = false → xs.getD (s ||| 2 ^ i ||| 2 ^ k) 0 + xs.getD s 0 ≤ xs.getD (s ||| 2 ^ i) 0 + xs.getD (s ||| 2 ^ k) 0) : isSub (n : Int) xs = true := by
  obtain ⟨-, -, hl, -⟩ := isFn_yes hf
  rw [Int.toNat_natCast] at hl
  refine sub_iff.2 ⟨hf, fun s i k hs hi hk hik => ?_⟩
  unfold bad
  cases t1 : s.testBit i
  · cases t2 : s.testBit k
    · have := h s i k (by omega) hi hk hik t1 t2
      simp only [Bool.not_false, Bool.true_and, decide_eq_false_iff_not]
      omega
    · simp
  · simp
theorem low_bit (D j q : Nat) : (D % 2 ^ j).testBit q = (decide (q < j) && D.testBit q) := Nat.testBit_mod_two_pow D j q
theorem Sb.gain_low {n : Nat} {xs : List Int} (p : Sb n xs) {S D e : Nat} (hS : S < 2 ^ n) (hD : D < 2 ^ n) (he : e < n) (ht : (S ||| D).testBit e = false) : ∀ j, j ≤ n → xs.getD ((S ||| D % 2 ^ j) ||| 2 ^ e) 0 + xs.getD S 0 ≤ xs.getD (S ||| D % 2 ^ j) 0 + xs.getD (S ||| 2 ^ e) 0
  | 0, _ => by rw [Nat.pow_zero, Nat.mod_one, Nat.or_zero]; omega
  | j + 1, hj => by
    have ih := Sb.gain_low p hS hD he ht j (by omega)
    have hT := low_lt hS hD j
    rw [Nat.testBit_or, Bool.or_eq_false_iff] at ht
    rw [or_low]
    split
    · rename_i hd
      have hTe : (S ||| D % 2 ^ j).testBit e = false := by rw [Nat.testBit_or, low_bit, ht.1, ht.2]; simp
      have hje : j ≠ e := fun h => by subst h; rw [ht.2] at hd; cases hd
      generalize S ||| D % 2 ^ j = T at ih hT hTe ⊢
      by_cases t1 : T.testBit j = true
      · rwa [or_bit t1]
      · have := p.sub T j e hT (by omega) he hje (by simpa using t1) hTe
        omega
    · exact ih
theorem Sb.gain {n : Nat} {xs : List Int} (p : Sb n xs) {S T e : Nat} (hS : S < 2 ^ n) (hT : T < 2 ^ n) (h : S ||| T = T) (he : e < n) (ht : T.testBit e = false) : xs.getD (T ||| 2 ^ e) 0 + xs.getD S 0 ≤ xs.getD T 0 + xs.getD (S ||| 2 ^ e) 0 := by
  have := p.gain_low hS hT he (by rw [h]; exact ht) n (Nat.le_refl _)
  rwa [Nat.mod_eq_of_lt hT, h] at this
theorem Sb.four_low {n : Nat} {xs : List Int} (p : Sb n xs) {X Y : Nat} (hX : X < 2 ^ n) (hY : Y < 2 ^ n) : ∀ j, j ≤ n → xs.getD (X ||| Y % 2 ^ j) 0 + xs.getD (X &&& Y) 0 ≤ xs.getD X 0 + xs.getD ((X &&& Y) ||| Y % 2 ^ j) 0
  | 0, _ => by rw [Nat.pow_zero, Nat.mod_one, Nat.or_zero, Nat.or_zero]; omega
  | j + 1, hj => by
    have ih := Sb.four_low p hX hY j (by omega)
    have hXY : X &&& Y < 2 ^ n := Nat.lt_of_le_of_lt Nat.and_le_left hX
    have hA := low_lt hX hY j
    have hB := low_lt hXY hY j
    rw [or_low, or_low]
    by_cases hd : Y.testBit j = true
    · rw [if_pos hd, if_pos hd]
      by_cases hx : X.testBit j = true
      · rw [or_bit (s := X ||| Y % 2 ^ j) (by rw [Nat.testBit_or, hx]; rfl), or_bit (s := (X &&& Y) ||| Y % 2 ^ j) (by rw [Nat.testBit_or, Nat.testBit_and, hx, hd]; rfl)]
        exact ih
      · have hx' : X.testBit j = false := by simpa using hx
        have := p.gain (S := (X &&& Y) ||| Y % 2 ^ j) (T := X ||| Y % 2 ^ j) (e := j) hB hA (by
          apply Nat.eq_of_testBit_eq; intro q
          simp only [Nat.testBit_or, Nat.testBit_and]
          cases X.testBit q <;> cases Y.testBit q <;> cases (Y % 2 ^ j).testBit q <;> rfl) (by omega) (by rw [Nat.testBit_or, low_bit, hx']; simp)
        omega
    · rw [if_neg hd, if_neg hd]
      exact ih
/-- Submodular, by the union and what is common. -/
theorem Sb.four {n : Nat} {xs : List Int} (p : Sb n xs) {X Y : Nat} (hX : X < 2 ^ n) (hY : Y < 2 ^ n) : xs.getD (X ||| Y) 0 + xs.getD (X &&& Y) 0 ≤ xs.getD X 0 + xs.getD Y 0 := by
  have := p.four_low hX hY n (Nat.le_refl _)
  rwa [Nat.mod_eq_of_lt hY, show (X &&& Y) ||| Y = Y by
    apply Nat.eq_of_testBit_eq; intro q
    rw [Nat.testBit_or, Nat.testBit_and]
    cases X.testBit q <;> cases Y.testBit q <;> rfl] at this

end Go.Proofs.YtfpoiiennlhphaaDoor.M

namespace Go.Proofs.YtfpoiiennlhphaaDoor.M
set_option linter.unusedVariables false
set_option linter.unusedSimpArgs false

theorem tab_eq {xs : List Int} {f : Nat → Int} (h : ∀ k, k < xs.length → f k = xs.getD k 0) : tab xs.length f = xs := by
  refine List.ext_getElem (tab_length _ _) fun k h1 h2 => ?_
  have e1 : (tab xs.length f).getD k 0 = (tab xs.length f)[k] := by rw [List.getD_eq_getElem?_getD, List.getElem?_eq_getElem h1]; rfl
  have e2 : xs.getD k 0 = xs[k] := by rw [List.getD_eq_getElem?_getD, List.getElem?_eq_getElem h2]; rfl
  rw [← e1, tab_at _ h2, h k h2, e2]
theorem inc_iff {n : Nat} {xs : List Int} : isInc (n : Int) xs = true ↔ isFn (n : Int) xs = true ∧ ∀ s i, s < xs.length → i < n → xs.getD s 0 ≤ xs.getD (s ||| 2 ^ i) 0 := by
  unfold isInc
  rw [Int.toNat_natCast]
  simp only [Bool.and_eq_true, List.all_eq_true, List.mem_range, incAt, decide_eq_true_eq]
  constructor
  · rintro ⟨hf, h⟩; exact ⟨hf, fun s i hs hi => h s hs i hi⟩
  · rintro ⟨hf, h⟩; exact ⟨hf, fun s hs i hi => h s i hs hi⟩
theorem mono_low_of {n : Nat} {xs : List Int} (hinc : ∀ s i, s < 2 ^ n → i < n → xs.getD s 0 ≤ xs.getD (s ||| 2 ^ i) 0) {S D : Nat} (hS : S < 2 ^ n) (hD : D < 2 ^ n) : ∀ j, j ≤ n → xs.getD S 0 ≤ xs.getD (S ||| D % 2 ^ j) 0
  | 0, _ => by rw [Nat.pow_zero, Nat.mod_one, Nat.or_zero]; omega
  | j + 1, hj => by
    have ih := mono_low_of hinc hS hD j (by omega)
    rw [or_low]
    split
    · have := hinc (S ||| D % 2 ^ j) j (low_lt hS hD j) (by omega)
      omega
    · exact ih
theorem mono_of {n : Nat} {xs : List Int} (hinc : ∀ s i, s < 2 ^ n → i < n → xs.getD s 0 ≤ xs.getD (s ||| 2 ^ i) 0) {S T : Nat} (hS : S < 2 ^ n) (hT : T < 2 ^ n) (h : T &&& S = S) : xs.getD S 0 ≤ xs.getD T 0 := by
  have := mono_low_of hinc hS hT n (Nat.le_refl _)
  rwa [Nat.mod_eq_of_lt hT, show S ||| T = T by
    apply Nat.eq_of_testBit_eq; intro q
    have := congrArg (fun x => x.testBit q) h
    rw [Nat.testBit_or]
    simp only [Nat.testBit_and] at this
    revert this
    cases S.testBit q <;> cases T.testBit q <;> simp] at this
-- hulls
theorem hull_fn {n : Int} {xs : List Int} (hf : isFn n xs = true) : isFn n (tab xs.length (hullV xs)) = true := by
  obtain ⟨h0, h5, hl, hv⟩ := isFn_yes hf
  refine isFn_mk h0 h5 (by rw [tab_length]; exact hl) fun k hk => ?_
  rw [tab_length] at hk
  rw [tab_at _ hk]
  obtain ⟨x, -, hx, e⟩ := hull_at hk
  rw [e]
  exact hv x hx
theorem hull_made {n : Int} {xs : List Int} (hf : isFn n xs = true) : hullFn n xs = made n (tab xs.length (hullV xs)) := by
  unfold hullFn made
  rw [if_pos hf, if_pos (hull_fn hf)]
theorem sup_or {x y s i k : Nat} (hx : x &&& (s ||| 2 ^ i) = s ||| 2 ^ i) (hy : y &&& (s ||| 2 ^ k) = s ||| 2 ^ k) : (x ||| y) &&& (s ||| 2 ^ i ||| 2 ^ k) = s ||| 2 ^ i ||| 2 ^ k ∧ (x &&& y) &&& s = s := by
  constructor <;>
    (apply Nat.eq_of_testBit_eq; intro q
     have h1 := congrArg (fun x => x.testBit q) hx
     have h2 := congrArg (fun x => x.testBit q) hy
     simp only [Nat.testBit_and, Nat.testBit_or] at h1 h2 ⊢
     revert h1 h2
     cases x.testBit q <;> cases y.testBit q <;> cases s.testBit q <;> cases (2 ^ i).testBit q <;> cases (2 ^ k).testBit q <;> simp)
theorem hull_sub {n : Int} {xs : List Int} (h : isSub n xs = true) : isSub n (tab xs.length (hullV xs)) = true := by
  have hf : isFn n xs = true := by unfold isSub at h; simp only [Bool.and_eq_true] at h; exact h.1
  obtain ⟨h0, -, hl, -⟩ := isFn_yes hf
  obtain ⟨N, rfl⟩ := Int.eq_ofNat_of_zero_le h0
  rw [Int.toNat_natCast] at hl
  refine sub_of (hull_fn hf) fun s i k hs hi hk hik t1 t2 => ?_
  have b1 := or_lt hs hi
  have b2 := or_lt hs hk
  have b3 := or_lt b1 hk
  rw [← hl] at hs b1 b2 b3
  rw [tab_at _ hs, tab_at _ b1, tab_at _ b2, tab_at _ b3]
  obtain ⟨x, x1, x2, x3⟩ := hull_at b1
  obtain ⟨y, y1, y2, y3⟩ := hull_at b2
  obtain ⟨u1, u2⟩ := sup_or x1 y1
  have hor : x ||| y < xs.length := by rw [hl] at x2 y2 ⊢; exact Nat.or_lt_two_pow x2 y2
  have hand : x &&& y < xs.length := Nat.lt_of_le_of_lt Nat.and_le_left x2
  have c1 := hull_le hor u1
  have c2 := hull_le hand u2
  have c3 := (sb_of h).four (X := x) (Y := y) (by omega) (by omega)
  omega
theorem hull_inc {n : Int} {xs : List Int} (hf : isFn n xs = true) : isInc n (tab xs.length (hullV xs)) = true := by
  obtain ⟨h0, -, hl, -⟩ := isFn_yes hf
  obtain ⟨N, rfl⟩ := Int.eq_ofNat_of_zero_le h0
  rw [Int.toNat_natCast] at hl
  refine inc_iff.2 ⟨hull_fn hf, fun s i hs hi => ?_⟩
  rw [tab_length] at hs
  have b1 := or_lt (n := N) (by omega) hi (S := s)
  rw [← hl] at b1
  rw [tab_at _ hs, tab_at _ b1]
  obtain ⟨x, x1, x2, x3⟩ := hull_at b1
  rw [x3]
  refine hull_le x2 ?_
  apply Nat.eq_of_testBit_eq; intro q
  have h1 := congrArg (fun x => x.testBit q) x1
  simp only [Nat.testBit_and, Nat.testBit_or] at h1 ⊢
  revert h1
  cases x.testBit q <;> cases s.testBit q <;> simp
theorem inc_hull {n : Int} {xs : List Int} (hf : isFn n xs = true) : isInc n xs = decide (xs = tab xs.length (hullV xs)) := by
  obtain ⟨h0, -, hl, -⟩ := isFn_yes hf
  have hi := hull_inc hf
  rw [Bool.eq_iff_iff, decide_eq_true_iff]
  constructor
  · intro h
    obtain ⟨N, rfl⟩ := Int.eq_ofNat_of_zero_le h0
    rw [Int.toNat_natCast] at hl
    refine (tab_eq fun s hs => ?_).symm
    obtain ⟨x, x1, x2, x3⟩ := hull_at hs
    have h1 := hull_le hs (Nat.and_self s)
    have h2 := mono_of (n := N) (fun s i hs hi => (inc_iff.1 h).2 s i (by omega) hi) (S := s) (T := x) (by omega) (by omega) x1
    omega
  · intro h
    rw [← h] at hi
    exact hi
-- truncations
theorem trunc_fn {n : Int} {xs : List Int} {k : Int} (hf : isFn n xs = true) (h1 : -1000 ≤ k) (h2 : k ≤ 1000) : isFn n (tab xs.length (truncV xs k)) = true := by
  obtain ⟨h0, h5, hl, hv⟩ := isFn_yes hf
  refine isFn_mk h0 h5 (by rw [tab_length]; exact hl) fun j hj => ?_
  rw [tab_length] at hj
  rw [tab_at _ hj]
  have := hv j hj
  unfold truncV
  omega
theorem trunc_made {n : Int} {xs : List Int} {k : Int} (hf : isFn n xs = true) (h1 : -1000 ≤ k) (h2 : k ≤ 1000) : truncFn n xs k = made n (tab xs.length (truncV xs k)) := by
  unfold truncFn made
  rw [if_pos ⟨hf, h1, h2⟩, if_pos (trunc_fn hf h1 h2)]
theorem trunc_law {n : Int} {xs : List Int} {k : Int} (hb : (truncFn n xs k).2.2 = true) (h : isPoly n xs = true) : isSub (truncFn n xs k).1 (truncFn n xs k).2.1 = true := by
  unfold truncFn at hb ⊢
  split at hb
  · rename_i hh
    rw [if_pos hh]
    obtain ⟨hf, k1, k2⟩ := hh
    have ht := trunc_fn hf k1 k2
    obtain ⟨h0, -, hl, -⟩ := isFn_yes hf
    obtain ⟨N, rfl⟩ := Int.eq_ofNat_of_zero_le h0
    rw [Int.toNat_natCast] at hl
    have p := pol_of h
    refine sub_of ht fun s i j hs hi hj hij t1 t2 => ?_
    have b1 := or_lt hs hi
    have b2 := or_lt hs hj
    have b3 := or_lt b1 hj
    have c1 := p.inc s i hs hi
    have c2 := p.inc s j hs hj
    have c3 := p.inc (s ||| 2 ^ i) j b1 hj
    have c4 := p.inc (s ||| 2 ^ j) i b2 hi
    rw [or_swap] at c4
    have c5 := p.sub s i j hs hi hj (by omega) t1 t2
    rw [← hl] at hs b1 b2 b3
    rw [tab_at _ hs, tab_at _ b1, tab_at _ b2, tab_at _ b3]
    unfold truncV
    omega
  · cases hb
-- convolutions
theorem weigh_four (ws : List Int) (x y : Nat) : ∀ m, weigh ws (x ||| y) m + weigh ws (x &&& y) m = weigh ws x m + weigh ws y m
  | 0 => rfl
  | m + 1 => by
    have ih := weigh_four ws x y m
    unfold weigh
    rw [Nat.testBit_or, Nat.testBit_and]
    cases x.testBit m <;> cases y.testBit m <;> simp <;> omega
theorem weigh_zero (ws : List Int) : ∀ m, weigh ws 0 m = 0
  | 0 => rfl
  | m + 1 => by
    unfold weigh
    rw [Nat.zero_testBit, if_neg (by decide)]
    exact weigh_zero ws m
theorem rest_of : ∀ A, A < 32 → ∀ x, x < 32 → x &&& A = x → x ||| (A - x) = A ∧ x &&& (A - x) = 0 ∧ (A - x) &&& A = A - x := by decide +kernel
theorem weigh_rest (ws : List Int) {A x : Nat} (hA : A < 32) (h : x &&& A = x) (m : Nat) : weigh ws (A - x) m = weigh ws A m - weigh ws x m := by
  have hx : x < 32 := by have := and_le_of h; omega
  obtain ⟨h1, h2, -⟩ := rest_of A hA x hx h
  have := weigh_four ws x (A - x) m
  rw [h1, h2, weigh_zero] at this
  omega
theorem sub_or {x y s i k : Nat} (hx : x &&& (s ||| 2 ^ i) = x) (hy : y &&& (s ||| 2 ^ k) = y) (hne : i ≠ k) : (x ||| y) &&& (s ||| 2 ^ i ||| 2 ^ k) = x ||| y ∧ (x &&& y) &&& s = x &&& y := by
  constructor <;>
    (apply Nat.eq_of_testBit_eq; intro q
     have h1 := congrArg (fun x => x.testBit q) hx
     have h2 := congrArg (fun x => x.testBit q) hy
     simp only [Nat.testBit_and, Nat.testBit_or, Nat.testBit_two_pow] at h1 h2 ⊢
     by_cases e1 : i = q
     · have e2 : ¬ k = q := by omega
       simp only [e1, e2, decide_true, decide_false] at h1 h2 ⊢
       revert h1 h2
       cases x.testBit q <;> cases y.testBit q <;> cases s.testBit q <;> simp
     · simp only [e1, decide_false] at h1 h2 ⊢
       revert h1 h2
       cases x.testBit q <;> cases y.testBit q <;> cases s.testBit q <;> cases decide (k = q) <;> simp)
theorem conv_sub {N : Nat} {xs ys ws : List Int} (h : isSub (N : Int) xs = true) (hy : ∀ y, y < 2 ^ N → ys.getD y 0 = weigh ws y N) (hf : isFn (N : Int) (tab xs.length (convV xs ys)) = true) : isSub (N : Int) (tab xs.length (convV xs ys)) = true := by
  have hfx : isFn (N : Int) xs = true := by unfold isSub at h; simp only [Bool.and_eq_true] at h; exact h.1
  obtain ⟨-, h5, hl, -⟩ := isFn_yes hfx
  rw [Int.toNat_natCast] at hl
  have h32 : 2 ^ N ≤ 2 ^ 5 := Nat.pow_le_pow_right (by decide) (by omega)
  -- a part's sum, by weights
  have part : ∀ A x, A < 2 ^ N → x &&& A = x → partV xs ys A x = xs.getD x 0 + (weigh ws A N - weigh ws x N) := fun A x hA hx => by
    unfold partV
    rw [hy (A - x) (by omega), weigh_rest ws (by omega) hx]
  refine sub_of hf fun s i k hs hi hk hik t1 t2 => ?_
  have b1 := or_lt hs hi
  have b2 := or_lt hs hk
  have b3 := or_lt b1 hk
  rw [tab_at _ (by omega), tab_at _ (by omega), tab_at _ (by omega), tab_at _ (by omega)]
  obtain ⟨x1, x2⟩ := split_in xs ys (s ||| 2 ^ i)
  obtain ⟨y1, y2⟩ := split_in xs ys (s ||| 2 ^ k)
  have e1 : convV xs ys (s ||| 2 ^ i) = partV xs ys (s ||| 2 ^ i) (split xs ys (s ||| 2 ^ i)) := rfl
  have e2 : convV xs ys (s ||| 2 ^ k) = partV xs ys (s ||| 2 ^ k) (split xs ys (s ||| 2 ^ k)) := rfl
  generalize split xs ys (s ||| 2 ^ i) = x at x1 x2 e1
  generalize split xs ys (s ||| 2 ^ k) = y at y1 y2 e2
  obtain ⟨u1, u2⟩ := sub_or x1 y1 (by omega)
  have c1 := split_min xs ys u1
  have c2 := split_min xs ys u2
  rw [part _ _ b1 x1] at e1
  rw [part _ _ b2 y1] at e2
  rw [part _ _ b3 u1] at c1
  rw [part _ _ hs u2] at c2
  have c3 := (sb_of h).four (X := x) (Y := y) (by omega) (by omega)
  have w1 := weigh_four ws x y N
  have w2 := weigh_four ws (s ||| 2 ^ i) (s ||| 2 ^ k) N
  rw [show (s ||| 2 ^ i) ||| (s ||| 2 ^ k) = s ||| 2 ^ i ||| 2 ^ k by
      apply Nat.eq_of_testBit_eq; intro q
      simp only [Nat.testBit_or]
      cases s.testBit q <;> cases (2 ^ i).testBit q <;> cases (2 ^ k).testBit q <;> rfl,
    show (s ||| 2 ^ i) &&& (s ||| 2 ^ k) = s by
      apply Nat.eq_of_testBit_eq; intro q
      simp only [Nat.testBit_and, Nat.testBit_or, Nat.testBit_two_pow]
      by_cases e1 : i = q
      · have e2 : ¬ k = q := by omega
        simp only [e1, e2, decide_true, decide_false]
        cases s.testBit q <;> rfl
      · simp only [e1, decide_false]
        cases s.testBit q <;> cases decide (k = q) <;> rfl] at w2
  omega
theorem reduce_law {n : Int} {xs ws : List Int} (hb : (reduceFn n xs ws).2.2 = true) (h : isSub n xs = true) : isSub (reduceFn n xs ws).1 (reduceFn n xs ws).2.1 = true := by
  unfold reduceFn at hb ⊢
  split at hb
  · rename_i hh
    rw [if_pos hh]
    obtain ⟨hm, hf, hn⟩ := hh
    unfold modFn at hm hn hb ⊢
    split at hm
    · rename_i hw
      rw [if_pos hw] at hn hb ⊢
      unfold made at hm
      split at hm
      · rename_i hg
        have hmade : made (ws.length : Int) (tab (2 ^ ws.length) fun s => 0 + weigh ws s ws.length) = ((ws.length : Int), (tab (2 ^ ws.length) fun s => 0 + weigh ws s ws.length), true) := if_pos hg
        rw [hmade] at hn hb ⊢
        have hn' : (ws.length : Int) = n := hn
        subst hn'
        unfold convFn at hb ⊢
        split at hb
        · rename_i hfit
          rw [if_pos hfit]
          unfold made at hb ⊢
          split at hb
          · rename_i hc
            rw [if_pos hc]
            exact conv_sub (ws := ws) h (fun y hy => by
              show (tab (2 ^ ws.length) _).getD y 0 = _
              rw [tab_at _ hy]; omega) hc
          · cases hb
        · cases hb
      · cases hm
    · cases hm
  · cases hb
theorem conv_le {xs ys : List Int} {s : Nat} (hs : s < 32) : convV ys xs s ≤ convV xs ys s := by
  obtain ⟨h1, h2⟩ := split_in xs ys s
  have e : convV xs ys s = partV xs ys s (split xs ys s) := rfl
  rw [e]
  generalize split xs ys s = x at h1 h2
  have h3 := (rest_of s hs x (by omega) h1).2.2
  have := split_min ys xs h3
  unfold partV at this ⊢
  rw [show s - (s - x) = x by omega] at this
  omega
theorem conv_comm {xs ys : List Int} {s : Nat} (hs : s < 32) : convV ys xs s = convV xs ys s := by
  have h1 := conv_le (xs := xs) (ys := ys) hs
  have h2 := conv_le (xs := ys) (ys := xs) hs
  omega
/-- Convolutions do not ask which function comes first. -/
theorem convFn_comm (n : Int) (xs : List Int) (m : Int) (ys : List Int) : convFn m ys n xs = convFn n xs m ys := by
  unfold convFn
  by_cases h : fits n xs m ys = true
  · obtain ⟨hf, hg, rfl⟩ := fits_yes h
    have h' : fits n ys n xs = true := by unfold fits; simp [hf, hg]
    rw [if_pos h, if_pos h']
    obtain ⟨-, -, l1, -⟩ := isFn_yes hf
    obtain ⟨-, -, l2, -⟩ := isFn_yes hg
    have h32 := isFn_len hf
    rw [l2, ← l1, tab_congr fun s hs => conv_comm (xs := xs) (ys := ys) (s := s) (by omega)]
  · have h' : ¬ fits m ys n xs = true := fun h' => h (by
      obtain ⟨hf, hg, rfl⟩ := fits_yes h'
      unfold fits; simp [hf, hg])
    rw [if_neg h, if_neg h']

end Go.Proofs.YtfpoiiennlhphaaDoor.M
