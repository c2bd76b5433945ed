/-
  Submodular functions as plain mathematics: the first set with two elements that add more together.
-/
import Derived.Test.YtlbefommcahkeaaValM
namespace Go.Proofs.Ytlbefommcahkeaa.M
set_option linter.unusedVariables false

/-- The first one from place j on, of c places. -/
def firstSome {α : Type} (f : Nat → Option α) : Nat → Nat → Option α
  | 0, _ => none
  | c + 1, j => match f j with
    | some v => some v
    | none => firstSome f c (j + 1)
theorem fs_hit {α : Type} {f : Nat → Option α} {v : α} : ∀ (c lo j : Nat), lo ≤ j → j < lo + c → (∀ i, lo ≤ i → i < j → f i = none) → f j = some v → firstSome f c lo = some v
  | 0, lo, j, h1, h2, _, _ => absurd h2 (by omega)
  | c + 1, lo, j, h1, h2, h3, h4 => by
    by_cases e : lo = j
    · subst e
      simp [firstSome, h4]
    · rw [firstSome, h3 lo (Nat.le_refl _) (by omega)]
      exact fs_hit c (lo + 1) j (by omega) (by omega) (fun i hi hj => h3 i (by omega) hj) h4
theorem fs_none {α : Type} {f : Nat → Option α} : ∀ (c lo : Nat), (∀ i, lo ≤ i → i < lo + c → f i = none) → firstSome f c lo = none
  | 0, _, _ => rfl
  | c + 1, lo, h => by
    rw [firstSome, h lo (Nat.le_refl _) (by omega)]
    exact fs_none c (lo + 1) fun i hi hj => h i (by omega) (by omega)

/-- Do i and k, outside of s, add more to s together than one by one? -/
def bad (xs : List Int) (s i k : Nat) : Bool := !s.testBit i && (!s.testBit k && decide (xs.getD (s ||| 2 ^ i) 0 + xs.getD (s ||| 2 ^ k) 0 < xs.getD (s ||| 2 ^ i ||| 2 ^ k) 0 + xs.getD s 0))
def violK (n : Nat) (xs : List Int) (s i : Nat) : Option (List Int) := firstSome (fun k => if bad xs s i k = true then some [(s : Int), (i : Int), (k : Int)] else none) (n - (i + 1)) (i + 1)
def violI (n : Nat) (xs : List Int) (s : Nat) : Option (List Int) := firstSome (violK n xs s) n 0
def violS (n : Nat) (xs : List Int) : Option (List Int) := firstSome (violI n xs) xs.length 0
/-- The first violation, and whether there is one. -/
def viol (n : Int) (xs : List Int) : List Int × Bool := if isFn n xs = true then match violS n.toNat xs with
    | some l => (l, true)
    | none => ([], false)
  else ([], false)
theorem viol_hit {n : Nat} {xs : List Int} {s i k : Nat} (hf : isFn (n : Int) xs = true) (hs : s < xs.length) (hi : i < n) (hk : k < n) (hik : i < k)
    (h1 : ∀ s', s' < s → violI n xs s' = none) (h2 : ∀ i', i' < i → violK n xs s i' = none) (h3 : ∀ k', i < k' → k' < k → bad xs s i k' = false) (hb : bad xs s i k = true) :
    viol (n : Int) xs = ([(s : Int), (i : Int), (k : Int)], true) := by
  have e1 : violK n xs s i = some [(s : Int), (i : Int), (k : Int)] := fs_hit _ _ k (by omega) (by omega) (fun j hj hjk => by rw [if_neg]; rw [h3 j (by omega) hjk]; decide) (if_pos hb)
  have e2 : violI n xs s = some [(s : Int), (i : Int), (k : Int)] := fs_hit _ _ i (by omega) (by omega) (fun j _ hj => h2 j hj) e1
  have e3 : violS n xs = some [(s : Int), (i : Int), (k : Int)] := fs_hit _ _ s (by omega) (by omega) (fun j _ hj => h1 j hj) e2
  unfold viol
  rw [if_pos hf, Int.toNat_natCast, e3]
theorem viol_none {n : Nat} {xs : List Int} (h1 : ∀ s', s' < xs.length → violI n xs s' = none) : viol (n : Int) xs = ([], false) := by
  have e3 : violS n xs = none := fs_none _ _ fun i _ hi => h1 i (by omega)
  unfold viol
  split
  · rw [Int.toNat_natCast, e3]
  · rfl
theorem violK_none {n : Nat} {xs : List Int} {s i : Nat} (h3 : ∀ k', i < k' → k' < n → bad xs s i k' = false) : violK n xs s i = none :=
  fs_none _ _ fun j hj hjn => by rw [if_neg]; rw [h3 j (by omega) (by omega)]; decide
theorem violI_none {n : Nat} {xs : List Int} {s : Nat} (h2 : ∀ i', i' < n → violK n xs s i' = none) : violI n xs s = none := fs_none _ _ fun i _ hi => h2 i (by omega)
theorem viol_no {n : Int} {xs : List Int} (h : isFn n xs = false) : viol n xs = ([], false) := by
  unfold viol
  rw [if_neg (by rw [h]; decide)]
theorem viol_len (n : Int) (xs : List Int) : (viol n xs).1.length ≤ 3 := by
  unfold viol
  split
  · split
    · rename_i l h
      have : ∀ {α : Type} {P : α → Prop} {f : Nat → Option α} (hf : ∀ j v, f j = some v → P v) (c lo : Nat) (v : α), firstSome f c lo = some v → P v := by
        intro α P f hf c
        induction c with
        | zero => intro lo v hv; cases hv
        | succ c ih =>
          intro lo v hv
          rw [firstSome] at hv
          split at hv
          · rename_i u hu
            injection hv with hv
            subst hv
            exact hf lo _ hu
          · exact ih _ _ hv
      have hl : l.length ≤ 3 := this (P := fun l : List Int => l.length ≤ 3) (fun s v hv => this (P := fun l : List Int => l.length ≤ 3) (fun i v hv => this (P := fun l : List Int => l.length ≤ 3) (fun k v hv => by
        split at hv
        · injection hv with hv; subst hv; simp
        · cases hv) _ _ v hv) _ _ v hv) _ _ l h
      exact hl
    · simp
  · simp
/-- Whether it is submodular, increasing, and so on. -/
def isSub (n : Int) (xs : List Int) : Bool := isFn n xs && !(viol n xs).2
def isSuper (n : Int) (xs : List Int) : Bool := (scaleFn n xs (-1)).2.2 && isSub (scaleFn n xs (-1)).1 (scaleFn n xs (-1)).2.1
def isMod (n : Int) (xs : List Int) : Bool := isSub n xs && isSuper n xs
def isGround (n : Int) (xs : List Int) : Bool := isFn n xs && decide (xs.getD 0 0 = 0)
/-- No element takes from a set: all sets below s, all elements below i. -/
def incAt (xs : List Int) (s i : Nat) : Bool := decide (xs.getD s 0 ≤ xs.getD (s ||| 2 ^ i) 0)
def isInc (n : Int) (xs : List Int) : Bool := isFn n xs && (List.range xs.length).all fun s => (List.range n.toNat).all fun i => incAt xs s i
def isPoly (n : Int) (xs : List Int) : Bool := isGround n xs && (isInc n xs && isSub n xs)
/-- The weights of a set, added up. -/
def weigh (ws : List Int) (s : Nat) : Nat → Int
  | 0 => 0
  | i + 1 => if s.testBit i = true then weigh ws s i + ws.getD i 0 else weigh ws s i
def modFn (ws : List Int) (c : Int) : Int × List Int × Bool :=
  if ws.length ≤ 5 ∧ -1000 ≤ c ∧ c ≤ 1000 ∧ ∀ x ∈ ws, -1000 ≤ x ∧ x ≤ 1000 then made (ws.length : Int) (tab (2 ^ ws.length) fun s => c + weigh ws s ws.length) else (0, [], false)
theorem modFn_len (ws : List Int) (c : Int) : (modFn ws c).2.1.length ≤ 32 := by
  unfold modFn; split <;> first | exact made_len _ _ | exact Nat.zero_le _

end Go.Proofs.Ytlbefommcahkeaa.M
