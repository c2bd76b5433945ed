/-
  Cuts and covers as plain mathematics: edges and blocks lie flat, three and two numbers each.
-/
import Derived.Test.YtlfbgaapigcpjaaAllM
namespace Go.Proofs.Ytlfbgaapigcpjaa.M
set_option linter.unusedVariables false

/-- An edge has its ends among the elements and a weight from 0 to 20. -/
def edgeOk (n : Int) (xs : List Int) (i : Nat) : Prop := 0 ≤ xs.getD (i * 3) 0 ∧ xs.getD (i * 3) 0 < n ∧ 0 ≤ xs.getD (i * 3 + 1) 0 ∧ xs.getD (i * 3 + 1) 0 < n ∧ 0 ≤ xs.getD (i * 3 + 2) 0 ∧ xs.getD (i * 3 + 2) 0 ≤ 20
instance (n : Int) (xs : List Int) (i : Nat) : Decidable (edgeOk n xs i) := by unfold edgeOk; infer_instance
def edgesOk (n : Int) (m : Nat) (xs : List Int) : Prop := m ≤ 20 ∧ ∀ i, i < m → edgeOk n xs i
instance (n : Int) (m : Nat) (xs : List Int) : Decidable (edgesOk n m xs) := by unfold edgesOk; infer_instance
/-- A block is a set of the elements, its weight is from 0 to 20. -/
def blockOk (n : Int) (xs : List Int) (i : Nat) : Prop := isSet n (xs.getD (i * 2) 0) = true ∧ 0 ≤ xs.getD (i * 2 + 1) 0 ∧ xs.getD (i * 2 + 1) 0 ≤ 20
instance (n : Int) (xs : List Int) (i : Nat) : Decidable (blockOk n xs i) := by unfold blockOk; infer_instance
def blocksOk (n : Int) (m : Nat) (xs : List Int) : Prop := m ≤ 20 ∧ ∀ i, i < m → blockOk n xs i
instance (n : Int) (m : Nat) (xs : List Int) : Decidable (blocksOk n m xs) := by unfold blocksOk; infer_instance

/-- The sum over those that are wanted. -/
def sumIf (b : Nat → Bool) (g : Nat → Int) : Nat → Int
  | 0 => 0
  | i + 1 => if b i = true then sumIf b g i + g i else sumIf b g i
theorem sumIf_bd {b : Nat → Bool} {g : Nat → Int} {m : Nat} (h : ∀ i, i < m → 0 ≤ g i ∧ g i ≤ 20) : ∀ i, i ≤ m → 0 ≤ sumIf b g i ∧ sumIf b g i ≤ 20 * (i : Int)
  | 0, _ => by simp [sumIf]
  | i + 1, hi => by
    have h1 := sumIf_bd (b := b) h i (by omega)
    have h2 := h i (by omega)
    unfold sumIf
    split <;> omega
theorem sumIf_two {a b c : Nat → Bool} {g : Nat → Int} {m : Nat} (h : ∀ i, i < m → (a i || b i) = c i ∧ (a i && b i) = false) : ∀ i, i ≤ m → sumIf a g i + sumIf b g i = sumIf c g i
  | 0, _ => rfl
  | i + 1, hi => by
    have h1 := sumIf_two (g := g) h i (by omega)
    obtain ⟨h2, h3⟩ := h i (by omega)
    unfold sumIf
    rw [← h2, ← h1]
    cases ha : a i <;> cases hb : b i <;> simp_all <;> omega
theorem sumIf_yes {b : Nat → Bool} {g : Nat → Int} {i : Nat} (h : b i = true) : sumIf b g (i + 1) = sumIf b g i + g i := by
  show (if b i = true then sumIf b g i + g i else sumIf b g i) = _
  rw [if_pos h]
theorem sumIf_no {b : Nat → Bool} {g : Nat → Int} {i : Nat} (h : b i = false) : sumIf b g (i + 1) = sumIf b g i := by
  show (if b i = true then sumIf b g i + g i else sumIf b g i) = _
  rw [if_neg (by rw [h]; decide)]
/-- An edge has exactly one end in the set; it leaves the set; a block meets it. -/
def crossB (xs : List Int) (s i : Nat) : Bool := s.testBit (xs.getD (i * 3) 0).toNat != s.testBit (xs.getD (i * 3 + 1) 0).toNat
def leaveB (xs : List Int) (s i : Nat) : Bool := s.testBit (xs.getD (i * 3) 0).toNat && !s.testBit (xs.getD (i * 3 + 1) 0).toNat
def meetB (xs : List Int) (s i : Nat) : Bool := decide (s &&& (xs.getD (i * 2) 0).toNat ≠ 0)
def wtE (xs : List Int) (i : Nat) : Int := xs.getD (i * 3 + 2) 0
def wtB (xs : List Int) (i : Nat) : Int := xs.getD (i * 2 + 1) 0
def cutV (xs : List Int) (m s : Nat) : Int := sumIf (crossB xs s) (wtE xs) m
def dcutV (xs : List Int) (m s : Nat) : Int := sumIf (leaveB xs s) (wtE xs) m
def coverV (xs : List Int) (m s : Nat) : Int := sumIf (meetB xs s) (wtB xs) m
def cutFn (n : Int) (m : Nat) (xs : List Int) : Int × List Int × Bool := if 0 ≤ n ∧ n ≤ 5 ∧ edgesOk n m xs then made n (tab (2 ^ n.toNat) (cutV xs m)) else (0, [], false)
def dcutFn (n : Int) (m : Nat) (xs : List Int) : Int × List Int × Bool := if 0 ≤ n ∧ n ≤ 5 ∧ edgesOk n m xs then made n (tab (2 ^ n.toNat) (dcutV xs m)) else (0, [], false)
def coverFn (n : Int) (m : Nat) (xs : List Int) : Int × List Int × Bool := if 0 ≤ n ∧ n ≤ 5 ∧ blocksOk n m xs then made n (tab (2 ^ n.toNat) (coverV xs m)) else (0, [], false)
theorem cross_at {xs : List Int} {s i F T : Nat} (hF : xs.getD (i * 3) 0 = (F : Int)) (hT : xs.getD (i * 3 + 1) 0 = (T : Int)) : crossB xs s i = (s.testBit F != s.testBit T) := by
  unfold crossB; rw [hF, hT, Int.toNat_natCast, Int.toNat_natCast]
theorem leave_at {xs : List Int} {s i F T : Nat} (hF : xs.getD (i * 3) 0 = (F : Int)) (hT : xs.getD (i * 3 + 1) 0 = (T : Int)) : leaveB xs s i = (s.testBit F && !s.testBit T) := by
  unfold leaveB; rw [hF, hT, Int.toNat_natCast, Int.toNat_natCast]
theorem meet_at {xs : List Int} {s i S : Nat} (hS : xs.getD (i * 2) 0 = (S : Int)) : meetB xs s i = decide (s &&& S ≠ 0) := by
  unfold meetB; rw [hS, Int.toNat_natCast]
theorem cutFn_len (n : Int) (m : Nat) (xs : List Int) : (cutFn n m xs).2.1.length ≤ 32 := by
  unfold cutFn; split <;> first | exact made_len _ _ | exact Nat.zero_le _
theorem dcutFn_len (n : Int) (m : Nat) (xs : List Int) : (dcutFn n m xs).2.1.length ≤ 32 := by
  unfold dcutFn; split <;> first | exact made_len _ _ | exact Nat.zero_le _
theorem coverFn_len (n : Int) (m : Nat) (xs : List Int) : (coverFn n m xs).2.1.length ≤ 32 := by
  unfold coverFn; split <;> first | exact made_len _ _ | exact Nat.zero_le _
theorem edge_wt {n : Int} {m : Nat} {xs : List Int} (h : ∀ i, i < m → edgeOk n xs i) : ∀ i, i < m → 0 ≤ wtE xs i ∧ wtE xs i ≤ 20 := fun i hi => ⟨(h i hi).2.2.2.2.1, (h i hi).2.2.2.2.2⟩
theorem block_wt {n : Int} {m : Nat} {xs : List Int} (h : ∀ i, i < m → blockOk n xs i) : ∀ i, i < m → 0 ≤ wtB xs i ∧ wtB xs i ≤ 20 := fun i hi => (h i hi).2
theorem testBit_compl {n s i : Nat} (hi : i < n) : (s ^^^ (2 ^ n - 1)).testBit i = !s.testBit i := by
  rw [Nat.testBit_xor, Nat.testBit_two_pow_sub_one]
  simp [hi]
/-- What leaves a set and what leaves its complement cross it. -/
theorem leave_two {n : Nat} {m : Nat} {xs : List Int} (h : ∀ i, i < m → edgeOk (n : Int) xs i) (s : Nat) : dcutV xs m s + dcutV xs m (s ^^^ (2 ^ n - 1)) = cutV xs m s := by
  refine sumIf_two (fun i hi => ?_) m (Nat.le_refl _)
  obtain ⟨h1, h2, h3, h4, -, -⟩ := h i hi
  unfold leaveB crossB
  rw [testBit_compl (by omega), testBit_compl (by omega)]
  cases s.testBit (xs.getD (i * 3) 0).toNat <;> cases s.testBit (xs.getD (i * 3 + 1) 0).toNat <;> simp

end Go.Proofs.Ytlfbgaapigcpjaa.M
