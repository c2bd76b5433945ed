/-
  What the elements add, listed by elements, as plain mathematics.
-/
import Derived.Test.YtlbefommcahkeaaExP
namespace Go.Proofs.Ytlbefommcahkeaa.M
set_option linter.unusedVariables false
set_option linter.unusedSimpArgs false

theorem sm_one (j : Nat) (v : Int) : ∀ m, sm (fun e => if e = j then v else 0) m = if j < m then v else 0
  | 0 => rfl
  | m + 1 => by
    rw [sm, sm_one j v m]
    by_cases h1 : j < m
    · rw [if_pos h1, if_neg (by omega), if_pos (by omega), Int.add_zero]
    · by_cases h2 : m = j
      · rw [if_neg h1, if_pos h2, if_pos (by omega), Int.zero_add]
      · rw [if_neg h1, if_neg h2, if_neg (by omega)]; rfl
/-- What the first k elements of an order add, at their places. -/
def gain (xs : List Int) (o : Nat → Nat) (m : Nat) : Nat → List Int
  | 0 => List.replicate m 0
  | k + 1 => (gain xs o m k).set (o k) (dl xs o k)
theorem gain_len (xs : List Int) (o : Nat → Nat) (m : Nat) : ∀ k, (gain xs o m k).length = m
  | 0 => List.length_replicate
  | k + 1 => by rw [gain, List.length_set, gain_len xs o m k]
theorem set_getD (l : List Int) (j e : Nat) (v : Int) (hj : j < l.length) : (l.set j v).getD e 0 = if e = j then v else l.getD e 0 := by
  rw [List.getD_eq_getElem?_getD, List.getElem?_set]
  by_cases h : j = e
  · subst h
    rw [if_pos rfl, if_pos hj, if_pos rfl]
    rfl
  · rw [if_neg h, if_neg (fun c => h c.symm), List.getD_eq_getElem?_getD]
theorem repl_getD (m e : Nat) : (List.replicate m (0 : Int)).getD e 0 = 0 := by
  rw [List.getD_eq_getElem?_getD, List.getElem?_replicate]
  split <;> rfl
theorem gain_zero (xs : List Int) {o : Nat → Nat} {m : Nat} (ho : ∀ i, i < m → o i < m) (e : Nat) : ∀ k, k ≤ m → (∀ i, i < k → o i ≠ e) → (gain xs o m k).getD e 0 = 0
  | 0, _, _ => repl_getD m e
  | k + 1, hk, h => by
    rw [gain, set_getD _ _ _ _ (by rw [gain_len]; exact ho k (by omega)), if_neg (fun c => h k (by omega) c.symm), gain_zero xs ho e k (by omega) fun i hi => h i (by omega)]
theorem gain_sum (xs : List Int) {o : Nat → Nat} {m : Nat} (p : Pm m o) (w : Nat → Int) : ∀ k, k ≤ m → sm (fun e => w e * (gain xs o m k).getD e 0) m = ax xs o w k
  | 0, _ => by
    show _ = 0
    rw [sm_congr (g := fun _ => 0) m fun e _ => by rw [gain, repl_getD, Int.mul_zero], sm_zero]
  | k + 1, hk => by
    have e1 : ∀ e, e < m → w e * (gain xs o m (k + 1)).getD e 0 = w e * (gain xs o m k).getD e 0 + (if e = o k then w (o k) * dl xs o k else 0) := fun e he => by
      rw [gain, set_getD _ _ _ _ (by rw [gain_len]; exact p.lt k (by omega))]
      by_cases c : e = o k
      · rw [if_pos c, if_pos c, c, gain_zero xs p.lt (o k) k (by omega) fun i hi => p.inj i k hi (by omega), Int.mul_zero, Int.zero_add]
      · rw [if_neg c, if_neg c, Int.add_zero]
    rw [sm_congr m e1, sm_add, gain_sum xs p w k (by omega), sm_one, if_pos (p.lt k (by omega))]
    rfl
theorem gain_bd {xs : List Int} {o : Nat → Nat} {m : Nat} (ho : ∀ i, i < m → o i < m) (hd : ∀ i, i < m → -2000 ≤ dl xs o i ∧ dl xs o i ≤ 2000) (e : Nat) : ∀ k, k ≤ m → -2000 ≤ (gain xs o m k).getD e 0 ∧ (gain xs o m k).getD e 0 ≤ 2000
  | 0, _ => by rw [gain, repl_getD]; decide
  | k + 1, hk => by
    rw [gain, set_getD _ _ _ _ (by rw [gain_len]; exact ho k (by omega))]
    split
    · exact hd k (by omega)
    · exact gain_bd ho hd e k (by omega)

end Go.Proofs.Ytlbefommcahkeaa.M
