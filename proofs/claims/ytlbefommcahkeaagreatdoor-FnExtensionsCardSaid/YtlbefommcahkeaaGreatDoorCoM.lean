/-
  Orders as injections, corners as lists of gains: plain mathematics.
-/
import Derived.Test.YtlbefommcahkeaaGreatDoorAllM
import Derived.Test.YtlbefommcahkeaaGreatDoorBsA
namespace Go.Proofs.YtlbefommcahkeaaGreatDoor.M
set_option linter.unusedVariables false
set_option linter.unusedSimpArgs false

theorem seen_has {p : List Int} {i : Nat} : ∀ m, i < m → (seenTo p m).testBit (p.getD i 0).toNat = true
  | 0, h => absurd h (by omega)
  | m + 1, h => by
    rw [seenTo, Nat.testBit_or]
    by_cases e : i = m
    · subst e; rw [Nat.testBit_two_pow_self, Bool.or_true]
    · rw [seen_has m (by omega), Bool.true_or]
/-- An order's numbers. -/
def numF (p : List Int) (i : Nat) : Nat := (p.getD i 0).toNat
theorem Pm.eq {n : Nat} {o : Nat → Nat} (q : Pm n o) {i k : Nat} (hi : i < n) (hk : k < n) (e : o i = o k) : i = k := by
  rcases Nat.lt_trichotomy i k with h | h | h
  · exact absurd e (q.inj i k h hk)
  · exact h
  · exact absurd e.symm (q.inj k i h hi)
theorem perm_pm {n : Nat} {p : List Int} (h : permTo (n : Int) p n = true) (ho : ∀ j, j < n → ∃ i, i < n ∧ numF p i = j) : Pm n (numF p) := by
  refine ⟨fun i hi => ?_, fun i k hik hk e => ?_, ho⟩
  · have := (perm_at n h i hi).1
    unfold numF; omega
  · have h1 := (perm_at n h k hk).2
    have h2 := seen_has (p := p) k hik
    unfold numF at e
    rw [e, h1] at h2
    cases h2
theorem orders_onto : ∀ n, n < 5 → ∀ p ∈ ordersTo n n [], ∀ j, j < n → ∃ i, i < n ∧ numF p i = j := by decide +kernel
theorem add_mem {acc : List (List Int)} {x y : List Int} : y ∈ addNew acc x ↔ y ∈ acc ∨ y = x := by
  unfold addNew
  split
  · rw [List.mem_append, List.mem_singleton]
  · rename_i h
    constructor
    · exact .inl
    · rintro (h1 | rfl)
      · exact h1
      · have key : ∀ m, m ≤ acc.length → freshTo acc y m = false → y ∈ acc := by
          intro m
          induction m with
          | zero => intro _ hh; cases hh
          | succ m ih =>
            intro hm hh
            unfold freshTo at hh
            rw [Bool.and_eq_false_iff] at hh
            rcases hh with hh | hh
            · exact ih (by omega) hh
            · rw [Bool.not_eq_false', decide_eq_true_eq] at hh
              rw [← hh, List.getD_eq_getElem?_getD, List.getElem?_eq_getElem (by omega)]
              exact List.getElem_mem (by omega)
        exact key acc.length (Nat.le_refl _) (by simpa using h)
theorem corners_mem {xs : List Int} {n : Nat} {ps : List (List Int)} {y : List Int} : ∀ m, y ∈ cornersTo xs n ps m ↔ ∃ i, i < m ∧ y = cornerTo xs n (ps.getD i []) (ps.getD i []).length
  | 0 => by simp [cornersTo]
  | m + 1 => by
    rw [cornersTo, add_mem, corners_mem m]
    constructor
    · rintro (⟨i, hi, e⟩ | e)
      · exact ⟨i, by omega, e⟩
      · exact ⟨m, by omega, e⟩
    · rintro ⟨i, hi, e⟩
      by_cases h : i = m
      · subst h; exact .inr e
      · exact .inl ⟨i, by omega, e⟩
theorem corners_gain {n : Nat} {xs y : List Int} (h : y ∈ (cornersOf (n : Int) xs).1) : ∃ o, Pm n o ∧ y = gain xs o n n := by
  unfold cornersOf at h
  split at h
  · rename_i hh
    rw [Int.toNat_natCast] at h
    obtain ⟨i, hi, e⟩ := (corners_mem _).1 h
    rw [List.getD_eq_getElem?_getD, List.getElem?_eq_getElem hi] at e
    have e' : y = cornerTo xs n (ordersTo n n [])[i] (ordersTo n n [])[i].length := e
    have hp : (ordersTo n n [])[i] ∈ ordersTo n n [] := List.getElem_mem hi
    generalize (ordersTo n n [])[i] = p at e' hp
    have h4 : n < 5 := by omega
    obtain ⟨o1, o2⟩ := orders_ok n h4 p hp
    rw [o2] at o1 e'
    refine ⟨numF p, perm_pm o1 (orders_onto n h4 p hp), ?_⟩
    rw [e', corner_gain xs n n (o := numF p) fun j hj => by
      have := (perm_at n o1 j hj).1
      unfold numF; omega]
  · cases h

end Go.Proofs.YtlbefommcahkeaaGreatDoor.M
