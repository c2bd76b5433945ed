/-
  A list of sets kept as a set of them: when it is a lattice, as plain mathematics.
-/
import Derived.Test.YtlfbgaapigcpjaaAllM
namespace Go.Proofs.Ytlfbgaapigcpjaa.M
set_option linter.unusedVariables false
set_option linter.unusedSimpArgs false

/-- Is x one of the first j elements? -/
def lset (l : List Int) : Nat → Int → Bool
  | 0, _ => false
  | j + 1, x => lset l j x || decide (x = l.getD j 0)
theorem lset_iff {l : List Int} {x : Int} : ∀ j, lset l j x = true ↔ ∃ i, i < j ∧ x = l.getD i 0
  | 0 => by simp [lset]
  | j + 1 => by
    rw [lset, Bool.or_eq_true, lset_iff j, decide_eq_true_eq]
    constructor
    · rintro (⟨i, a, b⟩ | b)
      · exact ⟨i, by omega, b⟩
      · exact ⟨j, by omega, b⟩
    · rintro ⟨i, a, b⟩
      by_cases e : i = j
      · subst e; exact .inr b
      · exact .inl ⟨i, by omega, b⟩
theorem lset_has (l : List Int) (x : Int) : lset l l.length x = hasI l x := by
  rw [Bool.eq_iff_iff, lset_iff, hasI_mem]
  exact ⟨fun ⟨i, a, b⟩ => ⟨i, a, b.symm⟩, fun ⟨i, a, b⟩ => ⟨i, a, b.symm⟩⟩
theorem latTo_iff {l : List Int} : ∀ m, latTo l m = true ↔ ∀ i, i < m → (0 ≤ l.getD i 0 ∧ l.getD i 0 ≤ 1023) ∧ latRow l i i = true
  | 0 => by simp [latTo]
  | m + 1 => by
    rw [latTo, Bool.and_eq_true, latTo_iff m, Bool.and_eq_true, decide_eq_true_eq]
    constructor
    · rintro ⟨a, b⟩ i hi
      by_cases e : i = m
      · subst e; exact b
      · exact a i (by omega)
    · exact fun a => ⟨fun i hi => a i (by omega), a m (by omega)⟩
theorem latRow_iff {l : List Int} {i : Nat} : ∀ m, latRow l i m = true ↔ ∀ k, k < m → hasI l ((l.getD i 0).toNat &&& (l.getD k 0).toNat : Nat) = true ∧ hasI l ((l.getD i 0).toNat ||| (l.getD k 0).toNat : Nat) = true
  | 0 => by simp [latRow]
  | m + 1 => by
    rw [latRow, Bool.and_eq_true, latRow_iff m, Bool.and_eq_true]
    constructor
    · rintro ⟨a, b⟩ k hk
      by_cases e : k = m
      · subst e; exact b
      · exact a k (by omega)
    · exact fun a => ⟨fun k hk => a k (by omega), a m (by omega)⟩
theorem lat_no_range {l : List Int} {j : Nat} (hj : j < l.length) (h : ¬ (0 ≤ l.getD j 0 ∧ l.getD j 0 ≤ 1023)) : isLat l = false := by
  cases e : isLat l
  · rfl
  · unfold isLat at e
    rw [Bool.and_eq_true, latTo_iff] at e
    exact absurd (e.2 j hj).1 h
/-- Two sets without their union, or without what they have in common. -/
theorem lat_no_pair {l : List Int} {a c : Nat} (ha : lset l l.length a = true) (hc : lset l l.length c = true) (h : lset l l.length ((a ||| c : Nat) : Int) = false ∨ lset l l.length ((a &&& c : Nat) : Int) = false) : isLat l = false := by
  cases e : isLat l
  · rfl
  · exfalso
    unfold isLat at e
    rw [Bool.and_eq_true, latTo_iff] at e
    obtain ⟨i, hi, ea⟩ := (lset_iff _).1 ha
    obtain ⟨k, hk, ec⟩ := (lset_iff _).1 hc
    have key : ∀ i k, i < l.length → k < i → hasI l (((l.getD i 0).toNat &&& (l.getD k 0).toNat : Nat) : Int) = true ∧ hasI l (((l.getD i 0).toNat ||| (l.getD k 0).toNat : Nat) : Int) = true := fun i k hi hk => (latRow_iff i).1 (e.2 i hi).2 k hk
    have hor : lset l l.length ((a ||| c : Nat) : Int) = true ∧ lset l l.length ((a &&& c : Nat) : Int) = true := by
      rcases Nat.lt_trichotomy i k with hik | hik | hik
      · have := key k i hk hik
        rw [← ea, ← ec, Int.toNat_natCast, Int.toNat_natCast] at this
        rw [lset_has, lset_has, Nat.or_comm, Nat.and_comm]
        exact ⟨this.2, this.1⟩
      · subst hik
        obtain rfl : a = c := by omega
        rw [Nat.or_self, Nat.and_self]
        exact ⟨ha, ha⟩
      · have := key i k hi hik
        rw [← ea, ← ec, Int.toNat_natCast, Int.toNat_natCast] at this
        rw [lset_has, lset_has]
        exact ⟨this.2, this.1⟩
    rcases h with h | h
    · rw [hor.1] at h; cases h
    · rw [hor.2] at h; cases h
/-- All pairs of sets that have come, with all others. -/
def Closed (T left : Int → Bool) : Prop := ∀ a c : Nat, T a = true → left a = false → T c = true → T ((a ||| c : Nat) : Int) = true ∧ T ((a &&& c : Nat) : Int) = true
def Closed1 (T left : Int → Bool) (a : Nat) : Prop := ∀ c : Nat, T c = true → left c = false → T ((a ||| c : Nat) : Int) = true ∧ T ((a &&& c : Nat) : Int) = true
theorem closed_start (T : Int → Bool) : Closed T T := fun a c h1 h2 => by rw [h1] at h2; cases h2
theorem closed1_start (T : Int → Bool) (a : Nat) : Closed1 T T a := fun c h1 h2 => by rw [h1] at h2; cases h2
theorem closed1_step {T left : Int → Bool} {a c : Nat} (h : Closed1 T left a) (h1 : T ((a ||| c : Nat) : Int) = true) (h2 : T ((a &&& c : Nat) : Int) = true) : Closed1 T (fun z => left z && !decide (z = (c : Int))) a := by
  intro d hd hl
  by_cases e : d = c
  · subst e; exact ⟨h1, h2⟩
  · have e2 : ¬ (d : Int) = (c : Int) := by omega
    simp only [e2, decide_false, Bool.not_false, Bool.and_true] at hl
    exact h d hd hl
theorem closed_step {T left left2 : Int → Bool} {a : Nat} (h : Closed T left) (h1 : Closed1 T left2 a) (h0 : ∀ x, left2 x = false) : Closed T (fun z => left z && !decide (z = (a : Int))) := by
  intro b c hb hl hc
  by_cases e : b = a
  · subst e; exact h1 c hc (h0 _)
  · have e2 : ¬ (b : Int) = (a : Int) := by omega
    simp only [e2, decide_false, Bool.not_false, Bool.and_true] at hl
    exact h b c hb hl hc
theorem lat_yes {l : List Int} {left : Int → Bool} (hl : l.length ≤ 64) (hr : ∀ i, i < l.length → 0 ≤ l.getD i 0 ∧ l.getD i 0 ≤ 1023) (h : Closed (lset l l.length) left) (h0 : ∀ x, left x = false) : isLat l = true := by
  unfold isLat
  rw [Bool.and_eq_true, decide_eq_true_eq]
  refine ⟨hl, (latTo_iff _).2 fun i hi => ⟨hr i hi, (latRow_iff _).2 fun k hk => ?_⟩⟩
  have ri := hr i hi
  have rk := hr k (by omega)
  have := h (l.getD i 0).toNat (l.getD k 0).toNat ((lset_iff _).2 ⟨i, hi, by omega⟩) (h0 _) ((lset_iff _).2 ⟨k, by omega, by omega⟩)
  rw [lset_has, lset_has] at this
  exact ⟨this.2, this.1⟩
theorem lset_nat {l : List Int} {j : Nat} {x : Int} (hr : ∀ i, i < j → 0 ≤ l.getD i 0 ∧ l.getD i 0 ≤ 1023) (h : lset l j x = true) : ∃ s : Nat, x = s ∧ s < 1024 := by
  obtain ⟨i, hi, e⟩ := (lset_iff j).1 h
  have := hr i hi
  exact ⟨x.toNat, by omega, by omega⟩

end Go.Proofs.Ytlfbgaapigcpjaa.M
