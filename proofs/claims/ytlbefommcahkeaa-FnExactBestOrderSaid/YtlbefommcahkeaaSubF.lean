/-
  Submodular functions as plain mathematics: no set shows a violation.
-/
import Derived.Test.YtlbefommcahkeaaSubM
namespace Go.Proofs.Ytlbefommcahkeaa.M
set_option linter.unusedVariables false

/-- Submodular: no set shows a violation. -/
theorem fs_all {α : Type} {f : Nat → Option α} : ∀ (c lo : Nat), firstSome f c lo = none → ∀ i, lo ≤ i → i < lo + c → f i = none
  | 0, lo, _, i, h1, h2 => absurd h2 (by omega)
  | c + 1, lo, h, i, h1, h2 => by
    rw [firstSome] at h
    cases hf : f lo with
    | some v => rw [hf] at h; cases h
    | none =>
      rw [hf] at h
      by_cases e : lo = i
      · subst e; exact hf
      · exact fs_all c (lo + 1) h i (by omega) (by omega)
theorem sub_iff {n : Nat} {xs : List Int} : isSub (n : Int) xs = true ↔ isFn (n : Int) xs = true ∧ ∀ s i k, s < xs.length → i < n → k < n → i < k → bad xs s i k = false := by
  unfold isSub
  constructor
  · intro h
    simp only [Bool.and_eq_true, Bool.not_eq_true'] at h
    obtain ⟨hf, hv⟩ := h
    refine ⟨hf, fun s i k hs hi hk hik => ?_⟩
    unfold viol at hv
    rw [if_pos hf, Int.toNat_natCast] at hv
    have h1 : violS n xs = none := by
      cases h : violS n xs with
      | none => rfl
      | some l => rw [h] at hv; cases hv
    have h2 := fs_all _ _ h1 s (by omega) (by omega)
    have h3 := fs_all _ _ h2 i (by omega) (by omega)
    have h4 := fs_all _ _ h3 k (by omega) (by omega)
    cases hb : bad xs s i k
    · rfl
    · rw [hb] at h4; cases h4
  · rintro ⟨hf, h⟩
    rw [hf, viol_none (n := n) (xs := xs) fun s hs => violI_none fun i hi => violK_none fun k hik hk => h s i k hs hi hk hik]
    rfl
theorem bad_false {n : Nat} {xs : List Int} {s i k : Nat} (h : bad xs s i k = false) (h1 : s.testBit i = false) (h2 : s.testBit k = false) : xs.getD (s ||| 2 ^ i ||| 2 ^ k) 0 + xs.getD s 0 ≤ xs.getD (s ||| 2 ^ i) 0 + xs.getD (s ||| 2 ^ k) 0 := by
  unfold bad at h
  rw [h1, h2] at h
  simpa using h

end Go.Proofs.Ytlbefommcahkeaa.M
