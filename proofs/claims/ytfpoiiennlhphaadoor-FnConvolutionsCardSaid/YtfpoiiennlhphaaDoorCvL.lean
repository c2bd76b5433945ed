/-
  The law of convolutions, as plain mathematics: what it asks of splits, hulls, truncations, reductions.
-/
import Derived.Test.YtfpoiiennlhphaaDoorAllM
import Derived.Test.YtfpoiiennlhphaaDoorKc
namespace Go.Proofs.YtfpoiiennlhphaaDoor.M
set_option linter.unusedVariables false
theorem val_at {n : Int} {zs : List Int} (hf : isFn n zs = true) {k : Nat} (hk : k < zs.length) : valueOf n zs (k : Int) = zs.getD k 0 := by
  obtain ⟨h0, h5, hl, -⟩ := isFn_yes hf
  obtain ⟨N, rfl⟩ := Int.eq_ofNat_of_zero_le h0
  rw [Int.toNat_natCast] at hl
  have hs : isSet (N : Int) (k : Int) = true := by
    unfold isSet
    rw [Int.toNat_natCast]
    simp only [Bool.and_eq_true, decide_eq_true_eq]
    have : k < 2 ^ N := by omega
    exact ⟨by omega, by exact_mod_cast this⟩
  unfold valueOf
  rw [if_pos ⟨hf, hs⟩, Int.toNat_natCast]
/-- What the law asks of a convolution's values. -/
theorem conv_facts {n : Int} {xs : List Int} {m : Int} {ys : List Int} (hb : (convFn n xs m ys).2.2 = true) {j : Nat} (hj : j < xs.length) :
    ∃ x : Nat, x ≤ j ∧ j < 32 ∧ x &&& j = x ∧ splitOf n xs m ys (j : Int) = ((x : Int), true) ∧ valueOf (convFn n xs m ys).1 (convFn n xs m ys).2.1 (j : Int) = valueOf n xs (x : Int) + valueOf m ys ((j - x : Nat) : Int) ∧ valueOf (convFn n xs m ys).1 (convFn n xs m ys).2.1 (j : Int) ≤ valueOf n xs (j : Int) + valueOf m ys 0 := by
  by_cases hf : fits n xs m ys = true
  · obtain ⟨h1, h2, rfl⟩ := fits_yes hf
    unfold convFn at hb ⊢
    rw [if_pos hf] at hb ⊢
    unfold made at hb ⊢
    by_cases hm : isFn n (tab xs.length (convV xs ys)) = true
    · rw [if_pos hm] at hb ⊢
      have h32 := (isFn_len h1).2
      obtain ⟨h0, -, hl, -⟩ := isFn_yes h1
      obtain ⟨-, -, hl2, -⟩ := isFn_yes h2
      have hll : ys.length = xs.length := hl2.trans hl.symm
      obtain ⟨i1, i2⟩ := split_in xs ys j
      have hset : isSet n (j : Int) = true := by
        obtain ⟨N, rfl⟩ := Int.eq_ofNat_of_zero_le h0
        rw [Int.toNat_natCast] at hl
        unfold isSet
        rw [Int.toNat_natCast]
        simp only [Bool.and_eq_true, decide_eq_true_eq]
        have : j < 2 ^ N := by omega
        exact ⟨by omega, by exact_mod_cast this⟩
      have hk : valueOf n (tab xs.length (convV xs ys)) (j : Int) = convV xs ys j := by
        rw [val_at hm (by rw [tab_length]; exact hj), tab_at _ hj]
      refine ⟨split xs ys j, i2, by omega, i1, ?_, ?_, ?_⟩
      · unfold splitOf
        rw [if_pos ⟨hf, hset⟩, Int.toNat_natCast]
      · show valueOf n (tab xs.length (convV xs ys)) (j : Int) = _
        rw [hk, val_at h1 (by omega), val_at h2 (by omega)]
        rfl
      · show valueOf n (tab xs.length (convV xs ys)) (j : Int) ≤ _
        have h := split_min xs ys (s := j) (x := j) (Nat.and_self j)
        have z := val_at h2 (k := 0) (by omega)
        rw [hk, val_at h1 hj, show (0 : Int) = ((0 : Nat) : Int) from rfl, z]
        unfold partV at h
        rwa [Nat.sub_self] at h
    · rw [if_neg hm] at hb
      cases hb
  · unfold convFn at hb
    rw [if_neg hf] at hb
    cases hb
/-- What the law asks of a hull. -/
theorem hull_facts {n : Int} {xs : List Int} (hb : (hullFn n xs).2.2 = true) : isInc (hullFn n xs).1 (hullFn n xs).2.1 = true ∧ (isSub n xs = true → isSub (hullFn n xs).1 (hullFn n xs).2.1 = true) ∧ isInc n xs = C.eqFn n xs (hullFn n xs).1 (hullFn n xs).2.1 := by
  by_cases hf : isFn n xs = true
  · unfold hullFn
    rw [if_pos hf]
    refine ⟨hull_inc hf, fun h => hull_sub h, ?_⟩
    show _ = C.eqFn n xs n (tab xs.length (hullV xs))
    unfold C.eqFn
    rw [inc_hull hf]
    simp
  · unfold hullFn at hb
    rw [if_neg hf] at hb
    cases hb
theorem val_bd6 (n : Int) (xs : List Int) (s : Int) : -9999 ≤ valueOf n xs s ∧ valueOf n xs s ≤ 1000 := by
  unfold valueOf
  split
  · rename_i hh
    obtain ⟨hf, hs⟩ := hh
    obtain ⟨h0, h5, hl, hv⟩ := isFn_yes hf
    obtain ⟨s0, s1⟩ := isSet_yes hs
    have := hv s.toNat (by omega)
    omega
  · omega

end Go.Proofs.YtfpoiiennlhphaaDoor.M
