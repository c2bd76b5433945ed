/-
  What spec.IsConvexAt asks, as plain mathematics.
-/
import Derived.Test.YtlbefommcahkeaaExM
namespace Go.Proofs.Ytlbefommcahkeaa.M
set_option linter.unusedVariables false
set_option linter.unusedSimpArgs false

theorem extAt_two (n : Int) (fs ws : List Int) : (extAt n fs ws).2 = extOk n fs ws := by
  unfold extAt
  cases h : extOk n fs ws <;> simp
theorem ext_bd {n : Int} {fs ws : List Int} (ok : extOk n fs ws = true) : -20000000 ≤ extV fs ws ∧ extV fs ws ≤ 20000000 := by
  obtain ⟨hv, hf, hn⟩ := extOk_yes ok
  obtain ⟨-, -, hxl, hxv⟩ := isFn_yes hf
  obtain ⟨h5, hwv⟩ := isVec_yes hv
  have hpm := ordF_pm ws
  have hxp : fs.length = 2 ^ ws.length := by rw [hxl, ← hn, Int.toNat_natCast]
  have hpl : ∀ i, i ≤ ws.length → pre (ordF ws) i < fs.length := fun i hi => by rw [hxp]; exact pre_lt i fun k hk => hpm.lt k (by omega)
  have hB := sm_bd (f := fun i => ws.getD (ordF ws i) 0 * dl fs (ordF ws) i) (b := 2000000) ws.length (fun i hi => by
    have a1 := hwv _ (hpm.lt i hi)
    have a2 := hxv _ (hpl i (by omega))
    have a3 := hxv _ (hpl (i + 1) (by omega))
    exact mul_bd2 a1.1 a1.2 (by unfold dl; omega) (by unfold dl; omega)) ws.length (Nat.le_refl _)
  have h0 := hxv 0 (by rw [hxp]; exact Nat.two_pow_pos _)
  unfold extV ax
  dsimp only
  omega
theorem conv_nofit {n : Int} {fs xs ys : List Int} (hf : fitV xs ys = false) : (extAt n fs xs).2 = true → (extAt n fs ys).2 = true → False := by
  rw [extAt_two, extAt_two]
  intro h1 h2
  obtain ⟨a, -, b⟩ := extOk_yes h1
  obtain ⟨c, -, d⟩ := extOk_yes h2
  unfold fitV at hf
  rw [a, c, decide_eq_true (show xs.length = ys.length by omega)] at hf
  cases hf
theorem conv_nofit2 {n : Int} {fs xs ys : List Int} (hf : fitV xs ys = false) : convAt n fs xs ys = false := by
  have h := conv_nofit (n := n) (fs := fs) hf
  rw [extAt_two, extAt_two] at h
  unfold convAt
  cases h1 : extOk n fs xs
  · rfl
  · cases h2 : extOk n fs ys
    · rfl
    · exact (h h1 h2).elim
theorem small_mk {ws : List Int} (h : ∀ k, k < ws.length → -100 ≤ ws.getD k 0 ∧ ws.getD k 0 ≤ 100) : small ws = true := by
  simp only [small, Bool.and_eq_true, decide_eq_true_eq, List.all_eq_true]
  intro x hx
  obtain ⟨k, hk, rfl⟩ := List.mem_iff_getElem.1 hx
  have := h k hk
  simpa [hk] using this
theorem conv_big {n : Int} {fs xs ys : List Int} {j : Nat} (h1 : j < xs.length) (h2 : j < ys.length) (hb : ¬ ((-100 ≤ xs.getD j 0 ∧ xs.getD j 0 ≤ 100) ∧ (-100 ≤ ys.getD j 0 ∧ ys.getD j 0 ≤ 100))) : convAt n fs xs ys = false := by
  unfold convAt
  cases hx : small xs
  · simp
  · cases hy : small ys
    · simp
    · exact (hb ⟨small_at hx h1, small_at hy h2⟩).elim
theorem addV_len (xs ys : List Int) : (addV xs ys).length = xs.length := tab_length _ _
theorem conv_same {n : Int} {fs xs ys : List Int} (hf : fitV xs ys = true) (hs : ∀ k, k < xs.length → (-100 ≤ xs.getD k 0 ∧ xs.getD k 0 ≤ 100) ∧ (-100 ≤ ys.getD k 0 ∧ ys.getD k 0 ≤ 100)) :
    (extAt n fs ys).2 = (extAt n fs xs).2 ∧ (extAt n fs (addV xs ys)).2 = (extAt n fs xs).2 := by
  obtain ⟨h1, h2, h3⟩ := fitV_yes hf
  have h4 : isVec (addV xs ys) = true := isVec_mk (by rw [addV_len]; exact (isVec_yes h1).1) fun k hk => by
    rw [addV_len] at hk
    have := hs k hk
    unfold addV
    rw [tab_at _ hk]
    omega
  rw [extAt_two, extAt_two, extAt_two]
  unfold extOk
  rw [h1, h2, h4, addV_len, h3]
  exact ⟨rfl, rfl⟩
theorem conv_val {n : Int} {fs xs ys : List Int} (hf : fitV xs ys = true) (hs : ∀ k, k < xs.length → (-100 ≤ xs.getD k 0 ∧ xs.getD k 0 ≤ 100) ∧ (-100 ≤ ys.getD k 0 ∧ ys.getD k 0 ≤ 100)) :
    convAt n fs xs ys = ((extAt n fs xs).2 && decide ((extAt n fs (addV xs ys)).1 + fs.getD 0 0 ≤ (extAt n fs xs).1 + (extAt n fs ys).1)) := by
  obtain ⟨h1, h2, h3⟩ := fitV_yes hf
  obtain ⟨e1, e2⟩ := conv_same (n := n) (fs := fs) hf hs
  rw [extAt_two, extAt_two] at e1 e2
  have s1 : small xs = true := small_mk fun k hk => (hs k hk).1
  have s2 : small ys = true := small_mk fun k hk => (hs k (by omega)).2
  unfold convAt extAt
  rw [e1, e2, s1, s2]
  cases extOk n fs xs <;> simp
theorem extAt_bd (n : Int) (fs ws : List Int) : -20000000 ≤ (extAt n fs ws).1 ∧ (extAt n fs ws).1 ≤ 20000000 := by
  unfold extAt
  cases h : extOk n fs ws
  · simp
  · simpa using ext_bd h
theorem extAt_fn {n : Int} {fs ws : List Int} (h : (extAt n fs ws).2 = true) : isFn n fs = true := by
  rw [extAt_two] at h
  exact (extOk_yes h).2.1
theorem convex_law {n : Int} {fs us ws : List Int} (h1 : extOk n fs us = true) (h2 : extOk n fs ws = true) (hs : isSub n fs = true) (hm : ∀ k, k < us.length → (-100 ≤ us.getD k 0 ∧ us.getD k 0 ≤ 100) ∧ (-100 ≤ ws.getD k 0 ∧ ws.getD k 0 ≤ 100)) :
    ∃ u v c d, leastV us ws = (u, true) ∧ greatV us ws = (v, true) ∧ u.length ≤ 5 ∧ v.length ≤ 5 ∧ extAt n fs u = (c, true) ∧ extAt n fs v = (d, true) ∧ convAt n fs us ws = true ∧ c + d ≤ extV fs us + extV fs ws ∧ (-20000000 ≤ c ∧ c ≤ 20000000) ∧ (-20000000 ≤ d ∧ d ≤ 20000000) := by
  obtain ⟨v1, f1, l1⟩ := extOk_yes h1
  obtain ⟨v2, -, l2⟩ := extOk_yes h2
  obtain ⟨p1, p2⟩ := isVec_yes v1
  obtain ⟨q1, q2⟩ := isVec_yes v2
  have hl : us.length = ws.length := by omega
  have hf : fitV us ws = true := by unfold fitV; rw [v1, v2, decide_eq_true hl]; rfl
  have hu : (minV us ws).length = us.length := tab_length _ _
  have hv : (maxV us ws).length = us.length := tab_length _ _
  have e1 : extOk n fs (minV us ws) = true := by
    unfold extOk
    rw [f1, hu, decide_eq_true l1, isVec_mk (by omega) fun k hk => by
      rw [hu] at hk
      have := p2 k hk
      have := q2 k (by omega)
      unfold minV
      rw [tab_at _ hk]
      omega]
    rfl
  have e2 : extOk n fs (maxV us ws) = true := by
    unfold extOk
    rw [f1, hv, decide_eq_true l1, isVec_mk (by omega) fun k hk => by
      rw [hv] at hk
      have := p2 k hk
      have := q2 k (by omega)
      unfold maxV
      rw [tab_at _ hk]
      omega]
    rfl
  obtain ⟨N, rfl⟩ := Int.eq_ofNat_of_zero_le (show 0 ≤ n by omega)
  have a1 : us.length = N := by omega
  have a2 : ws.length = N := by omega
  have hlat := ext_lattice hs a1 a2 (fun k hk => p2 k (by omega)) (fun k hk => q2 k (by omega))
  have hcon := ext_convex hs a1 a2 (fun k hk => p2 k (by omega)) (fun k hk => q2 k (by omega))
  refine ⟨minV us ws, maxV us ws, extV fs (minV us ws), extV fs (maxV us ws), by unfold leastV; rw [if_pos hf], by unfold greatV; rw [if_pos hf], by omega, by omega, by unfold extAt; rw [if_pos e1], by unfold extAt; rw [if_pos e2], ?_, hlat, ext_bd e1, ext_bd e2⟩
  unfold convAt
  rw [h1, h2, small_mk fun k hk => (hm k hk).1, small_mk fun k hk => (hm k (by omega)).2, decide_eq_true hcon]
  rfl
theorem extAt_yes {n : Int} {fs ws : List Int} {a : Int} (h : extAt n fs ws = (a, true)) : extOk n fs ws = true ∧ a = extV fs ws := by
  unfold extAt at h
  split at h
  · rename_i h1
    injection h with h2 h3
    exact ⟨h1, h2.symm⟩
  · injection h with h2 h3
    cases h3

end Go.Proofs.Ytlbefommcahkeaa.M
