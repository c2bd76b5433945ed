/-
  Functions whose values, but that of nothing, lie close together: their corners are vectors.
-/
import Derived.Test.YtffbiflgmlabaaaGreatDoorAllM
namespace Go.Proofs.YtffbiflgmlabaaaGreatDoor.M
set_option linter.unusedVariables false
set_option linter.unusedSimpArgs false

def Tm (xs : List Int) : Prop := ∀ S T, 1 ≤ S → S < xs.length → 1 ≤ T → T < xs.length → -28 ≤ xs.getD S 0 - xs.getD T 0 ∧ xs.getD S 0 - xs.getD T 0 ≤ 28
theorem tm_near {xs : List Int} (h : ∀ i, 1 ≤ i → i < xs.length → -16 ≤ xs.getD i 0 ∧ xs.getD i 0 ≤ 12) : Tm xs := fun S T a b c d => by
  have h1 := h S a b
  have h2 := h T c d
  omega
theorem tm_lower {xs : List Int} (h : Tm xs) : Tm (tab xs.length fun s => xs.getD s 0 - xs.getD 0 0) := fun S T a b c d => by
  rw [tab_length] at b d
  rw [tab_at _ b, tab_at _ d]
  have := h S T a b c d
  omega
/-- A function, lowered if it can be. -/
def baseF (n : Int) (xs : List Int) : Int × List Int := if (lowerFn n xs).2.2 = true then ((lowerFn n xs).1, (lowerFn n xs).2.1) else (n, xs)
theorem lower_yes {n : Int} {xs : List Int} (h : (lowerFn n xs).2.2 = true) : (lowerFn n xs).1 = n ∧ (lowerFn n xs).2.1 = tab xs.length fun s => xs.getD s 0 - xs.getD 0 0 := by
  unfold lowerFn at h ⊢
  cases hf : isFn n xs
  · rw [hf] at h
    cases h
  · rw [hf, if_pos rfl] at h
    rw [if_pos rfl]
    unfold made at h ⊢
    cases hg : isFn n (tab xs.length fun s => xs.getD s 0 - xs.getD 0 0)
    · rw [hg] at h
      cases h
    · exact ⟨rfl, rfl⟩
theorem base_tm {n : Int} {xs : List Int} (h : Tm xs) : Tm (baseF n xs).2 ∧ (baseF n xs).2.length = xs.length := by
  unfold baseF
  split
  · rename_i hb
    rw [(lower_yes hb).2]
    exact ⟨tm_lower h, tab_length _ _⟩
  · exact ⟨h, rfl⟩
theorem gain_all {P : Int → Prop} (h0 : P 0) {xs : List Int} {o : Nat → Nat} {m : Nat} (ho : ∀ i, i < m → o i < m) (hd : ∀ i, i < m → P (dl xs o i)) (e : Nat) : ∀ k, k ≤ m → P ((gain xs o m k).getD e 0)
  | 0, _ => by rw [gain, repl_getD]; exact h0
  | k + 1, hk => by
    rw [gain, set_getD _ _ _ _ (by rw [gain_len]; exact ho k (by omega))]
    split
    · exact hd k (by omega)
    · exact gain_all h0 ho hd e k (by omega)
theorem pre_pos {n : Nat} {o : Nat → Nat} (q : Pm n o) {i : Nat} (hi : i < n) : 1 ≤ pre o (i + 1) := by
  have hb : (pre o (i + 1)).testBit (o i) = true := (pre_bit o (o i) (i + 1)).2 ⟨i, by omega, rfl⟩
  cases h : pre o (i + 1) with
  | zero => rw [h, Nat.zero_testBit] at hb; cases hb
  | succ k => omega
theorem tm_corner {n : Nat} {xs : List Int} {o : Nat → Nat} (ht : Tm xs) (hg : isGround (n : Int) xs = true) (q : Pm n o) (e : Nat) : -1000 ≤ (gain xs o n n).getD e 0 ∧ (gain xs o n n).getD e 0 ≤ 1000 := by
  obtain ⟨-, -, hl, hv⟩ := isFn_yes (ground_fn hg)
  rw [Int.toNat_natCast] at hl
  have h0 := ground_zero hg
  refine gain_all (P := fun z => -1000 ≤ z ∧ z ≤ 1000) (by decide) q.lt (fun i hi => ?_) e n (Nat.le_refl _)
  have h1 : pre o (i + 1) < xs.length := by rw [hl]; exact pre_lt (i + 1) fun k hk => q.lt k (by omega)
  unfold dl
  cases i with
  | zero =>
    have h2 : pre o 0 = 0 := rfl
    rw [h2, h0]
    have := hv _ h1
    omega
  | succ i =>
    have h2 : pre o (i + 1) < xs.length := by rw [hl]; exact pre_lt (i + 1) fun k hk => q.lt k (by omega)
    have := ht _ _ (pre_pos q (show i + 1 < n by omega)) h1 (pre_pos q (show i < n by omega)) h2
    omega
theorem best_vec {n : Int} {xs ws : List Int} (h : fit9 n xs ws = true) (ht : Tm xs) : isVec (bestX xs ws) = true := by
  obtain ⟨h1, -, h3, h4⟩ := fit9_yes h
  rw [← h4] at h1
  refine isVec_mk (by rw [bestX_len]; exact (isVec_yes h3).1) fun k _ => ?_
  exact tm_corner ht h1 (ordF_pm ws) k
theorem best_pair {n : Int} {xs ws : List Int} (h : fit9 n xs ws = true) (ht : Tm xs) : pairV ws (bestX xs ws) = (bestN xs ws, true) := by
  obtain ⟨-, -, h3, -⟩ := fit9_yes h
  unfold pairV
  have hf : fitV ws (bestX xs ws) = true := by
    unfold fitV
    rw [h3, best_vec h ht, bestX_len, decide_eq_true rfl]
    rfl
  rw [if_pos hf]
  rfl
theorem best_extAt {n : Int} {xs ws : List Int} (h : fit9 n xs ws = true) : extAt n xs ws = (bestN xs ws, true) := by
  obtain ⟨h1, -, h3, h4⟩ := fit9_yes h
  have hk : extOk n xs ws = true := by
    unfold extOk
    rw [h3, ground_fn h1, decide_eq_true h4]
    rfl
  unfold extAt
  rw [if_pos hk, best_ext h]
theorem best_isBest {n : Int} {xs ws : List Int} (h : fit9 n xs ws = true) : isBest n xs ws (bestX xs ws) = true := by
  obtain ⟨-, -, -, h4⟩ := fit9_yes h
  rw [← h4] at h ⊢
  unfold bestX
  rw [isBest_corner h (ordF_pm ws)]
  exact decide_eq_true rfl
theorem min_le_max {n : Int} {xs ws : List Int} (h : fit9 n xs ws = true) : -bestN xs (negV ws) ≤ bestN xs ws := by
  obtain ⟨-, -, -, h4⟩ := fit9_yes h
  rw [← h4] at h
  have h1 := corner_ge h (ordF_pm ws)
  have h2 := corner_le h (ordF_pm ws)
  omega
/-- The extension at a set's vector is the value of the set. -/
theorem ext_set {n : Int} {xs : List Int} {s : Nat} (hf : isFn n xs = true) (hs : s < xs.length) : indOf n (s : Int) = (indV n.toNat s, true) ∧ extAt n xs (indV n.toNat s) = (xs.getD s 0, true) := by
  obtain ⟨n0, n5, hl, -⟩ := isFn_yes hf
  have hS : s < 2 ^ n.toNat := by omega
  have his : isSet n (s : Int) = true := by
    have e : (s : Int) < ((2 ^ n.toNat : Nat) : Int) := by omega
    simp only [isSet, Bool.and_eq_true, decide_eq_true_eq]
    exact ⟨by omega, by simpa using e⟩
  constructor
  · unfold indOf indV
    rw [if_pos ⟨n0, n5, his⟩, Int.toNat_natCast]
    rfl
  · have hv : isVec (indV n.toNat s) = true := isVec_mk (by rw [indV_len]; omega) fun k hk => by
      rw [indV_len] at hk
      rw [indV_at hk]
      unfold bitI
      split <;> decide
    have hk : extOk n xs (indV n.toNat s) = true := by
      unfold extOk
      rw [hv, hf, indV_len, decide_eq_true (by omega)]
      rfl
    unfold extAt
    rw [if_pos hk, ext_ind xs hS]

end Go.Proofs.YtffbiflgmlabaaaGreatDoor.M
