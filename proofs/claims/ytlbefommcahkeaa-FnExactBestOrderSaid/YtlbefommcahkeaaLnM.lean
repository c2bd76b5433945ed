/-
  Linear optimization over bases, as plain mathematics: what the functions of chapter 9 return.
-/
import Derived.Test.YtlbefommcahkeaaBsM
import Derived.Test.YtlbefommcahkeaaGaM
namespace Go.Proofs.Ytlbefommcahkeaa.M
set_option linter.unusedVariables false
set_option linter.unusedSimpArgs false

theorem seen_pre {p : List Int} {o : Nat → Nat} : ∀ m, (∀ i, i < m → p.getD i 0 = (o i : Int)) → seenTo p m = pre o m
  | 0, _ => rfl
  | m + 1, h => by rw [seenTo, pre, seen_pre m fun i hi => h i (by omega), h m (by omega), Int.toNat_natCast]
theorem perm_mk {n : Nat} {p : List Int} {o : Nat → Nat} (q : Pm n o) : ∀ m, m ≤ n → (∀ i, i < m → p.getD i 0 = (o i : Int)) → permTo (n : Int) p m = true
  | 0, _, _ => rfl
  | m + 1, hm, h => by
    have hl := q.lt m (by omega)
    have hb : (pre o m).testBit (o m) = false := by
      cases hc : (pre o m).testBit (o m)
      · rfl
      · obtain ⟨i, hi, e⟩ := (pre_bit o (o m) m).1 hc
        exact absurd e (q.inj i m hi (by omega))
    rw [permTo, perm_mk q m (by omega) fun i hi => h i (by omega), seen_pre m fun i hi => h i (by omega), h m (by omega), Int.toNat_natCast, hb, decide_eq_true (by omega)]
    rfl
theorem corner_gain (xs : List Int) (n : Nat) {p : List Int} {o : Nat → Nat} : ∀ m, (∀ i, i < m → p.getD i 0 = (o i : Int)) → cornerTo xs n p m = gain xs o n m
  | 0, _ => rfl
  | m + 1, h => by
    rw [cornerTo, gain, corner_gain xs n m fun i hi => h i (by omega), seen_pre (m + 1) h, seen_pre m fun i hi => h i (by omega), h m (by omega), Int.toNat_natCast]
    rfl
theorem order_at (ws : List Int) {i : Nat} (hi : i < ws.length) : (nats (ordN ws ws.length)).getD i 0 = (ordF ws i : Int) := by
  rw [nats_at (by rw [ordN_len]; exact hi)]
  rfl
theorem order_perm (ws : List Int) : permTo (ws.length : Int) (nats (ordN ws ws.length)) ws.length = true := perm_mk (ordF_pm ws) _ (Nat.le_refl _) fun i hi => order_at ws hi
theorem order_len (ws : List Int) : (nats (ordN ws ws.length)).length = ws.length := by rw [nats_len, ordN_len]

/-- What chapter 9 asks. -/
def fit9 (n : Int) (xs ws : List Int) : Bool := isGround n xs && (isSub n xs && (isVec ws && decide ((ws.length : Int) = n)))
theorem fit9_yes {n : Int} {xs ws : List Int} (h : fit9 n xs ws = true) : isGround n xs = true ∧ isSub n xs = true ∧ isVec ws = true ∧ (ws.length : Int) = n := by
  unfold fit9 at h
  simpa using h
def bestOrder (n : Int) (xs ws : List Int) : List Int × Bool := if fit9 n xs ws = true then (nats (ordN ws ws.length), true) else ([], false)
/-- The corner that is best for a vector. -/
def bestX (xs ws : List Int) : List Int := gain xs (ordF ws) ws.length ws.length
theorem bestX_len (xs ws : List Int) : (bestX xs ws).length = ws.length := gain_len xs (ordF ws) ws.length ws.length
theorem bestX_corner (xs ws : List Int) : cornerTo xs ws.length (nats (ordN ws ws.length)) ws.length = bestX xs ws := corner_gain xs ws.length ws.length fun i hi => order_at ws hi
def bestN (xs ws : List Int) : Int := sm (fun k => ws.getD k 0 * (bestX xs ws).getD k 0) ws.length
def maxFor (n : Int) (xs ws : List Int) : Int × List Int × Bool := if fit9 n xs ws = true then (bestN xs ws, bestX xs ws, true) else (0, [], false)
def negV (ws : List Int) : List Int := tab ws.length fun k => -ws.getD k 0
theorem negV_len (ws : List Int) : (negV ws).length = ws.length := tab_length _ _
theorem negV_at (ws : List Int) {k : Nat} (hk : k < ws.length) : (negV ws).getD k 0 = -ws.getD k 0 := by unfold negV; rw [tab_at _ hk]
def minFor (n : Int) (xs ws : List Int) : Int × List Int × Bool := if fit9 n xs ws = true then (-bestN xs (negV ws), bestX xs (negV ws), true) else (0, [], false)
theorem fit9_neg {n : Int} {xs ws : List Int} (h : fit9 n xs ws = true) : fit9 n xs (negV ws) = true := by
  obtain ⟨h1, h2, h3, h4⟩ := fit9_yes h
  obtain ⟨v1, v2⟩ := isVec_yes h3
  have hv : isVec (negV ws) = true := isVec_mk (by rw [negV_len]; exact v1) fun k hk => by
    rw [negV_len] at hk
    have := v2 k hk
    rw [negV_at ws hk]
    omega
  unfold fit9
  rw [h1, h2, hv, negV_len, decide_eq_true h4]
  rfl
/-- The value of the best corner is the extension. -/
theorem best_ext {n : Int} {xs ws : List Int} (h : fit9 n xs ws = true) : bestN xs ws = extV xs ws := by
  obtain ⟨h1, -, -, -⟩ := fit9_yes h
  have h0 : xs.getD 0 0 = 0 := by
    unfold isGround at h1
    simp only [Bool.and_eq_true, decide_eq_true_eq] at h1
    exact h1.2
  unfold bestN bestX extV
  rw [gain_sum xs (ordF_pm ws) (fun k => ws.getD k 0) ws.length (Nat.le_refl _), h0, Int.zero_add]
theorem pre_of_lt {n : Nat} {xs : List Int} {o : Nat → Nat} (hx : xs.length = 2 ^ n) (hv : ∀ k, k < xs.length → -1000 ≤ xs.getD k 0 ∧ xs.getD k 0 ≤ 1000) (q : Pm n o) {i : Nat} (hi : i < n) : -2000 ≤ dl xs o i ∧ dl xs o i ≤ 2000 := by
  have a2 := hv _ (show pre o i < xs.length by rw [hx]; exact pre_lt i fun k hk => q.lt k (by omega))
  have a3 := hv _ (show pre o (i + 1) < xs.length by rw [hx]; exact pre_lt (i + 1) fun k hk => q.lt k (by omega))
  unfold dl
  omega
theorem corner_bd {n : Nat} {xs : List Int} {o : Nat → Nat} (hx : xs.length = 2 ^ n) (hv : ∀ k, k < xs.length → -1000 ≤ xs.getD k 0 ∧ xs.getD k 0 ≤ 1000) (q : Pm n o) (e : Nat) : -2000 ≤ (gain xs o n n).getD e 0 ∧ (gain xs o n n).getD e 0 ≤ 2000 :=
  gain_bd q.lt (fun i hi => pre_of_lt hx hv q hi) e n (Nat.le_refl _)
theorem fit9_len {n : Int} {xs ws : List Int} (h : fit9 n xs ws = true) : xs.length = 2 ^ ws.length ∧ ∀ k, k < xs.length → -1000 ≤ xs.getD k 0 ∧ xs.getD k 0 ≤ 1000 := by
  obtain ⟨h1, -, -, h4⟩ := fit9_yes h
  obtain ⟨-, -, hl, hv⟩ := isFn_yes (ground_fn h1)
  exact ⟨by rw [hl, ← h4, Int.toNat_natCast], hv⟩
theorem bestX_bd {n : Int} {xs ws : List Int} (h : fit9 n xs ws = true) (e : Nat) : -2000 ≤ (bestX xs ws).getD e 0 ∧ (bestX xs ws).getD e 0 ≤ 2000 := by
  obtain ⟨a, b⟩ := fit9_len h
  exact corner_bd a b (ordF_pm ws) e
theorem best_part {n : Int} {xs ws : List Int} (h : fit9 n xs ws = true) : ∀ j, j ≤ ws.length → -(2000000 * (j : Int)) ≤ sm (fun k => ws.getD k 0 * (bestX xs ws).getD k 0) j ∧ sm (fun k => ws.getD k 0 * (bestX xs ws).getD k 0) j ≤ 2000000 * (j : Int) := by
  obtain ⟨-, -, h3, -⟩ := fit9_yes h
  refine sm_bd ws.length fun i hi => ?_
  have a1 := (isVec_yes h3).2 i hi
  have a2 := bestX_bd h i
  exact mul_bd2 a1.1 a1.2 a2.1 a2.2

/-- The level sets of the first k elements of the order. -/
def levTo (ws : List Int) : Nat → List Int
  | 0 => []
  | k + 1 => if k + 1 = ws.length ∨ ws.getD (ordF ws (k + 1)) 0 < ws.getD (ordF ws k) 0 then levTo ws k ++ [(pre (ordF ws) (k + 1) : Int)] else levTo ws k
theorem levTo_len (ws : List Int) : ∀ k, (levTo ws k).length ≤ k
  | 0 => Nat.le_refl _
  | k + 1 => by
    have := levTo_len ws k
    rw [levTo]
    split
    · rw [List.length_append]
      exact Nat.add_le_add_right this 1
    · omega
theorem levTo_lt (ws : List Int) : ∀ k, k ≤ ws.length → ∀ s ∈ levTo ws k, ∃ S : Nat, s = (S : Int) ∧ S < 2 ^ ws.length
  | 0, _, s, h => by simp [levTo] at h
  | k + 1, hk, s, h => by
    rw [levTo] at h
    have hp : pre (ordF ws) (k + 1) < 2 ^ ws.length := pre_lt (k + 1) fun i hi => (ordF_pm ws).lt i (by omega)
    split at h
    · rcases List.mem_append.1 h with h | h
      · exact levTo_lt ws k (by omega) s h
      · obtain rfl : s = (pre (ordF ws) (k + 1) : Int) := by simpa using h
        exact ⟨_, rfl, hp⟩
    · exact levTo_lt ws k (by omega) s h
def levels (ws : List Int) : List Int × Bool := if isVec ws = true then (levTo ws ws.length, true) else ([], false)
/-- All of the first k sets of a list have their value as weight. -/
def tightAll (xs us ls : List Int) : Nat → Bool
  | 0 => true
  | k + 1 => tightAll xs us ls k && decide (weigh us (ls.getD k 0).toNat us.length = xs.getD (ls.getD k 0).toNat 0)
theorem tight_no {xs us ls : List Int} {j : Nat} (hb : weigh us (ls.getD j 0).toNat us.length ≠ xs.getD (ls.getD j 0).toNat 0) : ∀ m, j < m → tightAll xs us ls m = false
  | 0, h => absurd h (by omega)
  | m + 1, h => by
    rw [tightAll]
    by_cases e : j = m
    · subst e
      rw [decide_eq_false hb, Bool.and_false]
    · rw [tight_no hb m (by omega), Bool.false_and]
def isBest (n : Int) (xs ws us : List Int) : Bool := fit9 n xs ws && (isBase n xs us && tightAll xs us (levTo ws ws.length) (levTo ws ws.length).length)
theorem maxFor_le (n : Int) (xs ws : List Int) : (maxFor n xs ws).2.1.length ≤ 1048576 := by
  unfold maxFor
  split
  · rename_i h
    rw [bestX_len]
    have := (isVec_yes (fit9_yes h).2.2.1).1
    omega
  · exact Nat.zero_le _
theorem minFor_le (n : Int) (xs ws : List Int) : (minFor n xs ws).2.1.length ≤ 1048576 := by
  unfold minFor
  split
  · rename_i h
    rw [bestX_len, negV_len]
    have := (isVec_yes (fit9_yes h).2.2.1).1
    omega
  · exact Nat.zero_le _
theorem bestOrder_le (n : Int) (xs ws : List Int) : (bestOrder n xs ws).1.length ≤ 1048576 := by
  unfold bestOrder
  split
  · rename_i h
    rw [order_len]
    have := (isVec_yes (fit9_yes h).2.2.1).1
    omega
  · exact Nat.zero_le _
theorem levels_le (ws : List Int) : (levels ws).1.length ≤ 1048576 := by
  unfold levels
  split
  · rename_i h
    have := (isVec_yes h).1
    have := levTo_len ws ws.length
    show (levTo ws ws.length).length ≤ _
    omega
  · exact Nat.zero_le _

end Go.Proofs.Ytlbefommcahkeaa.M
