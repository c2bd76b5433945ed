/-
  Extensions of functions of sets as plain mathematics: orders, levels, convexity.
-/
import Derived.Test.YtlbefommcahkeaaCvM
namespace Go.Proofs.Ytlbefommcahkeaa.M
set_option linter.unusedVariables false
set_option linter.unusedSimpArgs false

/-- A sum of k numbers. -/
def sm (f : Nat → Int) : Nat → Int
  | 0 => 0
  | k + 1 => sm f k + f k
theorem sm_congr {f g : Nat → Int} : ∀ k, (∀ i, i < k → f i = g i) → sm f k = sm g k
  | 0, _ => rfl
  | k + 1, h => by rw [sm, sm, sm_congr k fun i hi => h i (by omega), h k (by omega)]
theorem sm_le {f g : Nat → Int} : ∀ k, (∀ i, i < k → f i ≤ g i) → sm f k ≤ sm g k
  | 0, _ => Int.le_refl _
  | k + 1, h => by
    have := sm_le k fun i hi => h i (by omega)
    have := h k (by omega)
    unfold sm; omega
theorem sm_bd {f : Nat → Int} {b : Int} : ∀ k, (∀ i, i < k → -b ≤ f i ∧ f i ≤ b) → ∀ j, j ≤ k → -(b * j) ≤ sm f j ∧ sm f j ≤ b * j
  | 0, _, j, hj => by
    obtain rfl : j = 0 := by omega
    simp [sm]
  | k + 1, h, j, hj => by
    by_cases e : j = k + 1
    · subst e
      have h1 := sm_bd k (fun i hi => h i (by omega)) k (Nat.le_refl _)
      have h2 := h k (by omega)
      unfold sm
      rw [Int.natCast_add, Int.natCast_one, Int.mul_add, Int.mul_one]
      omega
    · exact sm_bd k (fun i hi => h i (by omega)) j (by omega)
theorem sm_add (f g : Nat → Int) : ∀ k, sm (fun i => f i + g i) k = sm f k + sm g k
  | 0 => rfl
  | k + 1 => by rw [sm, sm, sm, sm_add f g k]; omega
theorem sm_mul (a : Int) (f : Nat → Int) : ∀ k, sm (fun i => a * f i) k = a * sm f k
  | 0 => by simp [sm]
  | k + 1 => by rw [sm, sm, sm_mul a f k, Int.mul_add]
theorem sm_zero : ∀ k, sm (fun _ => 0) k = 0
  | 0 => rfl
  | k + 1 => by rw [sm, sm_zero k]; rfl
theorem sm_swap (f : Nat → Nat → Int) (b : Nat) : ∀ a, sm (fun i => sm (f i) b) a = sm (fun t => sm (fun i => f i t) a) b
  | 0 => (sm_zero b).symm
  | a + 1 => by
    rw [sm, sm_swap f b a, ← sm_add]
    rfl
/-- A number as a sum of its levels. -/
theorem sm_lev (x : Int) (M : Nat) (h : -(M : Int) ≤ x) : ∀ c, sm (fun t => if (t : Int) + 1 - M ≤ x then 1 else 0) c = min (c : Int) (x + M)
  | 0 => by rw [sm]; omega
  | c + 1 => by
    rw [sm, sm_lev x M h c]
    split <;> omega
theorem sm_levD (x d : Int) (M : Nat) (h1 : -(M : Int) ≤ x) (h2 : x ≤ M) : x * d = -(M : Int) * d + sm (fun t => if (t : Int) + 1 - M ≤ x then d else 0) (2 * M) := by
  have e := sm_lev x M h1 (2 * M)
  have e2 : sm (fun t => if (t : Int) + 1 - M ≤ x then d else 0) (2 * M) = d * sm (fun t => if (t : Int) + 1 - M ≤ x then 1 else 0) (2 * M) := by
    rw [← sm_mul]
    refine sm_congr _ fun i _ => ?_
    split <;> simp
  rw [e2, e, show min ((2 * M : Nat) : Int) (x + M) = x + M by omega, Int.mul_add, Int.neg_mul, Int.mul_comm d x, Int.mul_comm d]
  omega

theorem mul_bd2 {a b : Int} (h1 : -1000 ≤ a) (h2 : a ≤ 1000) (h3 : -2000 ≤ b) (h4 : b ≤ 2000) : -2000000 ≤ a * b ∧ a * b ≤ 2000000 := by
  have e1 : 0 ≤ (1000 + a) * (2000 + b) := Int.mul_nonneg (by omega) (by omega)
  have e2 : 0 ≤ (1000 - a) * (2000 - b) := Int.mul_nonneg (by omega) (by omega)
  have e3 : 0 ≤ (1000 + a) * (2000 - b) := Int.mul_nonneg (by omega) (by omega)
  have e4 : 0 ≤ (1000 - a) * (2000 + b) := Int.mul_nonneg (by omega) (by omega)
  simp only [Int.add_mul, Int.mul_add, Int.sub_mul, Int.mul_sub] at e1 e2 e3 e4
  constructor <;> omega
-- an order, and the sets of its first elements
def pre (o : Nat → Nat) : Nat → Nat
  | 0 => 0
  | i + 1 => pre o i ||| 2 ^ o i
def dl (xs : List Int) (o : Nat → Nat) (i : Nat) : Int := xs.getD (pre o (i + 1)) 0 - xs.getD (pre o i) 0
/-- The sum of the numbers times what the elements add. -/
def ax (xs : List Int) (o : Nat → Nat) (w : Nat → Int) (m : Nat) : Int := sm (fun i => w (o i) * dl xs o i) m
/-- Of the first elements, those whose numbers are at least T. -/
def lv (w : Nat → Int) (T : Int) (o : Nat → Nat) : Nat → Nat
  | 0 => 0
  | i + 1 => if T ≤ w (o i) then lv w T o i ||| 2 ^ o i else lv w T o i
def bx (xs : List Int) (o : Nat → Nat) (w : Nat → Int) (T : Int) (m : Nat) : Int := sm (fun i => if T ≤ w (o i) then dl xs o i else 0) m
structure Pm (n : Nat) (o : Nat → Nat) : Prop where
  lt : ∀ i, i < n → o i < n
  inj : ∀ i k, i < k → k < n → o i ≠ o k
  onto : ∀ j, j < n → ∃ i, i < n ∧ o i = j
theorem bit2 (e j : Nat) : (2 ^ e).testBit j = decide (e = j) := Nat.testBit_two_pow
theorem pre_bit (o : Nat → Nat) (j : Nat) : ∀ m, (pre o m).testBit j = true ↔ ∃ i, i < m ∧ o i = j
  | 0 => by simp [pre]
  | m + 1 => by
    rw [pre, Nat.testBit_or, Bool.or_eq_true, pre_bit o j m, bit2, decide_eq_true_eq]
    constructor
    · rintro (⟨i, hi, e⟩ | e)
      · exact ⟨i, by omega, e⟩
      · exact ⟨m, by omega, e⟩
    · rintro ⟨i, hi, e⟩
      by_cases h : i = m
      · subst h; exact .inr e
      · exact .inl ⟨i, by omega, e⟩
theorem lv_bit (w : Nat → Int) (T : Int) (o : Nat → Nat) (j : Nat) : ∀ m, (lv w T o m).testBit j = true ↔ ∃ i, i < m ∧ o i = j ∧ T ≤ w j
  | 0 => by simp [lv]
  | m + 1 => by
    rw [lv]
    split
    · rename_i h
      rw [Nat.testBit_or, Bool.or_eq_true, lv_bit w T o j m, bit2, decide_eq_true_eq]
      constructor
      · rintro (⟨i, hi, e⟩ | e)
        · exact ⟨i, by omega, e⟩
        · exact ⟨m, by omega, e, e ▸ h⟩
      · rintro ⟨i, hi, e⟩
        by_cases h : i = m
        · subst h; exact .inr e.1
        · exact .inl ⟨i, by omega, e⟩
    · rename_i h
      rw [lv_bit w T o j m]
      constructor
      · rintro ⟨i, hi, e⟩
        exact ⟨i, by omega, e⟩
      · rintro ⟨i, hi, e⟩
        by_cases hm : i = m
        · subst hm; exact absurd (e.1 ▸ e.2) h
        · exact ⟨i, by omega, e⟩
theorem pre_lt {n : Nat} {o : Nat → Nat} : ∀ m, (∀ i, i < m → o i < n) → pre o m < 2 ^ n
  | 0, _ => Nat.two_pow_pos n
  | m + 1, h => Nat.or_lt_two_pow (pre_lt m fun i hi => h i (by omega)) (Nat.pow_lt_pow_right (by decide) (h m (by omega)))
theorem lv_lt {n : Nat} {w : Nat → Int} {T : Int} {o : Nat → Nat} : ∀ m, (∀ i, i < m → o i < n) → lv w T o m < 2 ^ n
  | 0, _ => Nat.two_pow_pos n
  | m + 1, h => by
    rw [lv]
    split
    · exact Nat.or_lt_two_pow (lv_lt m fun i hi => h i (by omega)) (Nat.pow_lt_pow_right (by decide) (h m (by omega)))
    · exact lv_lt m fun i hi => h i (by omega)
theorem bool_iff {a b : Bool} (h : a = true ↔ b = true) : a = b := by
  cases a <;> cases b <;> simp_all
theorem lv_pre (w : Nat → Int) (T : Int) (o : Nat → Nat) (m : Nat) : lv w T o m ||| pre o m = pre o m := by
  apply Nat.eq_of_testBit_eq
  intro j
  apply bool_iff
  rw [Nat.testBit_or, Bool.or_eq_true, lv_bit, pre_bit]
  constructor
  · rintro (⟨i, hi, e, _⟩ | h)
    · exact ⟨i, hi, e⟩
    · exact h
  · exact .inr
theorem lv_all (w : Nat → Int) (T : Int) (o : Nat → Nat) : ∀ m, (∀ i, i < m → T ≤ w (o i)) → lv w T o m = pre o m
  | 0, _ => rfl
  | m + 1, h => by rw [lv, if_pos (h m (by omega)), lv_all w T o m fun i hi => h i (by omega), pre]
/-- The levels of a vector do not turn on the order. -/
theorem lv_set {n : Nat} {o : Nat → Nat} (p : Pm n o) (w : Nat → Int) (T : Int) (j : Nat) : (lv w T o n).testBit j = (decide (j < n) && decide (T ≤ w j)) := by
  apply bool_iff
  rw [lv_bit, Bool.and_eq_true, decide_eq_true_eq, decide_eq_true_eq]
  constructor
  · rintro ⟨i, hi, e, h⟩
    exact ⟨e ▸ p.lt i hi, h⟩
  · rintro ⟨hj, h⟩
    obtain ⟨i, hi, e⟩ := p.onto j hj
    exact ⟨i, hi, e, h⟩
theorem lv_eq {n : Nat} {o o' : Nat → Nat} (p : Pm n o) (q : Pm n o') (w : Nat → Int) (T : Int) : lv w T o n = lv w T o' n := by
  apply Nat.eq_of_testBit_eq
  intro j
  rw [lv_set p, lv_set q]
theorem pre_full {n : Nat} {o : Nat → Nat} (p : Pm n o) : pre o n = 2 ^ n - 1 := by
  apply Nat.eq_of_testBit_eq
  intro j
  apply bool_iff
  rw [pre_bit, Nat.testBit_two_pow_sub_one, decide_eq_true_eq]
  constructor
  · rintro ⟨i, hi, e⟩; exact e ▸ p.lt i hi
  · exact p.onto j
theorem dl_sm (xs : List Int) (o : Nat → Nat) : ∀ m, sm (dl xs o) m = xs.getD (pre o m) 0 - xs.getD 0 0
  | 0 => by rw [sm, pre]; omega
  | m + 1 => by rw [sm, dl_sm xs o m, dl]; omega
/-- The sum, by levels. -/
theorem ax_lev (xs : List Int) (o : Nat → Nat) (w : Nat → Int) (M m : Nat) (h : ∀ i, i < m → -(M : Int) ≤ w (o i) ∧ w (o i) ≤ M) :
    ax xs o w m = -(M : Int) * (xs.getD (pre o m) 0 - xs.getD 0 0) + sm (fun t => bx xs o w ((t : Int) + 1 - M) m) (2 * M) := by
  unfold ax
  rw [sm_congr m fun i hi => sm_levD (w (o i)) (dl xs o i) M (h i hi).1 (h i hi).2, sm_add, sm_mul, dl_sm, sm_swap]
  rfl
theorem ax_levT (xs : List Int) (o : Nat → Nat) (w : Nat → Int) (m : Nat) (h : ∀ i, i < m → -1000 ≤ w (o i) ∧ w (o i) ≤ 1000) :
    ax xs o w m = -1000 * (xs.getD (pre o m) 0 - xs.getD 0 0) + sm (fun t => bx xs o w ((t : Int) + 1 - 1000) m) 2000 := ax_lev xs o w 1000 m h
/-- A level has at least the value that its elements add in an order. -/
theorem bx_le {n : Nat} {xs : List Int} (s : Sb n xs) {o : Nat → Nat} (p : Pm n o) (w : Nat → Int) (T : Int) : ∀ m, m ≤ n → bx xs o w T m ≤ xs.getD (lv w T o m) 0 - xs.getD 0 0
  | 0, _ => by unfold bx; rw [sm, lv]; omega
  | m + 1, hm => by
    have ih := bx_le s p w T m (by omega)
    unfold bx at ih ⊢
    rw [sm, lv]
    split
    · have hnot : (pre o m).testBit (o m) = false := by
        cases h : (pre o m).testBit (o m)
        · rfl
        · obtain ⟨i, hi, e⟩ := (pre_bit o (o m) m).1 h
          exact absurd e (p.inj i m hi (by omega))
      have g := s.gain (S := lv w T o m) (T := pre o m) (e := o m) (lv_lt m fun i hi => p.lt i (by omega)) (pre_lt m fun i hi => p.lt i (by omega)) (lv_pre w T o m) (p.lt m (by omega)) hnot
      have e : dl xs o m = xs.getD (pre o m ||| 2 ^ o m) 0 - xs.getD (pre o m) 0 := rfl
      omega
    · omega
/-- In a descending order the first ones are the levels. -/
theorem bx_eq {n : Nat} {xs : List Int} {o : Nat → Nat} (w : Nat → Int) (hd : ∀ i k, i < k → k < n → w (o k) ≤ w (o i)) (T : Int) : ∀ m, m ≤ n → bx xs o w T m = xs.getD (lv w T o m) 0 - xs.getD 0 0
  | 0, _ => by unfold bx; rw [sm, lv]; omega
  | m + 1, hm => by
    have ih := bx_eq w hd T m (by omega) (xs := xs)
    unfold bx at ih ⊢
    rw [sm, lv]
    split
    · rename_i h
      have e1 : lv w T o m = pre o m := lv_all w T o m fun i hi => Int.le_trans h (hd i m hi (by omega))
      rw [e1] at ih ⊢
      have e : dl xs o m = xs.getD (pre o m ||| 2 ^ o m) 0 - xs.getD (pre o m) 0 := rfl
      omega
    · omega

-- vectors
def isVec (ws : List Int) : Bool := decide (ws.length ≤ 5) && ws.all fun x => decide (-1000 ≤ x) && decide (x ≤ 1000)
theorem isVec_yes {ws : List Int} (h : isVec ws = true) : ws.length ≤ 5 ∧ ∀ k, k < ws.length → -1000 ≤ ws.getD k 0 ∧ ws.getD k 0 ≤ 1000 := by
  simp only [isVec, Bool.and_eq_true, decide_eq_true_eq, List.all_eq_true] at h
  refine ⟨h.1, fun k hk => ?_⟩
  have := h.2 ws[k] (List.getElem_mem hk)
  simpa [hk] using this
theorem isVec_mk {ws : List Int} (h1 : ws.length ≤ 5) (h : ∀ k, k < ws.length → -1000 ≤ ws.getD k 0 ∧ ws.getD k 0 ≤ 1000) : isVec ws = true := by
  simp only [isVec, Bool.and_eq_true, decide_eq_true_eq, List.all_eq_true]
  refine ⟨h1, fun x hx => ?_⟩
  obtain ⟨k, hk, rfl⟩ := List.mem_iff_getElem.1 hx
  have := h k hk
  simpa [hk] using this
theorem isVec_good {ws : List Int} (h : ∀ k, k < ws.length → -1000 ≤ ws.getD k 0 ∧ ws.getD k 0 ≤ 1000) : isVec ws = decide (ws.length ≤ 5) := by
  by_cases h5 : ws.length ≤ 5
  · rw [isVec_mk h5 h, decide_eq_true h5]
  · rw [decide_eq_false h5]
    unfold isVec
    rw [decide_eq_false h5, Bool.false_and]
theorem isVec_bad {ws : List Int} {j : Nat} (hj : j < ws.length) (hb : ws.getD j 0 < -1000 ∨ 1000 < ws.getD j 0) : isVec ws = false := by
  cases h : isVec ws
  · rfl
  · have := (isVec_yes h).2 j hj
    omega
/-- The first number that is none. -/
theorem vec_bad {ws : List Int} (h : ¬ ∀ k, k < ws.length → -1000 ≤ ws.getD k 0 ∧ ws.getD k 0 ≤ 1000) : ∃ j, j < ws.length ∧ (ws.getD j 0 < -1000 ∨ 1000 < ws.getD j 0) ∧ ∀ k, k < j → -1000 ≤ ws.getD k 0 ∧ ws.getD k 0 ≤ 1000 := by
  have key : ∀ c, (∀ k, k < c → -1000 ≤ ws.getD k 0 ∧ ws.getD k 0 ≤ 1000) ∨ ∃ j, j < c ∧ (ws.getD j 0 < -1000 ∨ 1000 < ws.getD j 0) ∧ ∀ k, k < j → -1000 ≤ ws.getD k 0 ∧ ws.getD k 0 ≤ 1000 := by
    intro c
    induction c with
    | zero => exact .inl fun k hk => absurd hk (by omega)
    | succ c ih =>
      rcases ih with h1 | ⟨j, hj, hb, hv⟩
      · by_cases hc : -1000 ≤ ws.getD c 0 ∧ ws.getD c 0 ≤ 1000
        · exact .inl fun k hk => by
            by_cases e : k = c
            · subst e; exact hc
            · exact h1 k (by omega)
        · exact .inr ⟨c, by omega, by omega, h1⟩
      · exact .inr ⟨j, by omega, hb, hv⟩
  rcases key ws.length with h1 | h1
  · exact absurd h1 h
  · exact h1
/-- Where a number belongs: behind the last one that is not less. -/
def place (ws : List Int) (v : Int) (out : List Nat) : Nat → Nat
  | 0 => 0
  | k + 1 => if ws.getD (out.getD k 0) 0 < v then place ws v out k else k + 1
/-- The first i elements by descending numbers. -/
def ordN (ws : List Int) : Nat → List Nat
  | 0 => []
  | i + 1 => (ordN ws i).take (place ws (ws.getD i 0) (ordN ws i) (ordN ws i).length) ++ i :: (ordN ws i).drop (place ws (ws.getD i 0) (ordN ws i) (ordN ws i).length)
def nats (l : List Nat) : List Int := l.map fun (k : Nat) => (k : Int)
def orderFor (ws : List Int) : List Int × Bool := if isVec ws = true then (nats (ordN ws ws.length), true) else ([], false)
theorem getD_at {α : Type} (l : List α) (d : α) {i : Nat} (h : i < l.length) : l.getD i d = l[i] := by simp [h]
theorem ordN_len (ws : List Int) : ∀ i, (ordN ws i).length = i
  | 0 => rfl
  | i + 1 => by
    have e : ∀ (l : List Nat) k, (l.take k ++ i :: l.drop k).length = l.length + 1 := fun l k => by simp; omega
    rw [ordN, e, ordN_len ws i]
theorem ordN_perm (ws : List Int) : ∀ i, (ordN ws i).Perm (List.range i)
  | 0 => List.Perm.refl _
  | i + 1 => by
    rw [ordN, List.range_succ]
    refine List.perm_middle.trans ?_
    rw [List.take_append_drop]
    exact ((ordN_perm ws i).cons i).trans (List.perm_append_singleton i (List.range i)).symm
theorem place_is (ws : List Int) (v : Int) (out : List Nat) : ∀ c, place ws v out c ≤ c ∧ (∀ q, place ws v out c ≤ q → q < c → ws.getD (out.getD q 0) 0 < v) ∧ (0 < place ws v out c → v ≤ ws.getD (out.getD (place ws v out c - 1) 0) 0)
  | 0 => ⟨Nat.le_refl _, fun q _ h => absurd h (by omega), fun h => absurd h (Nat.lt_irrefl 0)⟩
  | c + 1 => by
    obtain ⟨h1, h2, h3⟩ := place_is ws v out c
    unfold place
    split
    · rename_i h
      refine ⟨by omega, fun q hq hc => ?_, h3⟩
      by_cases e : q = c
      · subst e; exact h
      · exact h2 q hq (by omega)
    · rename_i h
      refine ⟨Nat.le_refl _, fun q hq hc => absurd hc (by omega), fun _ => ?_⟩
      rw [Nat.add_sub_cancel]
      omega
theorem ordN_desc (ws : List Int) : ∀ i, (ordN ws i).Pairwise fun a b => ws.getD b 0 ≤ ws.getD a 0
  | 0 => List.Pairwise.nil
  | i + 1 => by
    have ih := ordN_desc ws i
    obtain ⟨p1, p2, p3⟩ := place_is ws (ws.getD i 0) (ordN ws i) (ordN ws i).length
    rw [ordN]
    generalize place ws (ws.getD i 0) (ordN ws i) (ordN ws i).length = k at p1 p2 p3 ⊢
    generalize ordN ws i = l at ih p1 p2 p3 ⊢
    have hsplit := ih
    rw [← List.take_append_drop k l, List.pairwise_append] at hsplit
    obtain ⟨s1, s2, s3⟩ := hsplit
    rw [List.pairwise_append, List.pairwise_cons]
    have low : ∀ b, b ∈ l.drop k → ws.getD b 0 ≤ ws.getD i 0 := by
      intro b hb
      obtain ⟨q, hq, rfl⟩ := List.mem_iff_getElem.1 hb
      rw [List.length_drop] at hq
      have := p2 (k + q) (by omega) (by omega)
      rw [List.getElem_drop]
      rw [getD_at _ _ (show k + q < l.length by omega)] at this
      omega
    have high : ∀ a, a ∈ l.take k → ws.getD i 0 ≤ ws.getD a 0 := by
      intro a ha
      obtain ⟨q, hq, rfl⟩ := List.mem_iff_getElem.1 ha
      rw [List.length_take] at hq
      have h3 := p3 (by omega)
      rw [getD_at _ _ (show k - 1 < l.length by omega)] at h3
      rw [List.getElem_take]
      by_cases e : q = k - 1
      · subst e; exact h3
      · exact Int.le_trans h3 (List.pairwise_iff_getElem.1 ih q (k - 1) (by omega) (by omega) (by omega))
    refine ⟨s1, ⟨low, s2⟩, fun a ha b hb => ?_⟩
    rcases List.mem_cons.1 hb with rfl | hb
    · exact high a ha
    · exact s3 a ha b hb
theorem nats_len (l : List Nat) : (nats l).length = l.length := by simp [nats]
theorem nats_at {l : List Nat} {k : Nat} (hk : k < l.length) : (nats l).getD k 0 = (l.getD k 0 : Nat) := by simp [nats, hk]
theorem nats_split (os : List Nat) (k j : Nat) : nats (os.take k ++ j :: os.drop k) = (nats os).take k ++ [(j : Int)] ++ (nats os).drop k := by simp [nats, List.map_take, List.map_drop]
theorem ordN_lt (ws : List Int) {i k : Nat} (hk : k < i) : (ordN ws i).getD k 0 < i := by
  have hl := ordN_len ws i
  rw [getD_at _ _ (by omega)]
  exact List.mem_range.1 ((ordN_perm ws i).mem_iff.1 (List.getElem_mem (by omega)))
/-- The order, as a function. -/
def ordF (ws : List Int) (i : Nat) : Nat := (ordN ws ws.length).getD i 0
theorem ordF_pm (ws : List Int) : Pm ws.length (ordF ws) := by
  have hl := ordN_len ws ws.length
  have hp := ordN_perm ws ws.length
  have hn : (ordN ws ws.length).Nodup := hp.nodup_iff.2 List.nodup_range
  refine ⟨fun i hi => ?_, fun i k hik hk h => ?_, fun j hj => ?_⟩
  · unfold ordF
    rw [getD_at _ _ (by omega)]
    exact List.mem_range.1 (hp.mem_iff.1 (List.getElem_mem (by omega)))
  · unfold ordF at h
    rw [getD_at _ _ (by omega), getD_at _ _ (by omega)] at h
    exact absurd h (List.pairwise_iff_getElem.1 hn i k (by omega) (by omega) hik)
  · obtain ⟨i, hi, e⟩ := List.mem_iff_getElem.1 (hp.mem_iff.2 (List.mem_range.2 hj))
    refine ⟨i, by omega, ?_⟩
    unfold ordF
    rw [getD_at _ _ hi, e]
theorem ordF_desc (ws : List Int) : ∀ i k, i < k → k < ws.length → ws.getD (ordF ws k) 0 ≤ ws.getD (ordF ws i) 0 := by
  intro i k hik hk
  have hl := ordN_len ws ws.length
  unfold ordF
  have := List.pairwise_iff_getElem.1 (ordN_desc ws ws.length) i k (by omega) (by omega) hik
  rwa [getD_at (ordN ws ws.length) 0 (by omega), getD_at (ordN ws ws.length) 0 (by omega)]

/-- The extension at a vector. -/
def extV (xs ws : List Int) : Int := xs.getD 0 0 + ax xs (ordF ws) (fun j => ws.getD j 0) ws.length
def extOk (n : Int) (xs ws : List Int) : Bool := isVec ws && (isFn n xs && decide ((ws.length : Int) = n))
def extAt (n : Int) (xs ws : List Int) : Int × Bool := if extOk n xs ws = true then (extV xs ws, true) else (0, false)
theorem extOk_yes {n : Int} {xs ws : List Int} (h : extOk n xs ws = true) : isVec ws = true ∧ isFn n xs = true ∧ (ws.length : Int) = n := by
  unfold extOk at h
  simpa using h
/-- By levels. -/
theorem ext_lev {n : Nat} {xs ws : List Int} (hl : ws.length = n) (hv : ∀ k, k < n → -1000 ≤ ws.getD k 0 ∧ ws.getD k 0 ≤ 1000) {o : Nat → Nat} (p : Pm n o) :
    extV xs ws = xs.getD 0 0 + (-1000 * (xs.getD (2 ^ n - 1) 0 - xs.getD 0 0) + sm (fun t => xs.getD (lv (fun j => ws.getD j 0) ((t : Int) + 1 - 1000) o n) 0 - xs.getD 0 0) 2000) := by
  subst hl
  have q := ordF_pm ws
  unfold extV
  rw [ax_levT xs (ordF ws) (fun j => ws.getD j 0) ws.length fun i hi => hv _ (q.lt i hi), pre_full q]
  have hs : ∀ t : Nat, bx xs (ordF ws) (fun j => ws.getD j 0) ((t : Int) + 1 - 1000) ws.length = xs.getD (lv (fun j => ws.getD j 0) ((t : Int) + 1 - 1000) o ws.length) 0 - xs.getD 0 0 := fun t => by
    rw [bx_eq (n := ws.length) _ (ordF_desc ws) _ _ (Nat.le_refl _), lv_eq q p]
  simp only [hs]
theorem ax_le {n : Nat} {xs ws : List Int} (s : Sb n xs) (hl : ws.length = n) (hv : ∀ k, k < n → -1000 ≤ ws.getD k 0 ∧ ws.getD k 0 ≤ 1000) {o : Nat → Nat} (p : Pm n o) :
    xs.getD 0 0 + ax xs o (fun j => ws.getD j 0) n ≤ extV xs ws := by
  rw [ext_lev hl hv p, ax_levT xs o (fun j => ws.getD j 0) n fun i hi => hv _ (p.lt i hi), pre_full p]
  have := sm_le (f := fun t => bx xs o (fun j => ws.getD j 0) ((t : Int) + 1 - 1000) n) (g := fun t => xs.getD (lv (fun j => ws.getD j 0) ((t : Int) + 1 - 1000) o n) 0 - xs.getD 0 0) 2000 fun t _ => bx_le s p _ _ n (Nat.le_refl _)
  exact Int.add_le_add_left (Int.add_le_add_left this _) _

def addV (xs ys : List Int) : List Int := tab xs.length fun k => xs.getD k 0 + ys.getD k 0
def minV (xs ys : List Int) : List Int := tab xs.length fun k => min (xs.getD k 0) (ys.getD k 0)
def maxV (xs ys : List Int) : List Int := tab xs.length fun k => max (xs.getD k 0) (ys.getD k 0)
def fitV (xs ys : List Int) : Bool := isVec xs && (isVec ys && decide (xs.length = ys.length))
theorem fitV_yes {xs ys : List Int} (h : fitV xs ys = true) : isVec xs = true ∧ isVec ys = true ∧ xs.length = ys.length := by
  unfold fitV at h
  simpa using h
def leastV (xs ys : List Int) : List Int × Bool := if fitV xs ys = true then (minV xs ys, true) else ([], false)
def greatV (xs ys : List Int) : List Int × Bool := if fitV xs ys = true then (maxV xs ys, true) else ([], false)
def pairV (xs ys : List Int) : Int × Bool := if fitV xs ys = true then (sm (fun k => xs.getD k 0 * ys.getD k 0) xs.length, true) else (0, false)
def indOf (n s : Int) : List Int × Bool := if 0 ≤ n ∧ n ≤ 5 ∧ isSet n s = true then (tab n.toNat fun i => if s.toNat.testBit i = true then 1 else 0, true) else ([], false)
def small (ws : List Int) : Bool := ws.all fun x => decide (-100 ≤ x) && decide (x ≤ 100)
theorem small_at {ws : List Int} (h : small ws = true) {k : Nat} (hk : k < ws.length) : -100 ≤ ws.getD k 0 ∧ ws.getD k 0 ≤ 100 := by
  simp only [small, Bool.and_eq_true, decide_eq_true_eq, List.all_eq_true] at h
  have := h ws[k] (List.getElem_mem hk)
  simpa [hk] using this
/-- The extension is convex at two vectors. -/
def convAt (n : Int) (fs xs ys : List Int) : Bool := extOk n fs xs && (extOk n fs ys && (small xs && (small ys && decide (extV fs (addV xs ys) + fs.getD 0 0 ≤ extV fs xs + extV fs ys))))

/-- Extensions of submodular functions are convex. -/
theorem ext_convex {n : Nat} {fs xs ys : List Int} (hs : isSub (n : Int) fs = true) (hx : xs.length = n) (hy : ys.length = n) (bx : ∀ k, k < n → -1000 ≤ xs.getD k 0 ∧ xs.getD k 0 ≤ 1000) (by_ : ∀ k, k < n → -1000 ≤ ys.getD k 0 ∧ ys.getD k 0 ≤ 1000) :
    extV fs (addV xs ys) + fs.getD 0 0 ≤ extV fs xs + extV fs ys := by
  have s := sb_of hs
  have hz : (addV xs ys).length = n := by unfold addV; rw [tab_length]; exact hx
  have q : Pm n (ordF (addV xs ys)) := by have := ordF_pm (addV xs ys); rwa [hz] at this
  have h1 := ax_le s hx bx q
  have h2 := ax_le s hy by_ q
  have h3 : ax fs (ordF (addV xs ys)) (fun j => (addV xs ys).getD j 0) n = ax fs (ordF (addV xs ys)) (fun j => xs.getD j 0) n + ax fs (ordF (addV xs ys)) (fun j => ys.getD j 0) n := by
    unfold ax
    rw [← sm_add]
    refine sm_congr _ fun i hi => ?_
    have : (addV xs ys).getD (ordF (addV xs ys) i) 0 = xs.getD (ordF (addV xs ys) i) 0 + ys.getD (ordF (addV xs ys) i) 0 := by
      have hlt := q.lt i hi
      generalize ordF (addV xs ys) i = j at hlt
      unfold addV
      rw [tab_at _ (by omega)]
    show (addV xs ys).getD _ 0 * _ = _
    rw [this, Int.add_mul]
  have h4 : extV fs (addV xs ys) = fs.getD 0 0 + ax fs (ordF (addV xs ys)) (fun j => (addV xs ys).getD j 0) n := by
    unfold extV; rw [hz]
  omega
theorem four_sums {a b c d k m : Int} (h : a + b ≤ c + d) : k + (m + a) + (k + (m + b)) ≤ k + (m + c) + (k + (m + d)) := by omega
/-- With least and greatest vectors even more so. -/
theorem ext_lattice {n : Nat} {fs xs ys : List Int} (hs : isSub (n : Int) fs = true) (hx : xs.length = n) (hy : ys.length = n) (bx : ∀ k, k < n → -1000 ≤ xs.getD k 0 ∧ xs.getD k 0 ≤ 1000) (by_ : ∀ k, k < n → -1000 ≤ ys.getD k 0 ∧ ys.getD k 0 ≤ 1000) :
    extV fs (minV xs ys) + extV fs (maxV xs ys) ≤ extV fs xs + extV fs ys := by
  have s := sb_of hs
  have q : Pm n (ordF xs) := by have := ordF_pm xs; rwa [hx] at this
  have emin : ∀ k, k < n → (minV xs ys).getD k 0 = min (xs.getD k 0) (ys.getD k 0) := fun k hk => by unfold minV; rw [tab_at _ (by omega)]
  have emax : ∀ k, k < n → (maxV xs ys).getD k 0 = max (xs.getD k 0) (ys.getD k 0) := fun k hk => by unfold maxV; rw [tab_at _ (by omega)]
  rw [ext_lev (ws := minV xs ys) (by unfold minV; rw [tab_length]; exact hx) (fun k hk => by rw [emin k hk]; have := bx k hk; have := by_ k hk; omega) q,
    ext_lev (ws := maxV xs ys) (by unfold maxV; rw [tab_length]; exact hx) (fun k hk => by rw [emax k hk]; have := bx k hk; have := by_ k hk; omega) q,
    ext_lev hx bx q, ext_lev hy by_ q]
  have key : ∀ T : Int, fs.getD (lv (fun j => (minV xs ys).getD j 0) T (ordF xs) n) 0 + fs.getD (lv (fun j => (maxV xs ys).getD j 0) T (ordF xs) n) 0 ≤ fs.getD (lv (fun j => xs.getD j 0) T (ordF xs) n) 0 + fs.getD (lv (fun j => ys.getD j 0) T (ordF xs) n) 0 := by
    intro T
    have e1 : lv (fun j => (minV xs ys).getD j 0) T (ordF xs) n = lv (fun j => xs.getD j 0) T (ordF xs) n &&& lv (fun j => ys.getD j 0) T (ordF xs) n := by
      apply Nat.eq_of_testBit_eq
      intro j
      rw [Nat.testBit_and, lv_set q, lv_set q, lv_set q]
      by_cases hj : j < n
      · apply bool_iff
        simp only [hj, decide_true, Bool.true_and, Bool.and_eq_true, decide_eq_true_eq, emin j hj]
        omega
      · simp [hj]
    have e2 : lv (fun j => (maxV xs ys).getD j 0) T (ordF xs) n = lv (fun j => xs.getD j 0) T (ordF xs) n ||| lv (fun j => ys.getD j 0) T (ordF xs) n := by
      apply Nat.eq_of_testBit_eq
      intro j
      rw [Nat.testBit_or, lv_set q, lv_set q, lv_set q]
      by_cases hj : j < n
      · apply bool_iff
        simp only [hj, decide_true, Bool.true_and, Bool.or_eq_true, decide_eq_true_eq, emax j hj]
        omega
      · simp [hj]
    rw [e1, e2]
    have := s.four (X := lv (fun j => xs.getD j 0) T (ordF xs) n) (Y := lv (fun j => ys.getD j 0) T (ordF xs) n) (lv_lt n q.lt) (lv_lt n q.lt)
    omega
  have hsum := sm_le (f := fun t => (fs.getD (lv (fun j => (minV xs ys).getD j 0) ((t : Int) + 1 - 1000) (ordF xs) n) 0 - fs.getD 0 0) + (fs.getD (lv (fun j => (maxV xs ys).getD j 0) ((t : Int) + 1 - 1000) (ordF xs) n) 0 - fs.getD 0 0))
    (g := fun t => (fs.getD (lv (fun j => xs.getD j 0) ((t : Int) + 1 - 1000) (ordF xs) n) 0 - fs.getD 0 0) + (fs.getD (lv (fun j => ys.getD j 0) ((t : Int) + 1 - 1000) (ordF xs) n) 0 - fs.getD 0 0)) 2000 fun t _ => by
      have := key ((t : Int) + 1 - 1000)
      show (_ - _) + (_ - _) ≤ (_ - _) + (_ - _)
      omega
  rw [sm_add, sm_add] at hsum
  exact four_sums hsum

end Go.Proofs.Ytlbefommcahkeaa.M
