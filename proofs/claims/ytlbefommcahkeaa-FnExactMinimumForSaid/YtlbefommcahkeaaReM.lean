/-
  Restrictions, contractions, opposite and dual functions as plain mathematics.
-/
import Derived.Test.YtlbefommcahkeaaClM
import Derived.Test.YtlbefommcahkeaaMkM
import Derived.Test.YtlbefommcahkeaaElsM
namespace Go.Proofs.Ytlbefommcahkeaa.M
set_option linter.unusedVariables false
set_option linter.unusedSimpArgs false

/-- The bits of a number put to listed elements. -/
def spread (l : List Int) (x : Nat) : Nat → Nat
  | 0 => 0
  | i + 1 => if x.testBit i = true then spread l x i ||| 2 ^ (l.getD i 0).toNat else spread l x i
def restV (xs : List Int) (s x : Nat) : Int := xs.getD (spread (els s) x (ones s)) 0
def restrictFn (n : Int) (xs : List Int) (s : Int) : Int × List Int × Bool := if isFn n xs = true ∧ isSet n s = true then (((ones s.toNat : Nat) : Int), tab (2 ^ ones s.toNat) (restV xs s.toNat), true) else (0, [], false)
/-- The elements of the first n that are not in s. -/
def compl (n s : Nat) : Nat := 2 ^ n - 1 - s
def contV (xs : List Int) (s r x : Nat) : Int := xs.getD (s ||| spread (els r) x (ones r)) 0 - xs.getD s 0
def contractFn (n : Int) (xs : List Int) (s : Int) : Int × List Int × Bool := if isFn n xs = true ∧ isSet n s = true then made ((ones (compl n.toNat s.toNat) : Nat) : Int) (tab (2 ^ ones (compl n.toNat s.toNat)) (contV xs s.toNat (compl n.toNat s.toNat))) else (0, [], false)
def oppV (xs : List Int) (s : Nat) : Int := xs.getD (xs.length - 1 - s) 0
def oppositeFn (n : Int) (xs : List Int) : Int × List Int × Bool := if isFn n xs = true then (n, tab xs.length (oppV xs), true) else (0, [], false)
def dualV (xs ws : List Int) (s : Nat) : Int := weigh ws s ws.length + xs.getD (xs.length - 1 - s) 0 - xs.getD (xs.length - 1) 0
def weightsOk (ws : List Int) : Prop := ∀ k, k < ws.length → -1000 ≤ ws.getD k 0 ∧ ws.getD k 0 ≤ 1000
instance (ws : List Int) : Decidable (weightsOk ws) := by unfold weightsOk; infer_instance
def dualFn (n : Int) (xs ws : List Int) : Int × List Int × Bool := if isFn n xs = true ∧ (ws.length : Int) = n ∧ weightsOk ws then made n (tab xs.length (dualV xs ws)) else (0, [], false)

theorem ones_els : ∀ s, s < 32 → (els s).length = ones s := by decide +kernel
theorem els_ok : ∀ s, s < 32 → ∀ j, j < (els s).length → 0 ≤ (els s).getD j 0 ∧ s.testBit ((els s).getD j 0).toNat = true ∧ ∀ k, k < j → (els s).getD k 0 < (els s).getD j 0 := by decide +kernel
theorem ones_le : ∀ n, n ≤ 5 → ∀ s, s < 2 ^ n → ones s ≤ n := ones_le5
theorem compl_lt {n s : Nat} : compl n s < 2 ^ n := by
  have := Nat.two_pow_pos n
  unfold compl; omega
theorem compl_bit {n s i : Nat} (hs : s < 2 ^ n) : (compl n s).testBit i = (decide (i < n) && !s.testBit i) := by
  have := Nat.testBit_two_pow_sub_succ hs i
  rwa [show 2 ^ n - (s + 1) = compl n s by unfold compl; omega] at this
theorem restrict_len {n : Int} {xs : List Int} {s : Int} : (restrictFn n xs s).2.1.length ≤ 32 := by
  unfold restrictFn
  split
  · rename_i h
    obtain ⟨h0, h5, -, -⟩ := isFn_yes h.1
    obtain ⟨h1, h2⟩ := isSet_yes h.2
    have h3 := ones_le5 n.toNat (by omega) s.toNat (by omega)
    have h4 : 2 ^ ones s.toNat ≤ 2 ^ 5 := Nat.pow_le_pow_right (by decide) (by omega)
    show (tab _ _).length ≤ 32
    rw [tab_length]; omega
  · exact Nat.zero_le _
theorem contract_len (n : Int) (xs : List Int) (s : Int) : (contractFn n xs s).2.1.length ≤ 32 := by
  unfold contractFn; split <;> first | exact made_len _ _ | exact Nat.zero_le _
theorem opposite_len (n : Int) (xs : List Int) : (oppositeFn n xs).2.1.length ≤ 32 := by
  unfold oppositeFn
  split
  · rename_i h
    show (tab _ _).length ≤ 32
    rw [tab_length]; exact (isFn_len h).2
  · exact Nat.zero_le _
theorem dual_len (n : Int) (xs ws : List Int) : (dualFn n xs ws).2.1.length ≤ 32 := by
  unfold dualFn; split <;> first | exact made_len _ _ | exact Nat.zero_le _

-- the spread
theorem spread_lt {n : Nat} {l : List Int} {x : Nat} : ∀ m, (∀ j, j < m → (l.getD j 0).toNat < n) → spread l x m < 2 ^ n
  | 0, _ => Nat.two_pow_pos n
  | m + 1, h => by
    have ih := spread_lt (x := x) m fun j hj => h j (by omega)
    unfold spread
    split
    · exact or_lt ih (h m (by omega))
    · exact ih
theorem spread_zero (l : List Int) : ∀ m, spread l 0 m = 0
  | 0 => rfl
  | m + 1 => by
    unfold spread
    rw [Nat.zero_testBit, if_neg (by decide)]
    exact spread_zero l m
theorem or_testBit (x i q : Nat) : (x ||| 2 ^ i).testBit q = (x.testBit q || decide (i = q)) := by rw [Nat.testBit_or, Nat.testBit_two_pow]
theorem spread_low (l : List Int) (x i : Nat) : ∀ m, m ≤ i → spread l (x ||| 2 ^ i) m = spread l x m
  | 0, _ => rfl
  | m + 1, h => by
    have ih := spread_low l x i m (by omega)
    unfold spread
    rw [or_testBit, decide_eq_false (by omega), Bool.or_false, ih]
theorem spread_or (l : List Int) (x i : Nat) : ∀ m, i < m → spread l (x ||| 2 ^ i) m = spread l x m ||| 2 ^ (l.getD i 0).toNat
  | 0, h => absurd h (by omega)
  | m + 1, h => by
    unfold spread
    rw [or_testBit]
    by_cases e : i = m
    · subst e
      rw [spread_low l x i i (Nat.le_refl _), decide_eq_true rfl, Bool.or_true, if_pos rfl]
      split
      · exact (or_bit (by rw [or_testBit]; simp)).symm
      · rfl
    · rw [spread_or l x i m (by omega), decide_eq_false e, Bool.or_false]
      split
      · rw [or_swap]
      · rfl
theorem spread_no {l : List Int} {x i : Nat} (hx : x.testBit i = false) : ∀ m, (∀ j, j < m → j ≠ i → (l.getD j 0).toNat ≠ (l.getD i 0).toNat) → (spread l x m).testBit (l.getD i 0).toNat = false
  | 0, _ => Nat.zero_testBit _
  | m + 1, h => by
    have ih := spread_no hx m fun j hj => h j (by omega)
    unfold spread
    split
    · rename_i ht
      have hne : m ≠ i := fun e => by subst e; rw [hx] at ht; cases ht
      rw [or_testBit, ih, decide_eq_false (h m (by omega) hne)]; rfl
    · exact ih
/-- The elements that spread a number: apart, below n, none in the base. -/
structure Lies (n : Nat) (l : List Int) (m S : Nat) : Prop where
  below : ∀ j, j < m → (l.getD j 0).toNat < n
  apart : ∀ j k, j < m → k < m → j ≠ k → (l.getD j 0).toNat ≠ (l.getD k 0).toNat
  out : ∀ j, j < m → S.testBit (l.getD j 0).toNat = false
theorem lies_els {n s S : Nat} (h5 : n ≤ 5) (hs : s < 2 ^ n) (ho : ∀ q, s.testBit q = true → S.testBit q = false) : Lies n (els s) (ones s) S := by
  have h32 : s < 32 := Nat.lt_of_lt_of_le hs (Nat.le_trans (Nat.pow_le_pow_right (by decide) h5) (by decide))
  have hl := ones_els s h32
  refine ⟨fun j hj => ?_, fun j k hj hk hne => ?_, fun j hj => ?_⟩
  · obtain ⟨-, h2, -⟩ := els_ok s h32 j (by omega)
    refine Nat.lt_of_not_le fun hge => ?_
    rw [Nat.testBit_lt_two_pow (Nat.lt_of_lt_of_le hs (Nat.pow_le_pow_right (by decide) hge))] at h2
    cases h2
  · obtain ⟨j0, -, j2⟩ := els_ok s h32 j (by omega)
    obtain ⟨k0, -, k2⟩ := els_ok s h32 k (by omega)
    rcases Nat.lt_or_gt_of_ne hne with h | h
    · have := k2 j h; omega
    · have := j2 k h; omega
  · exact ho _ (els_ok s h32 j (by omega)).2.1
/-- Where f is submodular, so is what it is on the spread of numbers over a base. -/
theorem spread_sub {n : Nat} {xs : List Int} (h : isSub (n : Int) xs = true) {l : List Int} {m S : Nat} (hl : Lies n l m S) (hS : S < 2 ^ n) (c : Int) {x i k : Nat} (hx : x < 2 ^ m) (hi : i < m) (hk : k < m) (hik : i < k) : bad (tab (2 ^ m) fun x => xs.getD (S ||| spread l x m) 0 - c) x i k = false := by
  obtain ⟨hf, hsub⟩ := sub_iff.1 h
  obtain ⟨-, -, hlen, -⟩ := isFn_yes hf
  rw [Int.toNat_natCast] at hlen
  have b1 := or_lt hx hi
  have b2 := or_lt hx hk
  have b3 := or_lt b1 hk
  unfold bad
  rw [tab_at _ hx, tab_at _ b1, tab_at _ b2, tab_at _ b3]
  cases t1 : x.testBit i
  · cases t2 : x.testBit k
    · have hT : S ||| spread l x m < 2 ^ n := Nat.or_lt_two_pow hS (spread_lt m hl.below)
      have u1 : (S ||| spread l x m).testBit (l.getD i 0).toNat = false := by
        rw [Nat.testBit_or, hl.out i hi, spread_no t1 m fun j hj hne => hl.apart j i hj hi hne]; rfl
      have u2 : (S ||| spread l x m).testBit (l.getD k 0).toNat = false := by
        rw [Nat.testBit_or, hl.out k hk, spread_no t2 m fun j hj hne => hl.apart j k hj hk hne]; rfl
      rw [spread_or l (x ||| 2 ^ i) k m hk, spread_or l x i m hi, spread_or l x k m hk]
      simp only [← Nat.or_assoc]
      have hne := hl.apart i k hi hk (by omega)
      have bi := hl.below i hi
      have bk := hl.below k hk
      generalize (l.getD i 0).toNat = I at *
      generalize (l.getD k 0).toNat = K at *
      generalize S ||| spread l x m = T at *
      have key : xs.getD (T ||| 2 ^ I ||| 2 ^ K) 0 + xs.getD T 0 ≤ xs.getD (T ||| 2 ^ I) 0 + xs.getD (T ||| 2 ^ K) 0 := by
        rcases Nat.lt_or_gt_of_ne hne with h | h
        · exact bad_false (n := n) (hsub T I K (by omega) bi bk h) u1 u2
        · have := bad_false (n := n) (hsub T K I (by omega) bk bi h) u2 u1
          rw [or_swap] at this
          omega
      simp only [Bool.not_false, Bool.true_and, decide_eq_false_iff_not]
      omega
    · simp
  · simp
theorem restV_eq (xs : List Int) (s : Nat) : restV xs s = fun x => xs.getD (0 ||| spread (els s) x (ones s)) 0 - 0 := by
  funext x
  unfold restV
  rw [Nat.zero_or]
  omega
theorem restrict_fn {n : Int} {xs : List Int} {s : Int} (hf : isFn n xs = true) (hs : isSet n s = true) : isFn ((ones s.toNat : Nat) : Int) (tab (2 ^ ones s.toNat) (restV xs s.toNat)) = true := by
  obtain ⟨h0, h5, hl, hv⟩ := isFn_yes hf
  obtain ⟨s0, s1⟩ := isSet_yes hs
  have hs' : s.toNat < 2 ^ n.toNat := by omega
  have ho := ones_le5 n.toNat (by omega) s.toNat hs'
  refine isFn_mk (by omega) (by omega) (by rw [tab_length, Int.toNat_natCast]) fun k hk => ?_
  rw [tab_length] at hk
  rw [tab_at _ hk]
  exact hv _ (by
    rw [hl]
    exact spread_lt _ (lies_els (S := 0) (by omega) hs' fun q _ => Nat.zero_testBit q).below)
theorem restrict_made {n : Int} {xs : List Int} {s : Int} (hf : isFn n xs = true) (hs : isSet n s = true) : restrictFn n xs s = made ((ones s.toNat : Nat) : Int) (tab (2 ^ ones s.toNat) (restV xs s.toNat)) := by
  unfold restrictFn made
  rw [if_pos ⟨hf, hs⟩, if_pos (restrict_fn hf hs)]
/-- Restrictions of submodular functions are submodular. -/
theorem restrict_sub {n : Int} {xs : List Int} {s : Int} (h : isSub n xs = true) (hs : isSet n s = true) : isSub (restrictFn n xs s).1 (restrictFn n xs s).2.1 = true := by
  have hf : isFn n xs = true := by unfold isSub at h; simp only [Bool.and_eq_true] at h; exact h.1
  obtain ⟨h0, h5, -, -⟩ := isFn_yes hf
  obtain ⟨s0, s1⟩ := isSet_yes hs
  obtain ⟨N, rfl⟩ := Int.eq_ofNat_of_zero_le h0
  rw [Int.toNat_natCast] at s1
  have hr := restrict_fn hf hs
  unfold restrictFn
  rw [if_pos ⟨hf, hs⟩]
  refine sub_iff.2 ⟨hr, fun x i k hx hi hk hik => ?_⟩
  rw [tab_length] at hx
  rw [restV_eq]
  exact spread_sub h (lies_els (by omega) (by omega) fun q _ => Nat.zero_testBit q) (Nat.two_pow_pos N) 0 hx hi hk hik
/-- Contractions of submodular functions are submodular and give 0 to the empty set. -/
theorem contract_sub {n : Int} {xs : List Int} {s : Int} (h : isSub n xs = true) (hs : isSet n s = true) (ht : (contractFn n xs s).2.2 = true) : isSub (contractFn n xs s).1 (contractFn n xs s).2.1 = true ∧ isGround (contractFn n xs s).1 (contractFn n xs s).2.1 = true := by
  have hf : isFn n xs = true := by unfold isSub at h; simp only [Bool.and_eq_true] at h; exact h.1
  obtain ⟨h0, h5, -, -⟩ := isFn_yes hf
  obtain ⟨s0, s1⟩ := isSet_yes hs
  obtain ⟨N, rfl⟩ := Int.eq_ofNat_of_zero_le h0
  rw [Int.toNat_natCast] at s1
  unfold contractFn at ht ⊢
  rw [if_pos ⟨hf, hs⟩, Int.toNat_natCast] at ht ⊢
  unfold made at ht ⊢
  split at ht
  · rename_i hm
    rw [if_pos hm]
    refine ⟨sub_iff.2 ⟨hm, fun x i k hx hi hk hik => ?_⟩, ?_⟩
    · rw [tab_length] at hx
      refine spread_sub h (lies_els (by omega) compl_lt fun q hq => ?_) (by omega) _ hx hi hk hik
      rw [compl_bit (by omega)] at hq
      simpa using (Bool.and_eq_true_iff.1 hq).2
    · show (isFn _ _ && decide _) = true
      rw [hm, tab_at _ (Nat.two_pow_pos _)]
      unfold contV
      rw [spread_zero, Nat.or_zero]
      simp
  · cases ht
-- opposite functions
theorem compl_two {n s i k : Nat} (hs : s < 2 ^ n) (hi : i < n) (hk : k < n) (hne : i ≠ k) (t1 : s.testBit i = false) (t2 : s.testBit k = false) :
    compl n s = compl n (s ||| 2 ^ i ||| 2 ^ k) ||| 2 ^ i ||| 2 ^ k ∧ compl n (s ||| 2 ^ i) = compl n (s ||| 2 ^ i ||| 2 ^ k) ||| 2 ^ k ∧ compl n (s ||| 2 ^ k) = compl n (s ||| 2 ^ i ||| 2 ^ k) ||| 2 ^ i := by
  have b1 := or_lt hs hi
  have b2 := or_lt hs hk
  have b3 := or_lt b1 hk
  refine ⟨?_, ?_, ?_⟩ <;>
    (apply Nat.eq_of_testBit_eq; intro q
     simp only [or_testBit, compl_bit hs, compl_bit b1, compl_bit b2, compl_bit b3]
     by_cases e1 : i = q
     · subst e1
       simp [hi, t1, hne, Ne.symm hne]
     · by_cases e2 : k = q
       · subst e2
         simp [hk, t2, hne, e1]
       · simp [e1, e2])
theorem opp_at {n s : Nat} {xs : List Int} (hl : xs.length = 2 ^ n) (hs : s < 2 ^ n) : (tab xs.length (oppV xs)).getD s 0 = xs.getD (compl n s) 0 := by
  rw [tab_at _ (by omega)]
  unfold oppV compl
  rw [hl]
theorem opp_bad {n s i k : Nat} {xs ys : List Int} (hv : ∀ s, s < 2 ^ n → ys.getD s 0 = xs.getD (compl n s) 0) (hs : s < 2 ^ n) (hi : i < n) (hk : k < n) (hne : i ≠ k) (t1 : s.testBit i = false) (t2 : s.testBit k = false) :
    bad ys s i k = bad xs (compl n (s ||| 2 ^ i ||| 2 ^ k)) i k := by
  have b1 := or_lt hs hi
  have b2 := or_lt hs hk
  have b3 := or_lt b1 hk
  obtain ⟨c1, c2, c3⟩ := compl_two hs hi hk hne t1 t2
  unfold bad
  rw [hv s hs, hv _ b1, hv _ b2, hv _ b3, c1, c2, c3, compl_bit b3, compl_bit b3, t1, t2]
  simp only [or_testBit]
  simp
  constructor <;> intro _ <;> omega
theorem opp_sub_of {n : Nat} {xs ys : List Int} (hv : ∀ s, s < 2 ^ n → ys.getD s 0 = xs.getD (compl n s) 0) (hy : isFn (n : Int) ys = true) (h : isSub (n : Int) xs = true) : isSub (n : Int) ys = true := by
  obtain ⟨hf, hsub⟩ := sub_iff.1 h
  obtain ⟨-, -, hl, -⟩ := isFn_yes hf
  obtain ⟨-, -, hl2, -⟩ := isFn_yes hy
  rw [Int.toNat_natCast] at hl hl2
  refine sub_iff.2 ⟨hy, fun s i k hs hi hk hik => ?_⟩
  cases t1 : s.testBit i
  · cases t2 : s.testBit k
    · rw [opp_bad hv (by omega) hi hk (by omega) t1 t2]
      exact hsub _ i k (by rw [hl]; exact compl_lt) hi hk hik
    · unfold bad; rw [t1, t2]; rfl
  · unfold bad; rw [t1]; rfl
theorem compl_compl {n s : Nat} (hs : s < 2 ^ n) : compl n (compl n s) = s := by unfold compl; omega
theorem opposite_fn {n : Int} {xs : List Int} (hf : isFn n xs = true) : isFn n (tab xs.length (oppV xs)) = true := by
  obtain ⟨h0, h5, hl, hv⟩ := isFn_yes hf
  have h1 := isFn_len hf
  refine isFn_mk h0 h5 (by rw [tab_length]; exact hl) fun k hk => ?_
  rw [tab_length] at hk
  rw [tab_at _ hk]
  exact hv _ (by omega)
theorem opposite_made {n : Int} {xs : List Int} (hf : isFn n xs = true) : oppositeFn n xs = made n (tab xs.length (oppV xs)) := by
  unfold oppositeFn made
  rw [if_pos hf, if_pos (opposite_fn hf)]
/-- An opposite function is submodular exactly if the function is. -/
theorem opposite_sub {n : Int} {xs : List Int} (hf : isFn n xs = true) : isSub (oppositeFn n xs).1 (oppositeFn n xs).2.1 = isSub n xs := by
  obtain ⟨h0, h5, hl, hv⟩ := isFn_yes hf
  obtain ⟨N, rfl⟩ := Int.eq_ofNat_of_zero_le h0
  rw [Int.toNat_natCast] at hl
  have ho := opposite_fn hf
  unfold oppositeFn
  rw [if_pos hf]
  show isSub (N : Int) (tab xs.length (oppV xs)) = _
  rw [Bool.eq_iff_iff]
  refine ⟨fun h => opp_sub_of (xs := tab xs.length (oppV xs)) (fun s hs => ?_) hf h, fun h => opp_sub_of (fun s hs => opp_at hl hs) ho h⟩
  rw [opp_at hl compl_lt, compl_compl hs]
-- dual functions
theorem weigh_low (ws : List Int) (s i : Nat) : ∀ m, m ≤ i → weigh ws (s ||| 2 ^ i) m = weigh ws s m
  | 0, _ => rfl
  | m + 1, h => by
    have ih := weigh_low ws s i m (by omega)
    unfold weigh
    rw [or_testBit, decide_eq_false (by omega), Bool.or_false, ih]
theorem weigh_or (ws : List Int) {s i : Nat} (ht : s.testBit i = false) : ∀ m, i < m → weigh ws (s ||| 2 ^ i) m = weigh ws s m + ws.getD i 0
  | 0, h => absurd h (by omega)
  | m + 1, h => by
    unfold weigh
    rw [or_testBit]
    by_cases e : i = m
    · subst e
      rw [weigh_low ws s i i (Nat.le_refl _), decide_eq_true rfl, Bool.or_true, if_pos rfl, ht, if_neg (by decide)]
    · rw [weigh_or ws ht m (by omega), decide_eq_false e, Bool.or_false]
      split <;> omega
theorem dual_bad {n s i k : Nat} {xs ws : List Int} (hl : xs.length = 2 ^ n) (hw : ws.length = n) (hs : s < 2 ^ n) (hi : i < n) (hk : k < n) (hne : i ≠ k) : bad (tab xs.length (dualV xs ws)) s i k = bad (tab xs.length (oppV xs)) s i k := by
  have b1 := or_lt hs hi
  have b2 := or_lt hs hk
  have b3 := or_lt b1 hk
  unfold bad
  rw [← hl] at hs b1 b2 b3
  rw [tab_at _ hs, tab_at _ b1, tab_at _ b2, tab_at _ b3, tab_at _ hs, tab_at _ b1, tab_at _ b2, tab_at _ b3]
  cases t1 : s.testBit i
  · cases t2 : s.testBit k
    · have w1 := weigh_or ws t1 ws.length (by omega)
      have w2 := weigh_or ws t2 ws.length (by omega)
      have w3 := weigh_or ws (s := s ||| 2 ^ i) (i := k) (by rw [or_testBit, t2, decide_eq_false hne]; rfl) ws.length (by omega)
      unfold dualV oppV
      rw [w3, w1, w2]
      simp only [Bool.not_false, Bool.true_and]
      rw [decide_eq_decide]
      constructor <;> intro _ <;> omega
    · simp
  · simp
/-- A dual function is submodular exactly if the function is. -/
theorem dual_sub {n : Int} {xs ws : List Int} (ht : (dualFn n xs ws).2.2 = true) : isSub (dualFn n xs ws).1 (dualFn n xs ws).2.1 = isSub n xs := by
  unfold dualFn at ht ⊢
  split at ht
  · rename_i hh
    rw [if_pos hh]
    obtain ⟨hf, hw, -⟩ := hh
    unfold made at ht ⊢
    split at ht
    · rename_i hm
      rw [if_pos hm]
      have ho := opposite_sub hf
      unfold oppositeFn at ho
      rw [if_pos hf] at ho
      have ho' : isSub n (tab xs.length (oppV xs)) = isSub n xs := ho
      rw [← ho']
      obtain ⟨h0, h5, hl, hv⟩ := isFn_yes hf
      obtain ⟨N, rfl⟩ := Int.eq_ofNat_of_zero_le h0
      rw [Int.toNat_natCast] at hl
      have hof := opposite_fn hf
      show isSub (N : Int) (tab xs.length (dualV xs ws)) = _
      rw [Bool.eq_iff_iff, sub_iff, sub_iff]
      simp only [tab_length]
      constructor
      · rintro ⟨-, h⟩
        exact ⟨hof, fun s i k hs hi hk hik => by rw [← dual_bad (ws := ws) hl (by omega) (by omega) hi hk (by omega)]; exact h s i k hs hi hk hik⟩
      · rintro ⟨-, h⟩
        exact ⟨hm, fun s i k hs hi hk hik => by rw [dual_bad (ws := ws) hl (by omega) (by omega) hi hk (by omega)]; exact h s i k hs hi hk hik⟩
    · cases ht
  · cases ht

end Go.Proofs.Ytlbefommcahkeaa.M
