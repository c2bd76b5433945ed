/-
  Raised vectors, dual vectors, ranks of vectors as plain mathematics: a raised vector stays below its function, and a dual vector's sum is the minimum.
-/
import Derived.Test.YtffbiflgmlabaaaPtA
import Derived.Test.YtffbiflgmlabaaaAllM
namespace Go.Proofs.Ytffbiflgmlabaaa.M
set_option linter.unusedVariables false
set_option linter.unusedSimpArgs false

-- weights of sets
theorem weigh_cut (ws : List Int) (S T : Nat) : ∀ m, weigh ws (S ||| T) m + weigh ws (S &&& T) m = weigh ws S m + weigh ws T m
  | 0 => rfl
  | m + 1 => by
    have ih := weigh_cut ws S T m
    unfold weigh
    rw [Nat.testBit_or, Nat.testBit_and]
    cases S.testBit m <;> cases T.testBit m <;> simp <;> omega
theorem weigh_set (ws : List Int) {e : Nat} (v : Int) (S : Nat) (he : e < ws.length) : ∀ m, weigh (ws.set e v) S m = weigh ws S m + if e < m ∧ S.testBit e = true then v - ws.getD e 0 else 0
  | 0 => by simp [weigh]
  | m + 1 => by
    have ih := weigh_set ws v S he m
    have hg : (ws.set e v).getD m 0 = if e = m then v else ws.getD m 0 := by
      by_cases h : e = m
      · subst h
        rw [if_pos rfl, List.getD_eq_getElem?_getD, List.getElem?_set_self he]; rfl
      · rw [if_neg h, List.getD_eq_getElem?_getD, List.getElem?_set_ne h, List.getD_eq_getElem?_getD]
    unfold weigh
    rw [ih, hg]
    by_cases h : e = m
    · subst h
      rw [if_neg (by omega : ¬ (e < e ∧ S.testBit e = true)), if_pos rfl]
      cases hb : S.testBit e
      · simp
      · simp; omega
    · rw [if_neg h]
      have hc : (if e < m + 1 ∧ S.testBit e = true then v - ws.getD e 0 else 0) = if e < m ∧ S.testBit e = true then v - ws.getD e 0 else 0 := by
        have hi : (e < m + 1 ∧ S.testBit e = true) = (e < m ∧ S.testBit e = true) := propext ⟨fun hh => ⟨by omega, hh.2⟩, fun hh => ⟨by omega, hh.2⟩⟩
        simp only [hi]
      rw [hc]
      generalize (if e < m ∧ S.testBit e = true then v - ws.getD e 0 else 0) = d
      split <;> omega
theorem weigh_nonpos {ws : List Int} (S : Nat) : ∀ m, (∀ k, k < m → ws.getD k 0 ≤ 0) → weigh ws S m ≤ 0
  | 0, _ => by simp [weigh]
  | m + 1, h => by
    have ih := weigh_nonpos (ws := ws) S m fun k hk => h k (by omega)
    have h1 := h m (by omega)
    unfold weigh
    split <;> omega
theorem weigh_le_one {ws : List Int} {S i : Nat} (hb : S.testBit i = true) : ∀ m, i < m → (∀ k, k < m → ws.getD k 0 ≤ 0) → weigh ws S m ≤ ws.getD i 0
  | 0, h, _ => absurd h (by omega)
  | m + 1, h, hn => by
    unfold weigh
    by_cases e : i = m
    · subst e
      have := weigh_nonpos (ws := ws) S i fun k hk => hn k (by omega)
      rw [if_pos hb]
      omega
    · have ih := weigh_le_one hb m (by omega) fun k hk => hn k (by omega)
      have h1 := hn m (by omega)
      split <;> omega
/-- What is not positive weighs most where least is taken. -/
theorem weigh_all_le {ws : List Int} (S : Nat) : ∀ m, (∀ k, k < m → ws.getD k 0 ≤ 0) → sm (fun k => ws.getD k 0) m ≤ weigh ws S m
  | 0, _ => by simp [weigh, sm]
  | m + 1, h => by
    have ih := weigh_all_le (ws := ws) S m fun k hk => h k (by omega)
    have h1 := h m (by omega)
    unfold weigh
    rw [sm]
    split <;> omega
theorem weigh_all_eq {ws : List Int} {U : Nat} : ∀ m, (∀ k, k < m → ws.getD k 0 ≠ 0 → U.testBit k = true) → sm (fun k => ws.getD k 0) m = weigh ws U m
  | 0, _ => rfl
  | m + 1, h => by
    have ih := weigh_all_eq (ws := ws) (U := U) m fun k hk => h k (by omega)
    have h1 := h m (by omega)
    unfold weigh
    rw [sm, ih]
    by_cases hz : ws.getD m 0 = 0
    · rw [hz]; split <;> omega
    · rw [if_pos (h1 hz)]
theorem nonzero_bit {n S : Nat} (hS : S < 2 ^ n) (h0 : S ≠ 0) : ∃ i, i < n ∧ S.testBit i = true := by
  obtain ⟨i, hi⟩ := Nat.exists_testBit_of_ne_zero h0
  refine ⟨i, ?_, hi⟩
  rcases Nat.lt_or_ge i n with h | h
  · exact h
  · have : S < 2 ^ i := Nat.lt_of_lt_of_le hS (Nat.pow_le_pow_right (by decide) h)
    rw [Nat.testBit_lt_two_pow this] at hi
    cases hi

-- what is below a function
structure Bl (n : Nat) (xs ws : List Int) : Prop where
  gr : isGround (n : Int) xs = true
  len : ws.length = n
  five : n ≤ 5
  lx : xs.length = 2 ^ n
  bx : ∀ k, k < xs.length → -1000 ≤ xs.getD k 0 ∧ xs.getD k 0 ≤ 1000
  bw : ∀ k, k < n → -5000 ≤ ws.getD k 0 ∧ ws.getD k 0 ≤ 5000
  low : ∀ S, S < 2 ^ n → weigh ws S n ≤ xs.getD S 0
theorem bl_of {n : Nat} {xs ws : List Int} (h : isBelow (n : Int) xs ws = true) : Bl n xs ws := by
  obtain ⟨q1, q2, q3, q4⟩ := isBelow_yes h
  obtain ⟨h0, h5, hl, hv⟩ := isFn_yes (ground_fn q1)
  rw [Int.toNat_natCast] at hl
  obtain ⟨-, hw⟩ := isVec5_yes q3
  have hn : ws.length = n := by omega
  refine ⟨q1, hn, by omega, hl, hv, fun k hk => hw k (by omega), fun S hS => ?_⟩
  have := (below_at xs.length).1 q4 S (by omega)
  rw [hn] at this
  exact this
theorem Bl.is {n : Nat} {xs ws : List Int} (h : Bl n xs ws) : isBelow (n : Int) xs ws = true := by
  unfold isBelow
  rw [h.gr, decide_eq_true (by rw [h.len] : (ws.length : Int) = (n : Int)), isVec5_mk (by rw [h.len]; exact h.five) (fun k hk => h.bw k (by rw [← h.len]; exact hk)), (below_at xs.length).2 fun S hS => by rw [h.len]; exact h.low S (by rw [← h.lx]; exact hS)]
  rfl
/-- The capacity of an element. -/
def capE (xs ws : List Int) (e : Nat) : Int := capTo xs ws (fun s => s.testBit e) xs.length
theorem capOf_in {n : Nat} {xs ws : List Int} (h : Bl n xs ws) {e : Nat} (he : e < n) : capOf (n : Int) xs ws (e : Int) = (capE xs ws e, true) := by
  unfold capOf
  rw [if_pos ⟨h.is, by omega, by omega⟩]
  rfl
theorem capE_le {n : Nat} {xs ws : List Int} (h : Bl n xs ws) {e S : Nat} (hS : S < 2 ^ n) (hb : S.testBit e = true) : capE xs ws e ≤ xs.getD S 0 - weigh ws S n := by
  have := cap_le (xs := xs) (ws := ws) (p := fun s => s.testBit e) xs.length S (by rw [h.lx]; exact hS) hb
  rw [h.len] at this
  exact this
theorem capE_at {n : Nat} {xs ws : List Int} (h : Bl n xs ws) (e : Nat) : capE xs ws e = 100000 ∨ ∃ S, S < 2 ^ n ∧ S.testBit e = true ∧ capE xs ws e = xs.getD S 0 - weigh ws S n := by
  rcases cap_at (xs := xs) (ws := ws) (p := fun s => s.testBit e) xs.length with h1 | ⟨S, h1, h2, h3⟩
  · exact .inl h1
  · rw [h.len] at h3
    exact .inr ⟨S, by rw [← h.lx]; exact h1, h2, h3⟩
theorem capE_pos {n : Nat} {xs ws : List Int} (h : Bl n xs ws) (e : Nat) : 0 ≤ capE xs ws e := by
  rcases capE_at h e with h1 | ⟨S, h1, -, h3⟩
  · omega
  · have := h.low S h1
    omega
/-- An element gets at most its capacity: the vector stays below. -/
theorem Bl.raise {n : Nat} {xs ws : List Int} (h : Bl n xs ws) {e : Nat} (he : e < n) {v : Int} (h1 : ws.getD e 0 ≤ v) (h2 : v ≤ ws.getD e 0 + capE xs ws e) (h3 : v ≤ 5000) : Bl n xs (ws.set e v) := by
  have hel : e < ws.length := by rw [h.len]; exact he
  refine ⟨h.gr, by rw [List.length_set]; exact h.len, h.five, h.lx, h.bx, fun k hk => ?_, fun S hS => ?_⟩
  · by_cases hke : e = k
    · subst hke
      rw [List.getD_eq_getElem?_getD, List.getElem?_set_self hel]
      have := h.bw e he
      exact ⟨by show -5000 ≤ v; omega, h3⟩
    · rw [List.getD_eq_getElem?_getD, List.getElem?_set_ne hke, ← List.getD_eq_getElem?_getD]
      exact h.bw k hk
  · rw [weigh_set ws v S hel n]
    have h4 := h.low S hS
    by_cases hb : S.testBit e = true
    · rw [if_pos ⟨he, hb⟩]
      have := capE_le h hS hb
      omega
    · rw [if_neg fun hh => hb hh.2]
      omega

-- raised vectors
def raiseTo (xs ws most : List Int) : Nat → List Int
  | 0 => ws
  | k + 1 => if (raiseTo xs ws most k).getD k 0 < most.getD k 0 then (raiseTo xs ws most k).set k (min (most.getD k 0) ((raiseTo xs ws most k).getD k 0 + capE xs (raiseTo xs ws most k) k)) else raiseTo xs ws most k
theorem raise_len (xs ws most : List Int) : ∀ k, (raiseTo xs ws most k).length = ws.length
  | 0 => rfl
  | k + 1 => by
    unfold raiseTo
    split
    · rw [List.length_set]; exact raise_len xs ws most k
    · exact raise_len xs ws most k
theorem raise_bl {n : Nat} {xs ws most : List Int} (h : Bl n xs ws) (hm : ∀ k, k < n → most.getD k 0 ≤ 5000) : ∀ k, k ≤ n → Bl n xs (raiseTo xs ws most k)
  | 0, _ => h
  | k + 1, hk => by
    have ih := raise_bl h hm k (by omega)
    unfold raiseTo
    split
    · rename_i hlt
      have hp := capE_pos ih k
      have hmk := hm k (by omega)
      exact ih.raise (by omega) (by omega) (by omega) (by omega)
    · exact ih
/-- An element that is below its bound lies in a set that has as much weight as value. -/
theorem raise_tight {n : Nat} {xs ws most : List Int} (h : Bl n xs ws) (hm : ∀ k, k < n → most.getD k 0 ≤ 5000) : ∀ k, k ≤ n → ∀ e, e < k → (raiseTo xs ws most k).getD e 0 < most.getD e 0 → ∃ T, T < 2 ^ n ∧ T.testBit e = true ∧ weigh (raiseTo xs ws most k) T n = xs.getD T 0
  | 0, _, e, he, _ => absurd he (by omega)
  | k + 1, hk, e, he, hlt => by
    have ih := raise_tight h hm k (by omega)
    have hb := raise_bl h hm k (by omega)
    have hl := raise_len xs ws most k
    have hmk := hm k (by omega)
    rw [h.len] at hl
    unfold raiseTo at hlt ⊢
    generalize raiseTo xs ws most k = x at *
    have hkl : k < x.length := by omega
    have hp := capE_pos hb k
    by_cases hc : x.getD k 0 < most.getD k 0
    · rw [if_pos hc] at hlt ⊢
      by_cases hek : e = k
      · subst hek
        rw [List.getD_eq_getElem?_getD, List.getElem?_set_self hkl] at hlt
        have hlt' : min (most.getD e 0) (x.getD e 0 + capE xs x e) < most.getD e 0 := hlt
        have hv : min (most.getD e 0) (x.getD e 0 + capE xs x e) = x.getD e 0 + capE xs x e := by omega
        have hbw := hb.bw e (by omega)
        rcases capE_at hb e with h1 | ⟨S, h1, h2, h3⟩
        · omega
        · refine ⟨S, h1, h2, ?_⟩
          rw [weigh_set x _ S hkl n, if_pos ⟨by omega, h2⟩, hv]
          omega
      · rw [List.getD_eq_getElem?_getD, List.getElem?_set_ne (Ne.symm hek), ← List.getD_eq_getElem?_getD] at hlt
        obtain ⟨T, t1, t2, t3⟩ := ih e (by omega) hlt
        refine ⟨T, t1, t2, ?_⟩
        rw [weigh_set x _ T hkl n, t3]
        by_cases hTk : T.testBit k = true
        · have := capE_le hb t1 hTk
          rw [if_pos ⟨by omega, hTk⟩]
          omega
        · rw [if_neg fun hh => hTk hh.2]
          omega
    · rw [if_neg hc] at hlt ⊢
      by_cases hek : e = k
      · subst hek
        exact absurd hlt hc
      · exact ih e (by omega) hlt
theorem raise_le {n : Nat} {xs ws most : List Int} (hl : ws.length = n) (h0 : ∀ e, e < n → ws.getD e 0 ≤ most.getD e 0) : ∀ k, k ≤ n → ∀ e, e < n → (raiseTo xs ws most k).getD e 0 ≤ most.getD e 0
  | 0, _, e, he => h0 e he
  | k + 1, hk, e, he => by
    have ih := raise_le (xs := xs) hl h0 k (by omega) e he
    have hl2 := raise_len xs ws most k
    unfold raiseTo
    split
    · by_cases hek : k = e
      · subst hek
        rw [List.getD_eq_getElem?_getD, List.getElem?_set_self (by omega)]
        show min _ _ ≤ _
        omega
      · rw [List.getD_eq_getElem?_getD, List.getElem?_set_ne hek, ← List.getD_eq_getElem?_getD]
        exact ih
    · exact ih
/-- Two sets with as much weight as value: so have all of them. -/
theorem Bl.two {n : Nat} {xs ws : List Int} (h : Bl n xs ws) (s : Sb n xs) {S T : Nat} (hS : S < 2 ^ n) (hT : T < 2 ^ n) (e1 : weigh ws S n = xs.getD S 0) (e2 : weigh ws T n = xs.getD T 0) : weigh ws (S ||| T) n = xs.getD (S ||| T) 0 ∧ weigh ws (S &&& T) n = xs.getD (S &&& T) 0 := by
  have h1 := s.four hS hT
  have h2 := weigh_cut ws S T n
  have h3 := h.low (S ||| T) (Nat.or_lt_two_pow hS hT)
  have h4 := h.low (S &&& T) (Nat.lt_of_le_of_lt Nat.and_le_left hS)
  omega
/-- Elements that each lie in such a set lie in one together. -/
theorem Bl.joint {n : Nat} {xs ws : List Int} (h : Bl n xs ws) (s : Sb n xs) (p : Nat → Prop) (hp : ∀ e, e < n → p e → ∃ T, T < 2 ^ n ∧ T.testBit e = true ∧ weigh ws T n = xs.getD T 0) : ∀ k, k ≤ n → ∃ U, U < 2 ^ n ∧ weigh ws U n = xs.getD U 0 ∧ ∀ e, e < k → p e → U.testBit e = true
  | 0, _ => ⟨0, Nat.two_pow_pos n, by rw [weigh_none, ground_zero h.gr], fun e he => absurd he (by omega)⟩
  | k + 1, hk => by
    obtain ⟨U, u1, u2, u3⟩ := h.joint s p hp k (by omega)
    by_cases hpk : p k
    · obtain ⟨T, t1, t2, t3⟩ := hp k (by omega) hpk
      refine ⟨U ||| T, Nat.or_lt_two_pow u1 t1, (h.two s u1 t1 u2 t3).1, fun e he hpe => ?_⟩
      rw [Nat.testBit_or]
      by_cases hek : e = k
      · subst hek; rw [t2, Bool.or_true]
      · rw [u3 e (by omega) hpe, Bool.true_or]
    · refine ⟨U, u1, u2, fun e he hpe => ?_⟩
      by_cases hek : e = k
      · subst hek; exact absurd hpe hpk
      · exact u3 e (by omega) hpe
def raiseVec (n : Int) (xs ws most : List Int) : List Int × Bool := if isSub n xs = true ∧ isBelow n xs ws = true ∧ isVec5 most = true ∧ most.length = ws.length then (raiseTo xs ws most ws.length, true) else ([], false)
def dualVec (n : Int) (xs : List Int) : List Int × Bool := if isGround n xs = true ∧ isSub n xs = true then (raiseTo xs (List.replicate n.toNat (-2000)) (List.replicate n.toNat 0) n.toNat, true) else ([], false)
def noPos (ws : List Int) : Nat → Bool
  | 0 => true
  | k + 1 => noPos ws k && decide (ws.getD k 0 ≤ 0)
def isDual (n : Int) (xs ws : List Int) : Bool := isBelow n xs ws && (noPos ws ws.length && decide (sm (fun k => ws.getD k 0) ws.length = least xs))
def negPart (ws : List Int) : Int × Bool := if isVec5 ws = true then (sm (fun k => min 0 (ws.getD k 0)) ws.length, true) else (0, false)
def rankTo (xs ws : List Int) : Nat → Int
  | 0 => 100000
  | s + 1 => min (rankTo xs ws s) (xs.getD s 0 + weigh ws (xs.length - 1 - s) ws.length)
def rankVec (n : Int) (xs ws : List Int) : Int × Bool := if isFn n xs = true ∧ isVec ws = true ∧ (ws.length : Int) = n then (rankTo xs ws xs.length, true) else (0, false)
theorem rep_at {n k : Nat} {c : Int} (hk : k < n) : (List.replicate n c).getD k 0 = c := by
  rw [List.getD_eq_getElem?_getD, List.getElem?_replicate, if_pos hk]; rfl
theorem low_bl {n : Nat} {xs : List Int} (h : isGround (n : Int) xs = true) : Bl n xs (List.replicate n (-2000)) := by
  obtain ⟨h0, h5, hl, hv⟩ := isFn_yes (ground_fn h)
  rw [Int.toNat_natCast] at hl
  refine ⟨h, List.length_replicate, by omega, hl, hv, fun k hk => by rw [rep_at hk]; omega, fun S hS => ?_⟩
  by_cases hz : S = 0
  · subst hz
    rw [weigh_none, ground_zero h]
    exact Int.le_refl _
  · obtain ⟨i, hi, hb⟩ := nonzero_bit hS hz
    have h1 := weigh_le_one (ws := List.replicate n (-2000)) hb n hi fun k hk => by rw [rep_at hk]; omega
    rw [rep_at hi] at h1
    have := hv S (by omega)
    omega
theorem raise_dual {n : Int} {xs : List Int} (hg : isGround n xs = true) (hs : isSub n xs = true) : raiseVec n xs (List.replicate n.toNat (-2000)) (List.replicate n.toNat 0) = (raiseTo xs (List.replicate n.toNat (-2000)) (List.replicate n.toNat 0) n.toNat, true) := by
  obtain ⟨h0, h5, -, -⟩ := isFn_yes (ground_fn hg)
  obtain ⟨N, rfl⟩ := Int.eq_ofNat_of_zero_le h0
  rw [Int.toNat_natCast]
  unfold raiseVec
  rw [if_pos ⟨hs, (low_bl hg).is, isVec5_mk (by rw [List.length_replicate]; omega) (fun k hk => by rw [List.length_replicate] at hk; rw [rep_at hk]; omega), by rw [List.length_replicate, List.length_replicate]⟩, List.length_replicate]
theorem noPos_mk {ws : List Int} : ∀ m, (∀ k, k < m → ws.getD k 0 ≤ 0) → noPos ws m = true
  | 0, _ => rfl
  | m + 1, h => by rw [noPos, noPos_mk m fun k hk => h k (by omega), decide_eq_true (h m (by omega))]; rfl
theorem noPos_no {ws : List Int} {j : Nat} (hj : 0 < ws.getD j 0) : ∀ m, j < m → noPos ws m = false
  | 0, h => absurd h (by omega)
  | m + 1, h => by
    rw [noPos]
    by_cases e : j = m
    · subst e; rw [decide_eq_false (by omega), Bool.and_false]
    · rw [noPos_no hj m (by omega), Bool.false_and]
/-- A dual vector's sum is the minimum. -/
theorem dual_sum {n : Nat} {xs : List Int} (hg : isGround (n : Int) xs = true) (hs : isSub (n : Int) xs = true) : Bl n xs (raiseTo xs (List.replicate n (-2000)) (List.replicate n 0) n) ∧ (∀ k, k < n → (raiseTo xs (List.replicate n (-2000)) (List.replicate n 0) n).getD k 0 ≤ 0) ∧ sm (fun k => (raiseTo xs (List.replicate n (-2000)) (List.replicate n 0) n).getD k 0) n = least xs := by
  have h0 := low_bl hg
  have hm : ∀ k, k < n → (List.replicate n (0 : Int)).getD k 0 ≤ 5000 := fun k hk => by rw [rep_at hk]; omega
  have hb := raise_bl h0 hm n (Nat.le_refl _)
  have ht := raise_tight h0 hm n (Nat.le_refl _)
  have hle := raise_le (xs := xs) (most := List.replicate n (0 : Int)) h0.len (fun e he => by rw [rep_at he, rep_at he]; omega) n (Nat.le_refl _)
  generalize raiseTo xs (List.replicate n (-2000)) (List.replicate n 0) n = x at *
  have hle' : ∀ k, k < n → x.getD k 0 ≤ 0 := fun k hk => by have := hle k hk; rw [rep_at hk] at this; exact this
  refine ⟨hb, hle', ?_⟩
  obtain ⟨U, u1, u2, u3⟩ := hb.joint (sb_of hs) (fun e => x.getD e 0 < 0) (fun e he hp => ht e he (by rw [rep_at he]; exact hp)) n (Nat.le_refl _)
  have h1 : sm (fun k => x.getD k 0) n = weigh x U n := weigh_all_eq n fun k hk hne => u3 k hk (by have := hle' k hk; omega)
  have hp := Nat.two_pow_pos n
  have h2 := minTo_le xs (xs.length - 1) U (by rw [hb.lx]; omega)
  obtain ⟨j, hj, hj2⟩ := minTo_at xs (xs.length - 1)
  have hjn : j < 2 ^ n := by rw [hb.lx] at hj; omega
  have h3 := weigh_all_le (ws := x) j n hle'
  have h4 := hb.low j hjn
  unfold least
  omega
theorem dual_is {n : Int} {xs : List Int} (hg : isGround n xs = true) (hs : isSub n xs = true) : isDual n xs (dualVec n xs).1 = true ∧ negPart (dualVec n xs).1 = (least xs, true) := by
  obtain ⟨h0, h5, -, -⟩ := isFn_yes (ground_fn hg)
  obtain ⟨N, rfl⟩ := Int.eq_ofNat_of_zero_le h0
  unfold dualVec
  rw [if_pos ⟨hg, hs⟩, Int.toNat_natCast]
  obtain ⟨hb, hle, hsum⟩ := dual_sum hg hs
  dsimp only
  generalize raiseTo xs (List.replicate N (-2000)) (List.replicate N 0) N = x at *
  constructor
  · unfold isDual
    rw [hb.is, hb.len, noPos_mk N hle, decide_eq_true hsum]
    rfl
  · unfold negPart
    rw [if_pos (isVec5_mk (by rw [hb.len]; exact hb.five) fun k hk => hb.bw k (by rw [← hb.len]; exact hk)), hb.len, ← hsum]
    rw [sm_congr N fun k hk => (show min 0 (x.getD k 0) = x.getD k 0 by have := hle k hk; omega)]

end Go.Proofs.Ytffbiflgmlabaaa.M
