/-
  Raised vectors, dual vectors, ranks of vectors as plain mathematics: a raised vector stays below its function, and a dual vector's sum is the minimum.
  Orders as injections, corners as lists of gains: plain mathematics.
  A function that is 0 of nothing is submodular if all its corners are bases; its minimizers are a lattice: plain mathematics.
  Tight sets are a lattice, an element gets its capacity and no more, exchanges keep bases: plain mathematics.
  A list of sets kept as a set of them: when it is a lattice, as plain mathematics.
-/
import Derived.Test.YtffbiflgmlabaaaGreatDoorPtA
import Derived.Test.YtffbiflgmlabaaaGreatDoorAllM
import Derived.Test.YtffbiflgmlabaaaGreatDoorBsA
namespace Go.Proofs.YtffbiflgmlabaaaGreatDoor.M
set_option linter.unusedVariables false
set_option linter.unusedSimpArgs false

-- weights of sets
theorem weigh_cut (ws : List Int) (S T : Nat) : ∀ m, weigh ws (S ||| T) m + weigh ws (S &&& T) m = weigh ws S m + weigh ws T m
  | 0 => rfl
  | m + 1 => by
    have ih := weigh_cut ws S T m
    unfold weigh
    rw [Nat.testBit_or, Nat.testBit_and]
    cases S.testBit m <;> cases T.testBit m <;> simp <;> omega
theorem weigh_set (ws : List Int) {e : Nat} (v : Int) (S : Nat) (he : e < ws.length) : ∀ m, weigh (ws.set e v) S m = weigh ws S m + if e < m ∧ S.testBit e = true then v - ws.getD e 0 else 0
  | 0 => by simp [weigh]
  | m + 1 => by
    have ih := weigh_set ws v S he m
    have hg : (ws.set e v).getD m 0 = if e = m then v else ws.getD m 0 := by
      by_cases h : e = m
      · subst h
        rw [if_pos rfl, List.getD_eq_getElem?_getD, List.getElem?_set_self he]; rfl
      · rw [if_neg h, List.getD_eq_getElem?_getD, List.getElem?_set_ne h, List.getD_eq_getElem?_getD]
    unfold weigh
    rw [ih, hg]
    by_cases h : e = m
    · subst h
      rw [if_neg (by omega : ¬ (e < e ∧ S.testBit e = true)), if_pos rfl]
      cases hb : S.testBit e
      · simp
      · simp; omega
    · rw [if_neg h]
      have hc : (if e < m + 1 ∧ S.testBit e = true then v - ws.getD e 0 else 0) = if e < m ∧ S.testBit e = true then v - ws.getD e 0 else 0 := by
        have hi : (e < m + 1 ∧ S.testBit e = true) = (e < m ∧ S.testBit e = true) := propext ⟨fun hh => ⟨by omega, hh.2⟩, fun hh => ⟨by omega, hh.2⟩⟩
        simp only [hi]
      rw [hc]
      generalize (if e < m ∧ S.testBit e = true then v - ws.getD e 0 else 0) = d
      split <;> omega
theorem weigh_nonpos {ws : List Int} (S : Nat) : ∀ m, (∀ k, k < m → ws.getD k 0 ≤ 0) → weigh ws S m ≤ 0
  | 0, _ => by simp [weigh]
  | m + 1, h => by
    have ih := weigh_nonpos (ws := ws) S m fun k hk => h k (by omega)
    have h1 := h m (by omega)
    unfold weigh
    split <;> omega
theorem weigh_le_one {ws : List Int} {S i : Nat} (hb : S.testBit i = true) : ∀ m, i < m → (∀ k, k < m → ws.getD k 0 ≤ 0) → weigh ws S m ≤ ws.getD i 0
  | 0, h, _ => absurd h (by omega)
  | m + 1, h, hn => by
    unfold weigh
    by_cases e : i = m
    · subst e
      have := weigh_nonpos (ws := ws) S i fun k hk => hn k (by omega)
      rw [if_pos hb]
      omega
    · have ih := weigh_le_one hb m (by omega) fun k hk => hn k (by omega)
      have h1 := hn m (by omega)
      split <;> omega
/-- What is not positive weighs most where least is taken. -/
theorem weigh_all_le {ws : List Int} (S : Nat) : ∀ m, (∀ k, k < m → ws.getD k 0 ≤ 0) → sm (fun k => ws.getD k 0) m ≤ weigh ws S m
  | 0, _ => by simp [weigh, sm]
  | m + 1, h => by
    have ih := weigh_all_le (ws := ws) S m fun k hk => h k (by omega)
    have h1 := h m (by omega)
    unfold weigh
    rw [sm]
    split <;> omega
theorem weigh_all_eq {ws : List Int} {U : Nat} : ∀ m, (∀ k, k < m → ws.getD k 0 ≠ 0 → U.testBit k = true) → sm (fun k => ws.getD k 0) m = weigh ws U m
  | 0, _ => rfl
  | m + 1, h => by
    have ih := weigh_all_eq (ws := ws) (U := U) m fun k hk => h k (by omega)
    have h1 := h m (by omega)
    unfold weigh
    rw [sm, ih]
    by_cases hz : ws.getD m 0 = 0
    · rw [hz]; split <;> omega
    · rw [if_pos (h1 hz)]
theorem nonzero_bit {n S : Nat} (hS : S < 2 ^ n) (h0 : S ≠ 0) : ∃ i, i < n ∧ S.testBit i = true := by
  obtain ⟨i, hi⟩ := Nat.exists_testBit_of_ne_zero h0
  refine ⟨i, ?_, hi⟩
  rcases Nat.lt_or_ge i n with h | h
  · exact h
  · have : S < 2 ^ i := Nat.lt_of_lt_of_le hS (Nat.pow_le_pow_right (by decide) h)
    rw [Nat.testBit_lt_two_pow this] at hi
    cases hi

-- what is below a function
structure Bl (n : Nat) (xs ws : List Int) : Prop where
  gr : isGround (n : Int) xs = true
  len : ws.length = n
  five : n ≤ 5
  lx : xs.length = 2 ^ n
  bx : ∀ k, k < xs.length → -1000 ≤ xs.getD k 0 ∧ xs.getD k 0 ≤ 1000
  bw : ∀ k, k < n → -5000 ≤ ws.getD k 0 ∧ ws.getD k 0 ≤ 5000
  low : ∀ S, S < 2 ^ n → weigh ws S n ≤ xs.getD S 0
theorem bl_of {n : Nat} {xs ws : List Int} (h : isBelow (n : Int) xs ws = true) : Bl n xs ws := by
  obtain ⟨q1, q2, q3, q4⟩ := isBelow_yes h
  obtain ⟨h0, h5, hl, hv⟩ := isFn_yes (ground_fn q1)
  rw [Int.toNat_natCast] at hl
  obtain ⟨-, hw⟩ := isVec5_yes q3
  have hn : ws.length = n := by omega
  refine ⟨q1, hn, by omega, hl, hv, fun k hk => hw k (by omega), fun S hS => ?_⟩
  have := (below_at xs.length).1 q4 S (by omega)
  rw [hn] at this
  exact this
theorem Bl.is {n : Nat} {xs ws : List Int} (h : Bl n xs ws) : isBelow (n : Int) xs ws = true := by
  unfold isBelow
  rw [h.gr, decide_eq_true (by rw [h.len] : (ws.length : Int) = (n : Int)), isVec5_mk (by rw [h.len]; exact h.five) (fun k hk => h.bw k (by rw [← h.len]; exact hk)), (below_at xs.length).2 fun S hS => by rw [h.len]; exact h.low S (by rw [← h.lx]; exact hS)]
  rfl
/-- The capacity of an element. -/
def capE (xs ws : List Int) (e : Nat) : Int := capTo xs ws (fun s => s.testBit e) xs.length
theorem capOf_in {n : Nat} {xs ws : List Int} (h : Bl n xs ws) {e : Nat} (he : e < n) : capOf (n : Int) xs ws (e : Int) = (capE xs ws e, true) := by
  unfold capOf
  rw [if_pos ⟨h.is, by omega, by omega⟩]
  rfl
theorem capE_le {n : Nat} {xs ws : List Int} (h : Bl n xs ws) {e S : Nat} (hS : S < 2 ^ n) (hb : S.testBit e = true) : capE xs ws e ≤ xs.getD S 0 - weigh ws S n := by
  have := cap_le (xs := xs) (ws := ws) (p := fun s => s.testBit e) xs.length S (by rw [h.lx]; exact hS) hb
  rw [h.len] at this
  exact this
theorem capE_at {n : Nat} {xs ws : List Int} (h : Bl n xs ws) (e : Nat) : capE xs ws e = 100000 ∨ ∃ S, S < 2 ^ n ∧ S.testBit e = true ∧ capE xs ws e = xs.getD S 0 - weigh ws S n := by
  rcases cap_at (xs := xs) (ws := ws) (p := fun s => s.testBit e) xs.length with h1 | ⟨S, h1, h2, h3⟩
  · exact .inl h1
  · rw [h.len] at h3
    exact .inr ⟨S, by rw [← h.lx]; exact h1, h2, h3⟩
theorem capE_pos {n : Nat} {xs ws : List Int} (h : Bl n xs ws) (e : Nat) : 0 ≤ capE xs ws e := by
  rcases capE_at h e with h1 | ⟨S, h1, -, h3⟩
  · omega
  · have := h.low S h1
    omega
/-- An element gets at most its capacity: the vector stays below. -/
theorem Bl.raise {n : Nat} {xs ws : List Int} (h : Bl n xs ws) {e : Nat} (he : e < n) {v : Int} (h1 : ws.getD e 0 ≤ v) (h2 : v ≤ ws.getD e 0 + capE xs ws e) (h3 : v ≤ 5000) : Bl n xs (ws.set e v) := by
  have hel : e < ws.length := by rw [h.len]; exact he
  refine ⟨h.gr, by rw [List.length_set]; exact h.len, h.five, h.lx, h.bx, fun k hk => ?_, fun S hS => ?_⟩
  · by_cases hke : e = k
    · subst hke
      rw [List.getD_eq_getElem?_getD, List.getElem?_set_self hel]
      have := h.bw e he
      exact ⟨by show -5000 ≤ v; omega, h3⟩
    · rw [List.getD_eq_getElem?_getD, List.getElem?_set_ne hke, ← List.getD_eq_getElem?_getD]
      exact h.bw k hk
  · rw [weigh_set ws v S hel n]
    have h4 := h.low S hS
    by_cases hb : S.testBit e = true
    · rw [if_pos ⟨he, hb⟩]
      have := capE_le h hS hb
      omega
    · rw [if_neg fun hh => hb hh.2]
      omega

-- raised vectors
def raiseTo (xs ws most : List Int) : Nat → List Int
  | 0 => ws
  | k + 1 => if (raiseTo xs ws most k).getD k 0 < most.getD k 0 then (raiseTo xs ws most k).set k (min (most.getD k 0) ((raiseTo xs ws most k).getD k 0 + capE xs (raiseTo xs ws most k) k)) else raiseTo xs ws most k
theorem raise_len (xs ws most : List Int) : ∀ k, (raiseTo xs ws most k).length = ws.length
  | 0 => rfl
  | k + 1 => by
    unfold raiseTo
    split
    · rw [List.length_set]; exact raise_len xs ws most k
    · exact raise_len xs ws most k
theorem raise_bl {n : Nat} {xs ws most : List Int} (h : Bl n xs ws) (hm : ∀ k, k < n → most.getD k 0 ≤ 5000) : ∀ k, k ≤ n → Bl n xs (raiseTo xs ws most k)
  | 0, _ => h
  | k + 1, hk => by
    have ih := raise_bl h hm k (by omega)
    unfold raiseTo
    split
    · rename_i hlt
      have hp := capE_pos ih k
      have hmk := hm k (by omega)
      exact ih.raise (by omega) (by omega) (by omega) (by omega)
    · exact ih
/-- An element that is below its bound lies in a set that has as much weight as value. -/
theorem raise_tight {n : Nat} {xs ws most : List Int} (h : Bl n xs ws) (hm : ∀ k, k < n → most.getD k 0 ≤ 5000) : ∀ k, k ≤ n → ∀ e, e < k → (raiseTo xs ws most k).getD e 0 < most.getD e 0 → ∃ T, T < 2 ^ n ∧ T.testBit e = true ∧ weigh (raiseTo xs ws most k) T n = xs.getD T 0
  | 0, _, e, he, _ => absurd he (by omega)
  | k + 1, hk, e, he, hlt => by
    have ih := raise_tight h hm k (by omega)
    have hb := raise_bl h hm k (by omega)
    have hl := raise_len xs ws most k
    have hmk := hm k (by omega)
    rw [h.len] at hl
    unfold raiseTo at hlt ⊢
    generalize raiseTo xs ws most k = x at *
    have hkl : k < x.length := by omega
    have hp := capE_pos hb k
    by_cases hc : x.getD k 0 < most.getD k 0
    · rw [if_pos hc] at hlt ⊢
      by_cases hek : e = k
      · subst hek
        rw [List.getD_eq_getElem?_getD, List.getElem?_set_self hkl] at hlt
        have hlt' : min (most.getD e 0) (x.getD e 0 + capE xs x e) < most.getD e 0 := hlt
        have hv : min (most.getD e 0) (x.getD e 0 + capE xs x e) = x.getD e 0 + capE xs x e := by omega
        have hbw := hb.bw e (by omega)
        rcases capE_at hb e with h1 | ⟨S, h1, h2, h3⟩
        · omega
        · refine ⟨S, h1, h2, ?_⟩
          rw [weigh_set x _ S hkl n, if_pos ⟨by omega, h2⟩, hv]
          omega
      · rw [List.getD_eq_getElem?_getD, List.getElem?_set_ne (Ne.symm hek), ← List.getD_eq_getElem?_getD] at hlt
        obtain ⟨T, t1, t2, t3⟩ := ih e (by omega) hlt
        refine ⟨T, t1, t2, ?_⟩
        rw [weigh_set x _ T hkl n, t3]
        by_cases hTk : T.testBit k = true
        · have := capE_le hb t1 hTk
          rw [if_pos ⟨by omega, hTk⟩]
          omega
        · rw [if_neg fun hh => hTk hh.2]
          omega
    · rw [if_neg hc] at hlt ⊢
      by_cases hek : e = k
      · subst hek
        exact absurd hlt hc
      · exact ih e (by omega) hlt
theorem raise_le {n : Nat} {xs ws most : List Int} (hl : ws.length = n) (h0 : ∀ e, e < n → ws.getD e 0 ≤ most.getD e 0) : ∀ k, k ≤ n → ∀ e, e < n → (raiseTo xs ws most k).getD e 0 ≤ most.getD e 0
  | 0, _, e, he => h0 e he
  | k + 1, hk, e, he => by
    have ih := raise_le (xs := xs) hl h0 k (by omega) e he
    have hl2 := raise_len xs ws most k
    unfold raiseTo
    split
    · by_cases hek : k = e
      · subst hek
        rw [List.getD_eq_getElem?_getD, List.getElem?_set_self (by omega)]
        show min _ _ ≤ _
        omega
      · rw [List.getD_eq_getElem?_getD, List.getElem?_set_ne hek, ← List.getD_eq_getElem?_getD]
        exact ih
    · exact ih
/-- Two sets with as much weight as value: so have all of them. -/
theorem Bl.two {n : Nat} {xs ws : List Int} (h : Bl n xs ws) (s : Sb n xs) {S T : Nat} (hS : S < 2 ^ n) (hT : T < 2 ^ n) (e1 : weigh ws S n = xs.getD S 0) (e2 : weigh ws T n = xs.getD T 0) : weigh ws (S ||| T) n = xs.getD (S ||| T) 0 ∧ weigh ws (S &&& T) n = xs.getD (S &&& T) 0 := by
  have h1 := s.four hS hT
  have h2 := weigh_cut ws S T n
  have h3 := h.low (S ||| T) (Nat.or_lt_two_pow hS hT)
  have h4 := h.low (S &&& T) (Nat.lt_of_le_of_lt Nat.and_le_left hS)
  omega
/-- Elements that each lie in such a set lie in one together. -/
theorem Bl.joint {n : Nat} {xs ws : List Int} (h : Bl n xs ws) (s : Sb n xs) (p : Nat → Prop) (hp : ∀ e, e < n → p e → ∃ T, T < 2 ^ n ∧ T.testBit e = true ∧ weigh ws T n = xs.getD T 0) : ∀ k, k ≤ n → ∃ U, U < 2 ^ n ∧ weigh ws U n = xs.getD U 0 ∧ ∀ e, e < k → p e → U.testBit e = true
  | 0, _ => ⟨0, Nat.two_pow_pos n, by rw [weigh_none, ground_zero h.gr], fun e he => absurd he (by omega)⟩
  | k + 1, hk => by
    obtain ⟨U, u1, u2, u3⟩ := h.joint s p hp k (by omega)
    by_cases hpk : p k
    · obtain ⟨T, t1, t2, t3⟩ := hp k (by omega) hpk
      refine ⟨U ||| T, Nat.or_lt_two_pow u1 t1, (h.two s u1 t1 u2 t3).1, fun e he hpe => ?_⟩
      rw [Nat.testBit_or]
      by_cases hek : e = k
      · subst hek; rw [t2, Bool.or_true]
      · rw [u3 e (by omega) hpe, Bool.true_or]
    · refine ⟨U, u1, u2, fun e he hpe => ?_⟩
      by_cases hek : e = k
      · subst hek; exact absurd hpe hpk
      · exact u3 e (by omega) hpe
def raiseVec (n : Int) (xs ws most : List Int) : List Int × Bool := if isSub n xs = true ∧ isBelow n xs ws = true ∧ isVec5 most = true ∧ most.length = ws.length then (raiseTo xs ws most ws.length, true) else ([], false)
def dualVec (n : Int) (xs : List Int) : List Int × Bool := if isGround n xs = true ∧ isSub n xs = true then (raiseTo xs (List.replicate n.toNat (-2000)) (List.replicate n.toNat 0) n.toNat, true) else ([], false)
def noPos (ws : List Int) : Nat → Bool
  | 0 => true
  | k + 1 => noPos ws k && decide (ws.getD k 0 ≤ 0)
def isDual (n : Int) (xs ws : List Int) : Bool := isBelow n xs ws && (noPos ws ws.length && decide (sm (fun k => ws.getD k 0) ws.length = least xs))
def negPart (ws : List Int) : Int × Bool := if isVec5 ws = true then (sm (fun k => min 0 (ws.getD k 0)) ws.length, true) else (0, false)
def rankTo (xs ws : List Int) : Nat → Int
  | 0 => 100000
  | s + 1 => min (rankTo xs ws s) (xs.getD s 0 + weigh ws (xs.length - 1 - s) ws.length)
def rankVec (n : Int) (xs ws : List Int) : Int × Bool := if isFn n xs = true ∧ isVec ws = true ∧ (ws.length : Int) = n then (rankTo xs ws xs.length, true) else (0, false)
theorem rep_at {n k : Nat} {c : Int} (hk : k < n) : (List.replicate n c).getD k 0 = c := by
  rw [List.getD_eq_getElem?_getD, List.getElem?_replicate, if_pos hk]; rfl
theorem low_bl {n : Nat} {xs : List Int} (h : isGround (n : Int) xs = true) : Bl n xs (List.replicate n (-2000)) := by
  obtain ⟨h0, h5, hl, hv⟩ := isFn_yes (ground_fn h)
  rw [Int.toNat_natCast] at hl
  refine ⟨h, List.length_replicate, by omega, hl, hv, fun k hk => by rw [rep_at hk]; omega, fun S hS => ?_⟩
  by_cases hz : S = 0
  · subst hz
    rw [weigh_none, ground_zero h]
    exact Int.le_refl _
  · obtain ⟨i, hi, hb⟩ := nonzero_bit hS hz
    have h1 := weigh_le_one (ws := List.replicate n (-2000)) hb n hi fun k hk => by rw [rep_at hk]; omega
    rw [rep_at hi] at h1
    have := hv S (by omega)
    omega
theorem raise_dual {n : Int} {xs : List Int} (hg : isGround n xs = true) (hs : isSub n xs = true) : raiseVec n xs (List.replicate n.toNat (-2000)) (List.replicate n.toNat 0) = (raiseTo xs (List.replicate n.toNat (-2000)) (List.replicate n.toNat 0) n.toNat, true) := by
  obtain ⟨h0, h5, -, -⟩ := isFn_yes (ground_fn hg)
  obtain ⟨N, rfl⟩ := Int.eq_ofNat_of_zero_le h0
  rw [Int.toNat_natCast]
  unfold raiseVec
  rw [if_pos ⟨hs, (low_bl hg).is, isVec5_mk (by rw [List.length_replicate]; omega) (fun k hk => by rw [List.length_replicate] at hk; rw [rep_at hk]; omega), by rw [List.length_replicate, List.length_replicate]⟩, List.length_replicate]
theorem noPos_mk {ws : List Int} : ∀ m, (∀ k, k < m → ws.getD k 0 ≤ 0) → noPos ws m = true
  | 0, _ => rfl
  | m + 1, h => by rw [noPos, noPos_mk m fun k hk => h k (by omega), decide_eq_true (h m (by omega))]; rfl
theorem noPos_no {ws : List Int} {j : Nat} (hj : 0 < ws.getD j 0) : ∀ m, j < m → noPos ws m = false
  | 0, h => absurd h (by omega)
  | m + 1, h => by
    rw [noPos]
    by_cases e : j = m
    · subst e; rw [decide_eq_false (by omega), Bool.and_false]
    · rw [noPos_no hj m (by omega), Bool.false_and]
/-- A dual vector's sum is the minimum. -/
theorem dual_sum {n : Nat} {xs : List Int} (hg : isGround (n : Int) xs = true) (hs : isSub (n : Int) xs = true) : Bl n xs (raiseTo xs (List.replicate n (-2000)) (List.replicate n 0) n) ∧ (∀ k, k < n → (raiseTo xs (List.replicate n (-2000)) (List.replicate n 0) n).getD k 0 ≤ 0) ∧ sm (fun k => (raiseTo xs (List.replicate n (-2000)) (List.replicate n 0) n).getD k 0) n = least xs := by
  have h0 := low_bl hg
  have hm : ∀ k, k < n → (List.replicate n (0 : Int)).getD k 0 ≤ 5000 := fun k hk => by rw [rep_at hk]; omega
  have hb := raise_bl h0 hm n (Nat.le_refl _)
  have ht := raise_tight h0 hm n (Nat.le_refl _)
  have hle := raise_le (xs := xs) (most := List.replicate n (0 : Int)) h0.len (fun e he => by rw [rep_at he, rep_at he]; omega) n (Nat.le_refl _)
  generalize raiseTo xs (List.replicate n (-2000)) (List.replicate n 0) n = x at *
  have hle' : ∀ k, k < n → x.getD k 0 ≤ 0 := fun k hk => by have := hle k hk; rw [rep_at hk] at this; exact this
  refine ⟨hb, hle', ?_⟩
  obtain ⟨U, u1, u2, u3⟩ := hb.joint (sb_of hs) (fun e => x.getD e 0 < 0) (fun e he hp => ht e he (by rw [rep_at he]; exact hp)) n (Nat.le_refl _)
  have h1 : sm (fun k => x.getD k 0) n = weigh x U n := weigh_all_eq n fun k hk hne => u3 k hk (by have := hle' k hk; omega)
  have hp := Nat.two_pow_pos n
  have h2 := minTo_le xs (xs.length - 1) U (by rw [hb.lx]; omega)
  obtain ⟨j, hj, hj2⟩ := minTo_at xs (xs.length - 1)
  have hjn : j < 2 ^ n := by rw [hb.lx] at hj; omega
  have h3 := weigh_all_le (ws := x) j n hle'
  have h4 := hb.low j hjn
  unfold least
  omega
theorem dual_is {n : Int} {xs : List Int} (hg : isGround n xs = true) (hs : isSub n xs = true) : isDual n xs (dualVec n xs).1 = true ∧ negPart (dualVec n xs).1 = (least xs, true) := by
  obtain ⟨h0, h5, -, -⟩ := isFn_yes (ground_fn hg)
  obtain ⟨N, rfl⟩ := Int.eq_ofNat_of_zero_le h0
  unfold dualVec
  rw [if_pos ⟨hg, hs⟩, Int.toNat_natCast]
  obtain ⟨hb, hle, hsum⟩ := dual_sum hg hs
  dsimp only
  generalize raiseTo xs (List.replicate N (-2000)) (List.replicate N 0) N = x at *
  constructor
  · unfold isDual
    rw [hb.is, hb.len, noPos_mk N hle, decide_eq_true hsum]
    rfl
  · unfold negPart
    rw [if_pos (isVec5_mk (by rw [hb.len]; exact hb.five) fun k hk => hb.bw k (by rw [← hb.len]; exact hk)), hb.len, ← hsum]
    rw [sm_congr N fun k hk => (show min 0 (x.getD k 0) = x.getD k 0 by have := hle k hk; omega)]

end Go.Proofs.YtffbiflgmlabaaaGreatDoor.M

namespace Go.Proofs.YtffbiflgmlabaaaGreatDoor.M
set_option linter.unusedVariables false
set_option linter.unusedSimpArgs false

theorem seen_has {p : List Int} {i : Nat} : ∀ m, i < m → (seenTo p m).testBit (p.getD i 0).toNat = true
  | 0, h => absurd h (by omega)
  | m + 1, h => by
    rw [seenTo, Nat.testBit_or]
    by_cases e : i = m
    · subst e; rw [Nat.testBit_two_pow_self, Bool.or_true]
    · rw [seen_has m (by omega), Bool.true_or]
/-- An order's numbers. -/
def numF (p : List Int) (i : Nat) : Nat := (p.getD i 0).toNat
theorem Pm.eq {n : Nat} {o : Nat → Nat} (q : Pm n o) {i k : Nat} (hi : i < n) (hk : k < n) (e : o i = o k) : i = k := by
  rcases Nat.lt_trichotomy i k with h | h | h
  · exact absurd e (q.inj i k h hk)
  · exact h
  · exact absurd e.symm (q.inj k i h hi)
theorem perm_pm {n : Nat} {p : List Int} (h : permTo (n : Int) p n = true) (ho : ∀ j, j < n → ∃ i, i < n ∧ numF p i = j) : Pm n (numF p) := by
  refine ⟨fun i hi => ?_, fun i k hik hk e => ?_, ho⟩
  · have := (perm_at n h i hi).1
    unfold numF; omega
  · have h1 := (perm_at n h k hk).2
    have h2 := seen_has (p := p) k hik
    unfold numF at e
    rw [e, h1] at h2
    cases h2
theorem orders_onto : ∀ n, n < 5 → ∀ p ∈ ordersTo n n [], ∀ j, j < n → ∃ i, i < n ∧ numF p i = j := by decide +kernel
theorem add_mem {acc : List (List Int)} {x y : List Int} : y ∈ addNew acc x ↔ y ∈ acc ∨ y = x := by
  unfold addNew
  split
  · rw [List.mem_append, List.mem_singleton]
  · rename_i h
    constructor
    · exact .inl
    · rintro (h1 | rfl)
      · exact h1
      · have key : ∀ m, m ≤ acc.length → freshTo acc y m = false → y ∈ acc := by
          intro m
          induction m with
          | zero => intro _ hh; cases hh
          | succ m ih =>
            intro hm hh
            unfold freshTo at hh
            rw [Bool.and_eq_false_iff] at hh
            rcases hh with hh | hh
            · exact ih (by omega) hh
            · rw [Bool.not_eq_false', decide_eq_true_eq] at hh
              rw [← hh, List.getD_eq_getElem?_getD, List.getElem?_eq_getElem (by omega)]
              exact List.getElem_mem (by omega)
        exact key acc.length (Nat.le_refl _) (by simpa using h)
theorem corners_mem {xs : List Int} {n : Nat} {ps : List (List Int)} {y : List Int} : ∀ m, y ∈ cornersTo xs n ps m ↔ ∃ i, i < m ∧ y = cornerTo xs n (ps.getD i []) (ps.getD i []).length
  | 0 => by simp [cornersTo]
  | m + 1 => by
    rw [cornersTo, add_mem, corners_mem m]
    constructor
    · rintro (⟨i, hi, e⟩ | e)
      · exact ⟨i, by omega, e⟩
      · exact ⟨m, by omega, e⟩
    · rintro ⟨i, hi, e⟩
      by_cases h : i = m
      · subst h; exact .inr e
      · exact .inl ⟨i, by omega, e⟩
theorem corners_gain {n : Nat} {xs y : List Int} (h : y ∈ (cornersOf (n : Int) xs).1) : ∃ o, Pm n o ∧ y = gain xs o n n := by
  unfold cornersOf at h
  split at h
  · rename_i hh
    rw [Int.toNat_natCast] at h
    obtain ⟨i, hi, e⟩ := (corners_mem _).1 h
    rw [List.getD_eq_getElem?_getD, List.getElem?_eq_getElem hi] at e
    have e' : y = cornerTo xs n (ordersTo n n [])[i] (ordersTo n n [])[i].length := e
    have hp : (ordersTo n n [])[i] ∈ ordersTo n n [] := List.getElem_mem hi
    generalize (ordersTo n n [])[i] = p at e' hp
    have h4 : n < 5 := by omega
    obtain ⟨o1, o2⟩ := orders_ok n h4 p hp
    rw [o2] at o1 e'
    refine ⟨numF p, perm_pm o1 (orders_onto n h4 p hp), ?_⟩
    rw [e', corner_gain xs n n (o := numF p) fun j hj => by
      have := (perm_at n o1 j hj).1
      unfold numF; omega]
  · cases h

end Go.Proofs.YtffbiflgmlabaaaGreatDoor.M

namespace Go.Proofs.YtffbiflgmlabaaaGreatDoor.M
set_option linter.unusedVariables false
set_option linter.unusedSimpArgs false

theorem sm_pick (d : Nat → Int) (m : Nat) : ∀ j, sm (fun i => if i < m ∨ i = m + 1 then d i else 0) j = if j ≤ m then sm d j else if j = m + 1 then sm d m else sm d m + d (m + 1)
  | 0 => by simp [sm]
  | j + 1 => by
    rw [sm, sm_pick d m j]
    by_cases h1 : j + 1 ≤ m
    · rw [if_pos (by omega : j ≤ m), if_pos (.inl (by omega)), if_pos h1, sm]
    · rw [if_neg h1]
      by_cases h2 : j = m
      · subst h2
        rw [if_pos (Nat.le_refl _), if_neg (by omega), if_pos rfl, Int.add_zero]
      · rw [if_neg (by omega : ¬ j ≤ m), if_neg (by omega : ¬ j + 1 = m + 1)]
        by_cases h3 : j = m + 1
        · subst h3
          rw [if_pos rfl, if_pos (.inr rfl)]
        · rw [if_neg h3, if_neg (by omega), Int.add_zero]
/-- What a corner weighs of the first m and the one behind the next. -/
theorem corner_skip {n : Nat} (xs : List Int) {o : Nat → Nat} (q : Pm n o) {m : Nat} (hm : m + 1 < n) : weigh (gain xs o n n) (pre o m ||| 2 ^ o (m + 1)) n = xs.getD (pre o m) 0 - xs.getD 0 0 + (xs.getD (pre o (m + 2)) 0 - xs.getD (pre o (m + 1)) 0) := by
  rw [gain_weigh xs q]
  have e : ax xs o (bitI (pre o m ||| 2 ^ o (m + 1))) n = sm (fun i => if i < m ∨ i = m + 1 then dl xs o i else 0) n := by
    unfold ax
    refine sm_congr _ fun i hi => ?_
    have hb : (pre o m ||| 2 ^ o (m + 1)).testBit (o i) = true ↔ i < m ∨ i = m + 1 := by
      rw [Nat.testBit_or, Bool.or_eq_true, pre_bit, bit2, decide_eq_true_eq]
      constructor
      · rintro (⟨j, hj, ej⟩ | ej)
        · exact .inl (by rw [← q.eq (by omega) hi ej]; exact hj)
        · exact .inr (q.eq hm hi ej).symm
      · rintro (h | h)
        · exact .inl ⟨i, h, rfl⟩
        · exact .inr (by rw [h])
    unfold bitI
    by_cases h : i < m ∨ i = m + 1
    · rw [if_pos (hb.2 h), if_pos h, Int.one_mul]
    · rw [if_neg (fun hh => h (hb.1 hh)), if_neg h, Int.zero_mul]
  rw [e, sm_pick, if_neg (by omega), if_neg (by omega), sm_dl]
  rfl
/-- For each set and two elements outside of it some order has the set first, then the two. -/
theorem orders_all : ∀ n, n < 5 → ∀ S, S < 2 ^ n → ∀ i, i < n → ∀ k, k < n → (S.testBit i || S.testBit k || i == k || (ordersTo n n []).any fun p => (List.range n).any fun m => seenTo p m == S && (p.getD m 0 == (i : Int)) && (p.getD (m + 1) 0 == (k : Int)) && decide (m + 1 < n)) = true := by decide +kernel
theorem bases_sub {n : Nat} {xs : List Int} (hg : isGround (n : Int) xs = true) (h4 : n ≤ 4) (h : ∀ p ∈ ordersTo n n [], isBase (n : Int) xs (cornerTo xs n p p.length) = true) : isSub (n : Int) xs = true := by
  refine sub_of (ground_fn hg) fun S i k hS hi hk hik t1 t2 => ?_
  have ha := orders_all n (by omega) S hS i hi k hk
  rw [t1, t2, show (i == k) = false from beq_eq_false_iff_ne.2 (by omega), Bool.false_or, Bool.false_or, Bool.false_or, List.any_eq_true] at ha
  obtain ⟨p, hp, hm⟩ := ha
  rw [List.any_eq_true] at hm
  obtain ⟨m, hmr, hm⟩ := hm
  simp only [Bool.and_eq_true, beq_iff_eq, decide_eq_true_eq] at hm
  obtain ⟨⟨⟨e1, e2⟩, e3⟩, e4⟩ := hm
  obtain ⟨o1, o2⟩ := orders_ok n (by omega) p hp
  rw [o2] at o1
  have q := perm_pm o1 (orders_onto n (by omega) p hp)
  have hpo : ∀ j, j < n → p.getD j 0 = (numF p j : Int) := fun j hj => by
    have := (perm_at n o1 j hj).1
    unfold numF; omega
  have hb := h p hp
  rw [o2, corner_gain xs n n hpo] at hb
  unfold isBase at hb
  rw [Bool.and_eq_true] at hb
  have bl := bl_of hb.1
  have hS' : pre (numF p) m = S := by rw [← e1]; exact (seen_pre m fun j hj => hpo j (by omega)).symm
  have hi' : numF p m = i := by unfold numF; rw [e2]; rfl
  have hk' : numF p (m + 1) = k := by unfold numF; rw [e3]; rfl
  have hsk := corner_skip xs q (m := m) e4
  have hlow := bl.low (pre (numF p) m ||| 2 ^ numF p (m + 1)) (Nat.or_lt_two_pow (by rw [hS']; exact hS) (Nat.pow_lt_pow_right (by decide) (q.lt _ e4)))
  rw [hsk, ground_zero hg] at hlow
  have p1 : pre (numF p) (m + 1) = S ||| 2 ^ i := by rw [pre, hS', hi']
  have p2 : pre (numF p) (m + 2) = S ||| 2 ^ i ||| 2 ^ k := by rw [pre, p1, hk']
  rw [p1, p2, hS', hk'] at hlow
  omega
/-- Exactly the submodular ones have corners that are all bases. -/
theorem bases_iff {n : Nat} {xs : List Int} (hg : isGround (n : Int) xs = true) (h4 : n ≤ 4) : (∀ p ∈ ordersTo n n [], isBase (n : Int) xs (cornerTo xs n p p.length) = true) ↔ isSub (n : Int) xs = true := by
  refine ⟨bases_sub hg h4, fun hs p hp => ?_⟩
  obtain ⟨o1, o2⟩ := orders_ok n (by omega) p hp
  rw [o2] at o1 ⊢
  rw [corner_gain xs n n (o := numF p) fun j hj => by
    have := (perm_at n o1 j hj).1
    unfold numF; omega]
  exact corner_base hg hs (perm_pm o1 (orders_onto n (by omega) p hp))
theorem corners_all {n : Nat} {xs : List Int} (hg : isGround (n : Int) xs = true) (h4 : n ≤ 4) : (∀ y ∈ (cornersOf (n : Int) xs).1, isBase (n : Int) xs y = true) ↔ isSub (n : Int) xs = true := by
  rw [← bases_iff hg h4]
  unfold cornersOf
  rw [if_pos ⟨hg, by omega⟩, Int.toNat_natCast]
  dsimp only
  constructor
  · intro h p hp
    obtain ⟨i, hi, e⟩ := List.mem_iff_getElem.1 hp
    refine h _ ((corners_mem _).2 ⟨i, hi, ?_⟩)
    rw [List.getD_eq_getElem?_getD, List.getElem?_eq_getElem hi, ← e]; rfl
  · intro h y hy
    obtain ⟨i, hi, e⟩ := (corners_mem _).1 hy
    rw [e]
    refine h _ ?_
    rw [List.getD_eq_getElem?_getD, List.getElem?_eq_getElem hi]
    exact List.getElem_mem hi

-- minimizers
theorem args_four {n : Nat} {xs : List Int} (h : isSub (n : Int) xs = true) {s t : Nat} (hs : s ∈ args xs) (ht : t ∈ args xs) : s &&& t ∈ args xs ∧ s ||| t ∈ args xs := by
  have p := sb_of h
  obtain ⟨s1, s2⟩ := (argTo_mem xs.length).1 hs
  obtain ⟨t1, t2⟩ := (argTo_mem xs.length).1 ht
  have hS : s < 2 ^ n := by rw [← p.len]; exact s1
  have hT : t < 2 ^ n := by rw [← p.len]; exact t1
  have h4 := p.four hS hT
  have ha : s &&& t < xs.length := by rw [p.len]; exact Nat.lt_of_le_of_lt Nat.and_le_left hS
  have ho : s ||| t < xs.length := by rw [p.len]; exact Nat.or_lt_two_pow hS hT
  have h1 := minTo_le xs (xs.length - 1) _ (show s &&& t ≤ xs.length - 1 by omega)
  have h2 := minTo_le xs (xs.length - 1) _ (show s ||| t ≤ xs.length - 1 by omega)
  unfold least at s2 t2
  refine ⟨(argTo_mem xs.length).2 ⟨ha, ?_⟩, (argTo_mem xs.length).2 ⟨ho, ?_⟩⟩
  · unfold least; omega
  · unfold least; omega
theorem args_len (xs : List Int) : (args xs).length ≤ xs.length := argTo_len xs _ xs.length
theorem and_mem {n : Nat} {xs : List Int} (h : isSub (n : Int) xs = true) : ∀ k, k < (args xs).length → andTo (args xs) k ∈ args xs
  | 0, hk => by
    rw [andTo, getD_at _ _ hk]
    exact List.getElem_mem hk
  | k + 1, hk => by
    rw [andTo, getD_at _ _ hk]
    exact (args_four h (and_mem h k (by omega)) (List.getElem_mem hk)).1
theorem or_mem {n : Nat} {xs : List Int} (h : isSub (n : Int) xs = true) : ∀ k, k < (args xs).length → orTo (args xs) (k + 1) ∈ args xs
  | 0, hk => by
    rw [orTo, orTo, Nat.zero_or, getD_at _ _ hk]
    exact List.getElem_mem hk
  | k + 1, hk => by
    rw [orTo, getD_at _ _ hk]
    exact (args_four h (or_mem h k (by omega)) (List.getElem_mem hk)).2
theorem and_sub (l : List Nat) {i : Nat} : ∀ k, i ≤ k → l.getD i 0 &&& andTo l k = andTo l k
  | 0, h => by
    obtain rfl : i = 0 := by omega
    rw [andTo, Nat.and_self]
  | k + 1, h => by
    rw [andTo]
    by_cases e : i = k + 1
    · subst e
      rw [Nat.and_comm, Nat.and_assoc, Nat.and_self]
    · rw [← Nat.and_assoc, and_sub l k (by omega)]
theorem or_sub (l : List Nat) {i : Nat} : ∀ k, i < k → l.getD i 0 ||| orTo l k = orTo l k
  | 0, h => absurd h (by omega)
  | k + 1, h => by
    rw [orTo]
    by_cases e : i = k
    · subst e
      rw [Nat.or_comm, Nat.or_assoc, Nat.or_self]
    · rw [← Nat.or_assoc, or_sub l k (by omega)]
theorem has_nats {l : List Nat} {s : Nat} (h : s ∈ l) : hasI (nats l) (s : Int) = true := by
  unfold hasI nats
  rw [decide_eq_true_eq]
  exact List.mem_map_of_mem h
/-- The minimizers are a lattice with a least and a greatest. -/
theorem args_lat {n : Nat} {xs : List Int} (h : isSub (n : Int) xs = true) : isLat (nats (args xs)) = true := by
  have p := sb_of h
  have hf : isFn (n : Int) xs = true := (sub_iff.1 h).1
  have h32 := (isFn_len hf).2
  have hl := args_len xs
  have row : ∀ i, i < (args xs).length → ∀ k, k ≤ (args xs).length → latRow (nats (args xs)) i k = true := by
    intro i hi k
    induction k with
    | zero => exact fun _ => rfl
    | succ k ih =>
      intro hk
      rw [latRow, ih (by omega), nats_at hi, nats_at (by omega : k < (args xs).length), Int.toNat_natCast, Int.toNat_natCast]
      have hm := args_four h (List.getElem_mem hi) (List.getElem_mem (by omega : k < (args xs).length))
      rw [getD_at _ _ hi, getD_at _ _ (by omega : k < (args xs).length), has_nats hm.1, has_nats hm.2]
      rfl
  have all : ∀ i, i ≤ (args xs).length → latTo (nats (args xs)) i = true := by
    intro i
    induction i with
    | zero => exact fun _ => rfl
    | succ i ih =>
      intro hi
      have hlt := args_lt (List.getElem_mem (by omega : i < (args xs).length))
      rw [latTo, ih (by omega), row i (by omega) i (by omega), nats_at (by omega : i < (args xs).length), getD_at _ _ (by omega : i < (args xs).length), decide_eq_true (by omega)]
      rfl
  unfold isLat
  rw [nats_len, decide_eq_true (by omega), all _ (Nat.le_refl _)]
  rfl
theorem args_top {n : Nat} {xs : List Int} (h : isSub (n : Int) xs = true) : hasI (nats (args xs)) (andTo (args xs) ((args xs).length - 1) : Nat) = true ∧ hasI (nats (args xs)) (orTo (args xs) (args xs).length : Nat) = true ∧
    ∀ i, i < (args xs).length → (args xs).getD i 0 &&& andTo (args xs) ((args xs).length - 1) = andTo (args xs) ((args xs).length - 1) ∧ (args xs).getD i 0 ||| orTo (args xs) (args xs).length = orTo (args xs) (args xs).length := by
  have p := sb_of h
  have hpos : 0 < (args xs).length := args_ne (by rw [p.len]; exact Nat.two_pow_pos n)
  refine ⟨has_nats (and_mem h _ (by omega)), has_nats ?_, fun i hi => ⟨and_sub _ _ (by omega), or_sub _ _ hi⟩⟩
  have := or_mem h ((args xs).length - 1) (by omega)
  rwa [Nat.sub_add_cancel hpos] at this

end Go.Proofs.YtffbiflgmlabaaaGreatDoor.M

namespace Go.Proofs.YtffbiflgmlabaaaGreatDoor.M
set_option linter.unusedVariables false
set_option linter.unusedSimpArgs false

theorem isLat_mk {l : List Int} (h64 : l.length ≤ 64) (h1 : ∀ s ∈ l, 0 ≤ s ∧ s ≤ 1023) (h2 : ∀ s ∈ l, ∀ t ∈ l, ((s.toNat &&& t.toNat : Nat) : Int) ∈ l ∧ ((s.toNat ||| t.toNat : Nat) : Int) ∈ l) : isLat l = true := by
  have mem : ∀ i, i < l.length → l.getD i 0 ∈ l := fun i hi => by rw [getD_at _ _ hi]; exact List.getElem_mem hi
  have row : ∀ i, i < l.length → ∀ k, k ≤ l.length → latRow l i k = true := by
    intro i hi k
    induction k with
    | zero => exact fun _ => rfl
    | succ k ih =>
      intro hk
      obtain ⟨a, b⟩ := h2 _ (mem i hi) _ (mem k (by omega))
      rw [latRow, ih (by omega)]
      unfold hasI
      rw [decide_eq_true a, decide_eq_true b]
      rfl
  have all : ∀ i, i ≤ l.length → latTo l i = true := by
    intro i
    induction i with
    | zero => exact fun _ => rfl
    | succ i ih =>
      intro hi
      rw [latTo, ih (by omega), row i (by omega) i (by omega), decide_eq_true (h1 _ (mem i (by omega)))]
      rfl
  unfold isLat
  rw [decide_eq_true h64, all _ (Nat.le_refl _)]
  rfl
theorem tight_in {xs ws : List Int} {s : Int} : ∀ m, s ∈ tightTo xs ws m ↔ ∃ a : Nat, a < m ∧ s = (a : Int) ∧ weigh ws a ws.length = xs.getD a 0
  | 0 => by simp [tightTo]
  | m + 1 => by
    rw [tightTo]
    split
    · rename_i h
      rw [List.mem_append, tight_in m, List.mem_singleton]
      constructor
      · rintro (⟨a, h1, h2, h3⟩ | h1)
        · exact ⟨a, by omega, h2, h3⟩
        · exact ⟨m, by omega, h1, h⟩
      · rintro ⟨a, h1, h2, h3⟩
        by_cases e : a = m
        · subst e; exact .inr h2
        · exact .inl ⟨a, by omega, h2, h3⟩
    · rename_i h
      rw [tight_in m]
      constructor
      · rintro ⟨a, h1, h2, h3⟩; exact ⟨a, by omega, h2, h3⟩
      · rintro ⟨a, h1, h2, h3⟩
        by_cases e : a = m
        · subst e; exact absurd h3 h
        · exact ⟨a, by omega, h2, h3⟩
theorem tights_lat {n : Nat} {xs ws : List Int} (h : isBelow (n : Int) xs ws = true) (hs : isSub (n : Int) xs = true) : isLat (tightSets (n : Int) xs ws).1 = true := by
  have b := bl_of h
  have s := sb_of hs
  have h32 : xs.length ≤ 32 := by rw [b.lx]; exact Nat.le_trans (Nat.pow_le_pow_right (by decide) b.five) (by decide)
  unfold tightSets
  rw [if_pos h]
  refine isLat_mk (by have := tightTo_len xs ws xs.length; dsimp only; omega) (fun t ht => ?_) (fun t ht u hu => ?_)
  · obtain ⟨a, h1, rfl, -⟩ := (tight_in xs.length).1 ht
    omega
  · obtain ⟨a, a1, rfl, a3⟩ := (tight_in xs.length).1 ht
    obtain ⟨c, c1, rfl, c3⟩ := (tight_in xs.length).1 hu
    rw [b.lx] at a1 c1
    rw [b.len] at a3 c3
    obtain ⟨d1, d2⟩ := b.two s a1 c1 a3 c3
    rw [Int.toNat_natCast, Int.toNat_natCast]
    refine ⟨(tight_in xs.length).2 ⟨_, ?_, rfl, ?_⟩, (tight_in xs.length).2 ⟨_, ?_, rfl, ?_⟩⟩
    · rw [b.lx]; exact Nat.lt_of_le_of_lt Nat.and_le_left a1
    · rw [b.len]; exact d2
    · rw [b.lx]; exact Nat.or_lt_two_pow a1 c1
    · rw [b.len]; exact d1
/-- A base is a vector below whose full set is tight. -/
theorem base_has {n : Nat} {xs ws : List Int} (h : isBelow (n : Int) xs ws = true) : isBase (n : Int) xs ws = hasI (tightSets (n : Int) xs ws).1 ((2 ^ n - 1 : Nat) : Int) := by
  have b := bl_of h
  have hp := Nat.two_pow_pos n
  unfold isBase tightSets hasI
  rw [h, if_pos rfl, Bool.true_and, b.lx]
  dsimp only
  apply bool_iff
  rw [decide_eq_true_eq, decide_eq_true_eq]
  constructor
  · intro e
    exact (tight_in _).2 ⟨2 ^ n - 1, by omega, rfl, e⟩
  · intro e
    obtain ⟨a, -, a2, a3⟩ := (tight_in _).1 e
    have : a = 2 ^ n - 1 := by omega
    rw [← this]; exact a3
/-- An element gets its capacity .. -/
theorem cap_gives {n : Nat} {xs ws : List Int} (h : isBelow (n : Int) xs ws = true) {e : Nat} (he : e < n) (hk : capE xs ws e < 2000) : 0 ≤ capE xs ws e ∧ isBelow (n : Int) xs (ws.set e (ws.getD e 0 + capE xs ws e)) = true ∧ isBelow (n : Int) xs (ws.set e (ws.getD e 0 + capE xs ws e + 1)) = false ∧ ws.getD e 0 + capE xs ws e ≤ 1000 := by
  have b := bl_of h
  have h0 := capE_pos b e
  have hel : e < ws.length := by rw [b.len]; exact he
  have hone : (2 ^ e : Nat) < 2 ^ n := Nat.pow_lt_pow_right (by decide) he
  have hw1 : weigh ws (2 ^ e) n = ws.getD e 0 := by
    have hz := weigh_none ws n
    have h2 := weigh_or ws (s := 0) (i := e) (by simp) n he
    rw [Nat.zero_or, hz, Int.zero_add] at h2
    exact h2
  have hc := capE_le b hone (Nat.testBit_two_pow_self ..)
  rw [hw1] at hc
  have hb1 := b.bx (2 ^ e) (by rw [b.lx]; exact hone)
  have hle : ws.getD e 0 + capE xs ws e ≤ 1000 := by omega
  refine ⟨h0, (b.raise he (by omega) (by omega) (by omega)).is, ?_, hle⟩
  rcases capE_at b e with h1 | ⟨S, s1, s2, s3⟩
  · omega
  · cases hh : isBelow (n : Int) xs (ws.set e (ws.getD e 0 + capE xs ws e + 1))
    · rfl
    · have b2 := (bl_of hh).low S s1
      rw [weigh_set ws _ S hel n, if_pos ⟨he, s2⟩] at b2
      omega
/-- The least difference of the sets with a and without b. -/
def exchE (xs ws : List Int) (a b : Nat) : Int := capTo xs ws (fun s => s.testBit a && !s.testBit b) xs.length
theorem exch_le {n : Nat} {xs ws : List Int} (h : Bl n xs ws) {a b S : Nat} (hS : S < 2 ^ n) (ha : S.testBit a = true) (hb : S.testBit b = false) : exchE xs ws a b ≤ xs.getD S 0 - weigh ws S n := by
  have := cap_le (xs := xs) (ws := ws) (p := fun s => s.testBit a && !s.testBit b) xs.length S (by rw [h.lx]; exact hS) (by rw [ha, hb]; rfl)
  rw [h.len] at this
  exact this
theorem exch_pos {n : Nat} {xs ws : List Int} (h : Bl n xs ws) (a b : Nat) : 0 ≤ exchE xs ws a b := by
  rcases cap_at (xs := xs) (ws := ws) (p := fun s => s.testBit a && !s.testBit b) xs.length with h1 | ⟨S, h1, -, h3⟩
  · have : exchE xs ws a b = 100000 := h1
    omega
  · have := h.low S (by rw [← h.lx]; exact h1)
    rw [h.len] at h3
    have : exchE xs ws a b = xs.getD S 0 - weigh ws S n := h3
    omega
/-- An exchange keeps a base. -/
theorem exch_keeps {n : Nat} {xs ws : List Int} (h : isBase (n : Int) xs ws = true) {a b : Nat} (ha : a < n) (hb : b < n) (hab : a ≠ b) (hd : exchE xs ws a b < 2000) : isBase (n : Int) xs ((ws.set a (ws.getD a 0 + exchE xs ws a b)).set b (ws.getD b 0 - exchE xs ws a b)) = true := by
  unfold isBase at h
  rw [Bool.and_eq_true, decide_eq_true_eq] at h
  obtain ⟨hbel, hfull⟩ := h
  have bl := bl_of hbel
  have hp := Nat.two_pow_pos n
  rw [bl.lx, bl.len] at hfull
  have h0 := exch_pos bl a b
  have hal : a < ws.length := by rw [bl.len]; exact ha
  have hbl : b < ws.length := by rw [bl.len]; exact hb
  have hbl2 : b < (ws.set a (ws.getD a 0 + exchE xs ws a b)).length := by rw [List.length_set]; exact hbl
  have hgb : (ws.set a (ws.getD a 0 + exchE xs ws a b)).getD b 0 = ws.getD b 0 := by
    rw [List.getD_eq_getElem?_getD, List.getElem?_set_ne hab, ← List.getD_eq_getElem?_getD]
  have hweigh : ∀ S, weigh ((ws.set a (ws.getD a 0 + exchE xs ws a b)).set b (ws.getD b 0 - exchE xs ws a b)) S n = weigh ws S n + (if S.testBit a = true then exchE xs ws a b else 0) - (if S.testBit b = true then exchE xs ws a b else 0) := fun S => by
    rw [weigh_set _ _ S hbl2 n, weigh_set ws _ S hal n, hgb]
    by_cases h1 : S.testBit a = true <;> by_cases h2 : S.testBit b = true <;> simp [h1, h2, ha, hb] <;> omega
  -- what the two elements may have
  have hone : (2 ^ a : Nat) < 2 ^ n := Nat.pow_lt_pow_right (by decide) ha
  have hwa : weigh ws (2 ^ a) n = ws.getD a 0 := by
    have hz := weigh_none ws n
    have h2 := weigh_or ws (s := 0) (i := a) (by simp) n ha
    rw [Nat.zero_or, hz, Int.zero_add] at h2
    exact h2
  have hea := exch_le bl hone (a := a) (b := b) (Nat.testBit_two_pow_self ..) (by rw [Nat.testBit_two_pow]; exact decide_eq_false hab)
  rw [hwa] at hea
  have hx1 := bl.bx (2 ^ a) (by rw [bl.lx]; exact hone)
  have hrest : (2 ^ n - 1 - 2 ^ b) < 2 ^ n := Nat.lt_of_le_of_lt (Nat.sub_le _ _) (by omega)
  have htb : ∀ q, (2 ^ n - 1 - 2 ^ b).testBit q = (decide (q < n) && !(2 ^ b).testBit q) := fun q => compl_bit (n := n) (s := 2 ^ b) (Nat.pow_lt_pow_right (by decide) hb)
  have hsplit : (2 ^ n - 1 - 2 ^ b) ||| 2 ^ b = 2 ^ n - 1 := by
    apply Nat.eq_of_testBit_eq; intro q
    rw [Nat.testBit_or, htb, Nat.testBit_two_pow, Nat.testBit_two_pow_sub_one]
    by_cases e : b = q
    · subst e; simp [hb]
    · simp [e]
  have hwb := weigh_or ws (s := 2 ^ n - 1 - 2 ^ b) (i := b) (by rw [htb, Nat.testBit_two_pow_self]; simp) n hb
  rw [hsplit, hfull] at hwb
  have hlr := bl.low (2 ^ n - 1 - 2 ^ b) hrest
  have hx2 := bl.bx (2 ^ n - 1) (by rw [bl.lx]; omega)
  have hx3 := bl.bx (2 ^ n - 1 - 2 ^ b) (by rw [bl.lx]; exact hrest)
  have hwa2 := bl.bw a ha
  have hwb2 := bl.bw b hb
  have bl2 : Bl n xs ((ws.set a (ws.getD a 0 + exchE xs ws a b)).set b (ws.getD b 0 - exchE xs ws a b)) := by
    refine ⟨bl.gr, by rw [List.length_set, List.length_set]; exact bl.len, bl.five, bl.lx, bl.bx, fun k hk => ?_, fun S hS => ?_⟩
    · by_cases e1 : b = k
      · subst e1
        rw [List.getD_eq_getElem?_getD, List.getElem?_set_self hbl2]
        show -5000 ≤ ws.getD b 0 - exchE xs ws a b ∧ ws.getD b 0 - exchE xs ws a b ≤ 5000
        omega
      · rw [List.getD_eq_getElem?_getD, List.getElem?_set_ne e1]
        by_cases e2 : a = k
        · subst e2
          rw [List.getElem?_set_self hal]
          show -5000 ≤ ws.getD a 0 + exchE xs ws a b ∧ ws.getD a 0 + exchE xs ws a b ≤ 5000
          omega
        · rw [List.getElem?_set_ne e2, ← List.getD_eq_getElem?_getD]
          exact bl.bw k hk
    · rw [hweigh S]
      have hl := bl.low S hS
      by_cases h1 : S.testBit a = true
      · rw [if_pos h1]
        by_cases h2 : S.testBit b = true
        · rw [if_pos h2]; omega
        · rw [if_neg h2]
          have := exch_le bl hS h1 (by simpa using h2)
          omega
      · rw [if_neg h1]
        by_cases h2 : S.testBit b = true
        · rw [if_pos h2]; omega
        · rw [if_neg h2]; omega
  unfold isBase
  rw [bl2.is, Bool.true_and, decide_eq_true_eq, bl.lx, bl2.len, hweigh, hfull]
  have f1 : (2 ^ n - 1).testBit a = true := by rw [Nat.testBit_two_pow_sub_one]; exact decide_eq_true ha
  have f2 : (2 ^ n - 1).testBit b = true := by rw [Nat.testBit_two_pow_sub_one]; exact decide_eq_true hb
  rw [if_pos f1, if_pos f2]
  omega
/-- A corner's numbers add up to the value of all elements. -/
theorem corner_total {n : Nat} {xs p : List Int} (hg : isGround (n : Int) xs = true) {o : Nat → Nat} (q : Pm n o) : sm (fun k => (gain xs o n n).getD k 0) n = xs.getD (2 ^ n - 1) 0 := by
  have h1 := gain_sum xs q (fun _ => 1) n (Nat.le_refl _)
  have h2 : ax xs o (fun _ => 1) n = sm (dl xs o) n := by
    unfold ax
    exact sm_congr _ fun i hi => by rw [Int.one_mul]
  rw [h2, sm_dl, pre_full q, ground_zero hg, Int.sub_zero] at h1
  rw [← h1]
  exact sm_congr _ fun i hi => by rw [Int.one_mul]
/-- What is negative of a vector below is at most each value. -/
theorem neg_le_weigh (ws : List Int) (S : Nat) : ∀ m, sm (fun k => min 0 (ws.getD k 0)) m ≤ weigh ws S m
  | 0 => by simp [sm, weigh]
  | m + 1 => by
    have ih := neg_le_weigh ws S m
    rw [sm]
    unfold weigh
    split <;> omega
theorem neg_le_least {n : Nat} {xs ws : List Int} (h : isBelow (n : Int) xs ws = true) : (negPart ws).1 ≤ least xs := by
  have b := bl_of h
  have hp := Nat.two_pow_pos n
  unfold negPart
  rw [if_pos (isBelow_yes h).2.2.1]
  obtain ⟨j, hj, hj2⟩ := minTo_at xs (xs.length - 1)
  have hjn : j < 2 ^ n := by rw [b.lx] at hj; omega
  have h1 := neg_le_weigh ws j n
  have h2 := b.low j hjn
  unfold least
  rw [hj2, b.len]
  dsimp only
  omega

end Go.Proofs.YtffbiflgmlabaaaGreatDoor.M

namespace Go.Proofs.YtffbiflgmlabaaaGreatDoor.M
set_option linter.unusedVariables false
set_option linter.unusedSimpArgs false

/-- Is x one of the first j elements? -/
def lset (l : List Int) : Nat → Int → Bool
  | 0, _ => false
  | j + 1, x => lset l j x || decide (x = l.getD j 0)
theorem lset_iff {l : List Int} {x : Int} : ∀ j, lset l j x = true ↔ ∃ i, i < j ∧ x = l.getD i 0
  | 0 => by simp [lset]
  | j + 1 => by
    rw [lset, Bool.or_eq_true, lset_iff j, decide_eq_true_eq]
    constructor
    · rintro (⟨i, a, b⟩ | b)
      · exact ⟨i, by omega, b⟩
      · exact ⟨j, by omega, b⟩
    · rintro ⟨i, a, b⟩
      by_cases e : i = j
      · subst e; exact .inr b
      · exact .inl ⟨i, by omega, b⟩
theorem lset_has (l : List Int) (x : Int) : lset l l.length x = hasI l x := by
  rw [Bool.eq_iff_iff, lset_iff, hasI_mem]
  exact ⟨fun ⟨i, a, b⟩ => ⟨i, a, b.symm⟩, fun ⟨i, a, b⟩ => ⟨i, a, b.symm⟩⟩
theorem latTo_iff {l : List Int} : ∀ m, latTo l m = true ↔ ∀ i, i < m → (0 ≤ l.getD i 0 ∧ l.getD i 0 ≤ 1023) ∧ latRow l i i = true
  | 0 => by simp [latTo]
  | m + 1 => by
    rw [latTo, Bool.and_eq_true, latTo_iff m, Bool.and_eq_true, decide_eq_true_eq]
    constructor
    · rintro ⟨a, b⟩ i hi
      by_cases e : i = m
      · subst e; exact b
      · exact a i (by omega)
    · exact fun a => ⟨fun i hi => a i (by omega), a m (by omega)⟩
theorem latRow_iff {l : List Int} {i : Nat} : ∀ m, latRow l i m = true ↔ ∀ k, k < m → hasI l ((l.getD i 0).toNat &&& (l.getD k 0).toNat : Nat) = true ∧ hasI l ((l.getD i 0).toNat ||| (l.getD k 0).toNat : Nat) = true
  | 0 => by simp [latRow]
  | m + 1 => by
    rw [latRow, Bool.and_eq_true, latRow_iff m, Bool.and_eq_true]
    constructor
    · rintro ⟨a, b⟩ k hk
      by_cases e : k = m
      · subst e; exact b
      · exact a k (by omega)
    · exact fun a => ⟨fun k hk => a k (by omega), a m (by omega)⟩
theorem lat_no_range {l : List Int} {j : Nat} (hj : j < l.length) (h : ¬ (0 ≤ l.getD j 0 ∧ l.getD j 0 ≤ 1023)) : isLat l = false := by
  cases e : isLat l
  · rfl
  · unfold isLat at e
    rw [Bool.and_eq_true, latTo_iff] at e
    exact absurd (e.2 j hj).1 h
/-- Two sets without their union, or without what they have in common. -/
theorem lat_no_pair {l : List Int} {a c : Nat} (ha : lset l l.length a = true) (hc : lset l l.length c = true) (h : lset l l.length ((a ||| c : Nat) : Int) = false ∨ lset l l.length ((a &&& c : Nat) : Int) = false) : isLat l = false := by
  cases e : isLat l
  · rfl
  · exfalso
    unfold isLat at e
    rw [Bool.and_eq_true, latTo_iff] at e
    obtain ⟨i, hi, ea⟩ := (lset_iff _).1 ha
    obtain ⟨k, hk, ec⟩ := (lset_iff _).1 hc
    have key : ∀ i k, i < l.length → k < i → hasI l (((l.getD i 0).toNat &&& (l.getD k 0).toNat : Nat) : Int) = true ∧ hasI l (((l.getD i 0).toNat ||| (l.getD k 0).toNat : Nat) : Int) = true := fun i k hi hk => (latRow_iff i).1 (e.2 i hi).2 k hk
    have hor : lset l l.length ((a ||| c : Nat) : Int) = true ∧ lset l l.length ((a &&& c : Nat) : Int) = true := by
      rcases Nat.lt_trichotomy i k with hik | hik | hik
      · have := key k i hk hik
        rw [← ea, ← ec, Int.toNat_natCast, Int.toNat_natCast] at this
        rw [lset_has, lset_has, Nat.or_comm, Nat.and_comm]
        exact ⟨this.2, this.1⟩
      · subst hik
        obtain rfl : a = c := by omega
        rw [Nat.or_self, Nat.and_self]
        exact ⟨ha, ha⟩
      · have := key i k hi hik
        rw [← ea, ← ec, Int.toNat_natCast, Int.toNat_natCast] at this
        rw [lset_has, lset_has]
        exact ⟨this.2, this.1⟩
    rcases h with h | h
    · rw [hor.1] at h; cases h
    · rw [hor.2] at h; cases h
/-- All pairs of sets that have come, with all others. -/
def Closed (T left : Int → Bool) : Prop := ∀ a c : Nat, T a = true → left a = false → T c = true → T ((a ||| c : Nat) : Int) = true ∧ T ((a &&& c : Nat) : Int) = true
def Closed1 (T left : Int → Bool) (a : Nat) : Prop := ∀ c : Nat, T c = true → left c = false → T ((a ||| c : Nat) : Int) = true ∧ T ((a &&& c : Nat) : Int) = true
theorem closed_start (T : Int → Bool) : Closed T T := fun a c h1 h2 => by rw [h1] at h2; cases h2
theorem closed1_start (T : Int → Bool) (a : Nat) : Closed1 T T a := fun c h1 h2 => by rw [h1] at h2; cases h2
theorem closed1_step {T left : Int → Bool} {a c : Nat} (h : Closed1 T left a) (h1 : T ((a ||| c : Nat) : Int) = true) (h2 : T ((a &&& c : Nat) : Int) = true) : Closed1 T (fun z => left z && !decide (z = (c : Int))) a := by
  intro d hd hl
  by_cases e : d = c
  · subst e; exact ⟨h1, h2⟩
  · have e2 : ¬ (d : Int) = (c : Int) := by omega
    simp only [e2, decide_false, Bool.not_false, Bool.and_true] at hl
    exact h d hd hl
theorem closed_step {T left left2 : Int → Bool} {a : Nat} (h : Closed T left) (h1 : Closed1 T left2 a) (h0 : ∀ x, left2 x = false) : Closed T (fun z => left z && !decide (z = (a : Int))) := by
  intro b c hb hl hc
  by_cases e : b = a
  · subst e; exact h1 c hc (h0 _)
  · have e2 : ¬ (b : Int) = (a : Int) := by omega
    simp only [e2, decide_false, Bool.not_false, Bool.and_true] at hl
    exact h b c hb hl hc
theorem lat_yes {l : List Int} {left : Int → Bool} (hl : l.length ≤ 64) (hr : ∀ i, i < l.length → 0 ≤ l.getD i 0 ∧ l.getD i 0 ≤ 1023) (h : Closed (lset l l.length) left) (h0 : ∀ x, left x = false) : isLat l = true := by
  unfold isLat
  rw [Bool.and_eq_true, decide_eq_true_eq]
  refine ⟨hl, (latTo_iff _).2 fun i hi => ⟨hr i hi, (latRow_iff _).2 fun k hk => ?_⟩⟩
  have ri := hr i hi
  have rk := hr k (by omega)
  have := h (l.getD i 0).toNat (l.getD k 0).toNat ((lset_iff _).2 ⟨i, hi, by omega⟩) (h0 _) ((lset_iff _).2 ⟨k, by omega, by omega⟩)
  rw [lset_has, lset_has] at this
  exact ⟨this.2, this.1⟩
theorem lset_nat {l : List Int} {j : Nat} {x : Int} (hr : ∀ i, i < j → 0 ≤ l.getD i 0 ∧ l.getD i 0 ≤ 1023) (h : lset l j x = true) : ∃ s : Nat, x = s ∧ s < 1024 := by
  obtain ⟨i, hi, e⟩ := (lset_iff j).1 h
  have := hr i hi
  exact ⟨x.toNat, by omega, by omega⟩

end Go.Proofs.YtffbiflgmlabaaaGreatDoor.M
