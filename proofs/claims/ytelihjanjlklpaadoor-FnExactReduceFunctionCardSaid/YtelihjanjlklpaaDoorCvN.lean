/-
  What the law of convolutions says, as plain mathematics.
-/
import Derived.Test.YtelihjanjlklpaaDoorCvM
namespace Go.Proofs.YtelihjanjlklpaaDoor.M
set_option linter.unusedVariables false
set_option linter.unusedSimpArgs false

theorem tab_eq {xs : List Int} {f : Nat → Int} (h : ∀ k, k < xs.length → f k = xs.getD k 0) : tab xs.length f = xs := by
  refine List.ext_getElem (tab_length _ _) fun k h1 h2 => ?_
  have e1 : (tab xs.length f).getD k 0 = (tab xs.length f)[k] := by rw [List.getD_eq_getElem?_getD, List.getElem?_eq_getElem h1]; rfl
  have e2 : xs.getD k 0 = xs[k] := by rw [List.getD_eq_getElem?_getD, List.getElem?_eq_getElem h2]; rfl
  rw [← e1, tab_at _ h2, h k h2, e2]
theorem inc_iff {n : Nat} {xs : List Int} : isInc (n : Int) xs = true ↔ isFn (n : Int) xs = true ∧ ∀ s i, s < xs.length → i < n → xs.getD s 0 ≤ xs.getD (s ||| 2 ^ i) 0 := by
  unfold isInc
  rw [Int.toNat_natCast]
  simp only [Bool.and_eq_true, List.all_eq_true, List.mem_range, incAt, decide_eq_true_eq]
  constructor
  · rintro ⟨hf, h⟩; exact ⟨hf, fun s i hs hi => h s hs i hi⟩
  · rintro ⟨hf, h⟩; exact ⟨hf, fun s hs i hi => h s i hs hi⟩
theorem mono_low_of {n : Nat} {xs : List Int} (hinc : ∀ s i, s < 2 ^ n → i < n → xs.getD s 0 ≤ xs.getD (s ||| 2 ^ i) 0) {S D : Nat} (hS : S < 2 ^ n) (hD : D < 2 ^ n) : ∀ j, j ≤ n → xs.getD S 0 ≤ xs.getD (S ||| D % 2 ^ j) 0
  | 0, _ => by rw [Nat.pow_zero, Nat.mod_one, Nat.or_zero]; omega
  | j + 1, hj => by
    have ih := mono_low_of hinc hS hD j (by omega)
    rw [or_low]
    split
    · have := hinc (S ||| D % 2 ^ j) j (low_lt hS hD j) (by omega)
      omega
    · exact ih
theorem mono_of {n : Nat} {xs : List Int} (hinc : ∀ s i, s < 2 ^ n → i < n → xs.getD s 0 ≤ xs.getD (s ||| 2 ^ i) 0) {S T : Nat} (hS : S < 2 ^ n) (hT : T < 2 ^ n) (h : T &&& S = S) : xs.getD S 0 ≤ xs.getD T 0 := by
  have := mono_low_of hinc hS hT n (Nat.le_refl _)
  rwa [Nat.mod_eq_of_lt hT, show S ||| T = T by
    apply Nat.eq_of_testBit_eq; intro q
    have := congrArg (fun x => x.testBit q) h
    rw [Nat.testBit_or]
    simp only [Nat.testBit_and] at this
    revert this
    cases S.testBit q <;> cases T.testBit q <;> simp] at this
-- hulls
theorem hull_fn {n : Int} {xs : List Int} (hf : isFn n xs = true) : isFn n (tab xs.length (hullV xs)) = true := by
  obtain ⟨h0, h5, hl, hv⟩ := isFn_yes hf
  refine isFn_mk h0 h5 (by rw [tab_length]; exact hl) fun k hk => ?_
  rw [tab_length] at hk
  rw [tab_at _ hk]
  obtain ⟨x, -, hx, e⟩ := hull_at hk
  rw [e]
  exact hv x hx
theorem hull_made {n : Int} {xs : List Int} (hf : isFn n xs = true) : hullFn n xs = made n (tab xs.length (hullV xs)) := by
  unfold hullFn made
  rw [if_pos hf, if_pos (hull_fn hf)]
theorem sup_or {x y s i k : Nat} (hx : x &&& (s ||| 2 ^ i) = s ||| 2 ^ i) (hy : y &&& (s ||| 2 ^ k) = s ||| 2 ^ k) : (x ||| y) &&& (s ||| 2 ^ i ||| 2 ^ k) = s ||| 2 ^ i ||| 2 ^ k ∧ (x &&& y) &&& s = s := by
  constructor <;>
    (apply Nat.eq_of_testBit_eq; intro q
     have h1 := congrArg (fun x => x.testBit q) hx
     have h2 := congrArg (fun x => x.testBit q) hy
     simp only [Nat.testBit_and, Nat.testBit_or] at h1 h2 ⊢
     revert h1 h2
     cases x.testBit q <;> cases y.testBit q <;> cases s.testBit q <;> cases (2 ^ i).testBit q <;> cases (2 ^ k).testBit q <;> simp)
theorem hull_sub {n : Int} {xs : List Int} (h : isSub n xs = true) : isSub n (tab xs.length (hullV xs)) = true := by
  have hf : isFn n xs = true := by unfold isSub at h; simp only [Bool.and_eq_true] at h; exact h.1
  obtain ⟨h0, -, hl, -⟩ := isFn_yes hf
  obtain ⟨N, rfl⟩ := Int.eq_ofNat_of_zero_le h0
  rw [Int.toNat_natCast] at hl
  refine sub_of (hull_fn hf) fun s i k hs hi hk hik t1 t2 => ?_
  have b1 := or_lt hs hi
  have b2 := or_lt hs hk
  have b3 := or_lt b1 hk
  rw [← hl] at hs b1 b2 b3
  rw [tab_at _ hs, tab_at _ b1, tab_at _ b2, tab_at _ b3]
  obtain ⟨x, x1, x2, x3⟩ := hull_at b1
  obtain ⟨y, y1, y2, y3⟩ := hull_at b2
  obtain ⟨u1, u2⟩ := sup_or x1 y1
  have hor : x ||| y < xs.length := by rw [hl] at x2 y2 ⊢; exact Nat.or_lt_two_pow x2 y2
  have hand : x &&& y < xs.length := Nat.lt_of_le_of_lt Nat.and_le_left x2
  have c1 := hull_le hor u1
  have c2 := hull_le hand u2
  have c3 := (sb_of h).four (X := x) (Y := y) (by omega) (by omega)
  omega
theorem hull_inc {n : Int} {xs : List Int} (hf : isFn n xs = true) : isInc n (tab xs.length (hullV xs)) = true := by
  obtain ⟨h0, -, hl, -⟩ := isFn_yes hf
  obtain ⟨N, rfl⟩ := Int.eq_ofNat_of_zero_le h0
  rw [Int.toNat_natCast] at hl
  refine inc_iff.2 ⟨hull_fn hf, fun s i hs hi => ?_⟩
  rw [tab_length] at hs
  have b1 := or_lt (n := N) (by omega) hi (S := s)
  rw [← hl] at b1
  rw [tab_at _ hs, tab_at _ b1]
  obtain ⟨x, x1, x2, x3⟩ := hull_at b1
  rw [x3]
  refine hull_le x2 ?_
  apply Nat.eq_of_testBit_eq; intro q
  have h1 := congrArg (fun x => x.testBit q) x1
  simp only [Nat.testBit_and, Nat.testBit_or] at h1 ⊢
  revert h1
  cases x.testBit q <;> cases s.testBit q <;> simp
theorem inc_hull {n : Int} {xs : List Int} (hf : isFn n xs = true) : isInc n xs = decide (xs = tab xs.length (hullV xs)) := by
  obtain ⟨h0, -, hl, -⟩ := isFn_yes hf
  have hi := hull_inc hf
  rw [Bool.eq_iff_iff, decide_eq_true_iff]
  constructor
  · intro h
    obtain ⟨N, rfl⟩ := Int.eq_ofNat_of_zero_le h0
    rw [Int.toNat_natCast] at hl
    refine (tab_eq fun s hs => ?_).symm
    obtain ⟨x, x1, x2, x3⟩ := hull_at hs
    have h1 := hull_le hs (Nat.and_self s)
    have h2 := mono_of (n := N) (fun s i hs hi => (inc_iff.1 h).2 s i (by omega) hi) (S := s) (T := x) (by omega) (by omega) x1
    omega
  · intro h
    rw [← h] at hi
    exact hi
-- truncations
theorem trunc_fn {n : Int} {xs : List Int} {k : Int} (hf : isFn n xs = true) (h1 : -1000 ≤ k) (h2 : k ≤ 1000) : isFn n (tab xs.length (truncV xs k)) = true := by
  obtain ⟨h0, h5, hl, hv⟩ := isFn_yes hf
  refine isFn_mk h0 h5 (by rw [tab_length]; exact hl) fun j hj => ?_
  rw [tab_length] at hj
  rw [tab_at _ hj]
  have := hv j hj
  unfold truncV
  omega
theorem trunc_made {n : Int} {xs : List Int} {k : Int} (hf : isFn n xs = true) (h1 : -1000 ≤ k) (h2 : k ≤ 1000) : truncFn n xs k = made n (tab xs.length (truncV xs k)) := by
  unfold truncFn made
  rw [if_pos ⟨hf, h1, h2⟩, if_pos (trunc_fn hf h1 h2)]
theorem trunc_law {n : Int} {xs : List Int} {k : Int} (hb : (truncFn n xs k).2.2 = true) (h : isPoly n xs = true) : isSub (truncFn n xs k).1 (truncFn n xs k).2.1 = true := by
  unfold truncFn at hb ⊢
  split at hb
  · rename_i hh
    rw [if_pos hh]
    obtain ⟨hf, k1, k2⟩ := hh
    have ht := trunc_fn hf k1 k2
    obtain ⟨h0, -, hl, -⟩ := isFn_yes hf
    obtain ⟨N, rfl⟩ := Int.eq_ofNat_of_zero_le h0
    rw [Int.toNat_natCast] at hl
    have p := pol_of h
    refine sub_of ht fun s i j hs hi hj hij t1 t2 => ?_
    have b1 := or_lt hs hi
    have b2 := or_lt hs hj
    have b3 := or_lt b1 hj
    have c1 := p.inc s i hs hi
    have c2 := p.inc s j hs hj
    have c3 := p.inc (s ||| 2 ^ i) j b1 hj
    have c4 := p.inc (s ||| 2 ^ j) i b2 hi
    rw [or_swap] at c4
    have c5 := p.sub s i j hs hi hj (by omega) t1 t2
    rw [← hl] at hs b1 b2 b3
    rw [tab_at _ hs, tab_at _ b1, tab_at _ b2, tab_at _ b3]
    unfold truncV
    omega
  · cases hb
-- convolutions
theorem weigh_four (ws : List Int) (x y : Nat) : ∀ m, weigh ws (x ||| y) m + weigh ws (x &&& y) m = weigh ws x m + weigh ws y m
  | 0 => rfl
  | m + 1 => by
    have ih := weigh_four ws x y m
    unfold weigh
    rw [Nat.testBit_or, Nat.testBit_and]
    cases x.testBit m <;> cases y.testBit m <;> simp <;> omega
theorem weigh_zero (ws : List Int) : ∀ m, weigh ws 0 m = 0
  | 0 => rfl
  | m + 1 => by
    unfold weigh
    rw [Nat.zero_testBit, if_neg (by decide)]
    exact weigh_zero ws m
theorem rest_of : ∀ A, A < 32 → ∀ x, x < 32 → x &&& A = x → x ||| (A - x) = A ∧ x &&& (A - x) = 0 ∧ (A - x) &&& A = A - x := by decide +kernel
theorem weigh_rest (ws : List Int) {A x : Nat} (hA : A < 32) (h : x &&& A = x) (m : Nat) : weigh ws (A - x) m = weigh ws A m - weigh ws x m := by
  have hx : x < 32 := by have := and_le_of h; omega
  obtain ⟨h1, h2, -⟩ := rest_of A hA x hx h
  have := weigh_four ws x (A - x) m
  rw [h1, h2, weigh_zero] at this
  omega
theorem sub_or {x y s i k : Nat} (hx : x &&& (s ||| 2 ^ i) = x) (hy : y &&& (s ||| 2 ^ k) = y) (hne : i ≠ k) : (x ||| y) &&& (s ||| 2 ^ i ||| 2 ^ k) = x ||| y ∧ (x &&& y) &&& s = x &&& y := by
  constructor <;>
    (apply Nat.eq_of_testBit_eq; intro q
     have h1 := congrArg (fun x => x.testBit q) hx
     have h2 := congrArg (fun x => x.testBit q) hy
     simp only [Nat.testBit_and, Nat.testBit_or, Nat.testBit_two_pow] at h1 h2 ⊢
     by_cases e1 : i = q
     · have e2 : ¬ k = q := by omega
       simp only [e1, e2, decide_true, decide_false] at h1 h2 ⊢
       revert h1 h2
       cases x.testBit q <;> cases y.testBit q <;> cases s.testBit q <;> simp
     · simp only [e1, decide_false] at h1 h2 ⊢
       revert h1 h2
       cases x.testBit q <;> cases y.testBit q <;> cases s.testBit q <;> cases decide (k = q) <;> simp)
theorem conv_sub {N : Nat} {xs ys ws : List Int} (h : isSub (N : Int) xs = true) (hy : ∀ y, y < 2 ^ N → ys.getD y 0 = weigh ws y N) (hf : isFn (N : Int) (tab xs.length (convV xs ys)) = true) : isSub (N : Int) (tab xs.length (convV xs ys)) = true := by
  have hfx : isFn (N : Int) xs = true := by unfold isSub at h; simp only [Bool.and_eq_true] at h; exact h.1
  obtain ⟨-, h5, hl, -⟩ := isFn_yes hfx
  rw [Int.toNat_natCast] at hl
  have h32 : 2 ^ N ≤ 2 ^ 5 := Nat.pow_le_pow_right (by decide) (by omega)
  -- a part's sum, by weights
  have part : ∀ A x, A < 2 ^ N → x &&& A = x → partV xs ys A x = xs.getD x 0 + (weigh ws A N - weigh ws x N) := fun A x hA hx => by
    unfold partV
    rw [hy (A - x) (by omega), weigh_rest ws (by omega) hx]
  refine sub_of hf fun s i k hs hi hk hik t1 t2 => ?_
  have b1 := or_lt hs hi
  have b2 := or_lt hs hk
  have b3 := or_lt b1 hk
  rw [tab_at _ (by omega), tab_at _ (by omega), tab_at _ (by omega), tab_at _ (by omega)]
  obtain ⟨x1, x2⟩ := split_in xs ys (s ||| 2 ^ i)
  obtain ⟨y1, y2⟩ := split_in xs ys (s ||| 2 ^ k)
  have e1 : convV xs ys (s ||| 2 ^ i) = partV xs ys (s ||| 2 ^ i) (split xs ys (s ||| 2 ^ i)) := rfl
  have e2 : convV xs ys (s ||| 2 ^ k) = partV xs ys (s ||| 2 ^ k) (split xs ys (s ||| 2 ^ k)) := rfl
  generalize split xs ys (s ||| 2 ^ i) = x at x1 x2 e1
  generalize split xs ys (s ||| 2 ^ k) = y at y1 y2 e2
  obtain ⟨u1, u2⟩ := sub_or x1 y1 (by omega)
  have c1 := split_min xs ys u1
  have c2 := split_min xs ys u2
  rw [part _ _ b1 x1] at e1
  rw [part _ _ b2 y1] at e2
  rw [part _ _ b3 u1] at c1
  rw [part _ _ hs u2] at c2
  have c3 := (sb_of h).four (X := x) (Y := y) (by omega) (by omega)
  have w1 := weigh_four ws x y N
  have w2 := weigh_four ws (s ||| 2 ^ i) (s ||| 2 ^ k) N
  rw [show (s ||| 2 ^ i) ||| (s ||| 2 ^ k) = s ||| 2 ^ i ||| 2 ^ k by
      apply Nat.eq_of_testBit_eq; intro q
      simp only [Nat.testBit_or]
      cases s.testBit q <;> cases (2 ^ i).testBit q <;> cases (2 ^ k).testBit q <;> rfl,
    show (s ||| 2 ^ i) &&& (s ||| 2 ^ k) = s by
      apply Nat.eq_of_testBit_eq; intro q
      simp only [Nat.testBit_and, Nat.testBit_or, Nat.testBit_two_pow]
      by_cases e1 : i = q
      · have e2 : ¬ k = q := by omega
        simp only [e1, e2, decide_true, decide_false]
        cases s.testBit q <;> rfl
      · simp only [e1, decide_false]
        cases s.testBit q <;> cases decide (k = q) <;> rfl] at w2
  omega
theorem reduce_law {n : Int} {xs ws : List Int} (hb : (reduceFn n xs ws).2.2 = true) (h : isSub n xs = true) : isSub (reduceFn n xs ws).1 (reduceFn n xs ws).2.1 = true := by
  unfold reduceFn at hb ⊢
  split at hb
  · rename_i hh
    rw [if_pos hh]
    obtain ⟨hm, hf, hn⟩ := hh
    unfold modFn at hm hn hb ⊢
    split at hm
    · rename_i hw
      rw [if_pos hw] at hn hb ⊢
      unfold made at hm
      split at hm
      · rename_i hg
        have hmade : made (ws.length : Int) (tab (2 ^ ws.length) fun s => 0 + weigh ws s ws.length) = ((ws.length : Int), (tab (2 ^ ws.length) fun s => 0 + weigh ws s ws.length), true) := if_pos hg
        rw [hmade] at hn hb ⊢
        have hn' : (ws.length : Int) = n := hn
        subst hn'
        unfold convFn at hb ⊢
        split at hb
        · rename_i hfit
          rw [if_pos hfit]
          unfold made at hb ⊢
          split at hb
          · rename_i hc
            rw [if_pos hc]
            exact conv_sub (ws := ws) h (fun y hy => by
              show (tab (2 ^ ws.length) _).getD y 0 = _
              rw [tab_at _ hy]; omega) hc
          · cases hb
        · cases hb
      · cases hm
    · cases hm
  · cases hb
theorem conv_le {xs ys : List Int} {s : Nat} (hs : s < 32) : convV ys xs s ≤ convV xs ys s := by
  obtain ⟨h1, h2⟩ := split_in xs ys s
  have e : convV xs ys s = partV xs ys s (split xs ys s) := rfl
  rw [e]
  generalize split xs ys s = x at h1 h2
  have h3 := (rest_of s hs x (by omega) h1).2.2
  have := split_min ys xs h3
  unfold partV at this ⊢
  rw [show s - (s - x) = x by omega] at this
  omega
theorem conv_comm {xs ys : List Int} {s : Nat} (hs : s < 32) : convV ys xs s = convV xs ys s := by
  have h1 := conv_le (xs := xs) (ys := ys) hs
  have h2 := conv_le (xs := ys) (ys := xs) hs
  omega
/-- Convolutions do not ask which function comes first. -/
theorem convFn_comm (n : Int) (xs : List Int) (m : Int) (ys : List Int) : convFn m ys n xs = convFn n xs m ys := by
  unfold convFn
  by_cases h : fits n xs m ys = true
  · obtain ⟨hf, hg, rfl⟩ := fits_yes h
    have h' : fits n ys n xs = true := by unfold fits; simp [hf, hg]
    rw [if_pos h, if_pos h']
    obtain ⟨-, -, l1, -⟩ := isFn_yes hf
    obtain ⟨-, -, l2, -⟩ := isFn_yes hg
    have h32 := isFn_len hf
    rw [l2, ← l1, tab_congr fun s hs => conv_comm (xs := xs) (ys := ys) (s := s) (by omega)]
  · have h' : ¬ fits m ys n xs = true := fun h' => h (by
      obtain ⟨hf, hg, rfl⟩ := fits_yes h'
      unfold fits; simp [hf, hg])
    rw [if_neg h, if_neg h']

end Go.Proofs.YtelihjanjlklpaaDoor.M
