/-
  The sets with the least value so far, as plain mathematics, and what folds over them give in whatever order.
-/
import Derived.Test.YtffbiflgmlabaaaGreatDoorAllM
namespace Go.Proofs.YtffbiflgmlabaaaGreatDoor.M
set_option linter.unusedVariables false
set_option linter.unusedSimpArgs false

/-- The least of the first j values; of none, the first one. -/
def minF (xs : List Int) (j : Nat) : Int := minTo xs (j - 1)
theorem minF_zero (xs : List Int) : minF xs 0 = xs.getD 0 0 := rfl
theorem minF_succ (xs : List Int) : ∀ j, minF xs (j + 1) = min (minF xs j) (xs.getD j 0)
  | 0 => by show xs.getD 0 0 = min (xs.getD 0 0) (xs.getD 0 0); omega
  | j + 1 => rfl
theorem minF_le {xs : List Int} {j s : Nat} (h : s < j) : minF xs j ≤ xs.getD s 0 := minTo_le xs (j - 1) s (by omega)
/-- Is x one of the first j sets, with the least of their values? -/
def mset (xs : List Int) (j : Nat) (x : Int) : Bool := decide (0 ≤ x ∧ x.toNat < j ∧ xs.getD x.toNat 0 = minF xs j)
theorem mset_zero (xs : List Int) (x : Int) : mset xs 0 x = false := by simp [mset]
theorem mset_less {xs : List Int} {j : Nat} (h : xs.getD j 0 < minF xs j) (x : Int) : (false || decide (x = (j : Int))) = mset xs (j + 1) x := by
  have hm : minF xs (j + 1) = xs.getD j 0 := by rw [minF_succ]; omega
  by_cases e : x = (j : Int)
  · subst e
    simp only [mset, hm, Int.toNat_natCast]
    simp
  · simp only [mset, hm, e]
    simp only [Bool.false_or, decide_false]
    refine (decide_eq_false ?_).symm
    rintro ⟨a, b, c⟩
    have := minF_le (xs := xs) (j := j) (s := x.toNat) (by omega)
    omega
theorem mset_same {xs : List Int} {j : Nat} (h : xs.getD j 0 = minF xs j) (x : Int) : (mset xs j x || decide (x = (j : Int))) = mset xs (j + 1) x := by
  have hm : minF xs (j + 1) = minF xs j := by rw [minF_succ]; omega
  by_cases e : x = (j : Int)
  · subst e
    simp only [mset, hm, Int.toNat_natCast, h]
    simp
  · simp only [mset, hm, e, decide_false, Bool.or_false]
    exact decide_eq_decide.2 ⟨fun ⟨a, b, c⟩ => ⟨a, by omega, c⟩, fun ⟨a, b, c⟩ => ⟨a, by omega, c⟩⟩
theorem mset_more {xs : List Int} {j : Nat} (h : minF xs j < xs.getD j 0) (x : Int) : mset xs j x = mset xs (j + 1) x := by
  have hm : minF xs (j + 1) = minF xs j := by rw [minF_succ]; omega
  simp only [mset, hm]
  refine decide_eq_decide.2 ⟨fun ⟨a, b, c⟩ => ⟨a, by omega, c⟩, fun ⟨a, b, c⟩ => ⟨a, ?_, c⟩⟩
  by_cases e : x.toNat = j
  · rw [e] at c; omega
  · omega
theorem mset_args {xs : List Int} {x : Int} : mset xs xs.length x = true ↔ ∃ s ∈ args xs, x = ((s : Nat) : Int) := by
  simp only [mset, decide_eq_true_eq]
  constructor
  · rintro ⟨a, b, c⟩
    exact ⟨x.toNat, (argTo_mem xs.length).2 ⟨b, c⟩, by omega⟩
  · rintro ⟨s, hs, rfl⟩
    obtain ⟨a, b⟩ := (argTo_mem xs.length).1 hs
    exact ⟨by omega, by simpa using a, by rw [Int.toNat_natCast]; exact b⟩

/-! ### and, or of sets that come in whatever order -/
theorem andTo_bit (l : List Nat) (e : Nat) : ∀ k, k < l.length → ((andTo l k).testBit e = true ↔ ∀ i, i ≤ k → (l.getD i 0).testBit e = true)
  | 0, h => by
    show ((l.getD 0 0).testBit e = true) ↔ _
    exact ⟨fun a i hi => (show i = 0 by omega) ▸ a, fun a => a 0 (by omega)⟩
  | k + 1, h => by
    rw [andTo, Nat.testBit_and, Bool.and_eq_true, andTo_bit l e k (by omega)]
    constructor
    · rintro ⟨a, b⟩ i hi
      by_cases c : i = k + 1
      · subst c; exact b
      · exact a i (by omega)
    · exact fun a => ⟨fun i hi => a i (by omega), a _ (Nat.le_refl _)⟩
theorem orTo_bit (l : List Nat) (e : Nat) : ∀ k, k ≤ l.length → ((orTo l k).testBit e = true ↔ ∃ i, i < k ∧ (l.getD i 0).testBit e = true)
  | 0, h => by
    rw [orTo]
    simp
  | k + 1, h => by
    rw [orTo, Nat.testBit_or, Bool.or_eq_true, orTo_bit l e k (by omega)]
    constructor
    · rintro (⟨i, a, b⟩ | b)
      · exact ⟨i, by omega, b⟩
      · exact ⟨k, by omega, b⟩
    · rintro ⟨i, a, b⟩
      by_cases c : i = k
      · subst c; exact .inr b
      · exact .inl ⟨i, by omega, b⟩
/-- What the sets that have come have in common, of the elements of F. -/
def AndIs (F : Nat) (T left : Int → Bool) (a : Nat) : Prop := ∀ e, a.testBit e = true ↔ F.testBit e = true ∧ ∀ s : Nat, T s = true → left s = false → s.testBit e = true
/-- The union of the sets that have come. -/
def OrIs (T left : Int → Bool) (a : Nat) : Prop := ∀ e, a.testBit e = true ↔ ∃ s : Nat, T s = true ∧ left s = false ∧ s.testBit e = true
theorem and_start (F : Nat) (T : Int → Bool) : AndIs F T T F := fun e => ⟨fun h => ⟨h, fun s a b => by rw [a] at b; cases b⟩, fun h => h.1⟩
theorem or_start (T : Int → Bool) : OrIs T T 0 := fun e => ⟨fun h => by simp at h, fun ⟨s, a, b, _⟩ => by rw [a] at b; cases b⟩
theorem and_step {F a x : Nat} {T left : Int → Bool} (h : AndIs F T left a) (hx : T x = true) : AndIs F T (fun z => left z && !decide (z = (x : Int))) (a &&& x) := by
  intro e
  rw [Nat.testBit_and, Bool.and_eq_true, h e]
  constructor
  · rintro ⟨⟨a1, a2⟩, a3⟩
    refine ⟨a1, fun s hs hl => ?_⟩
    by_cases c : s = x
    · subst c; exact a3
    · have c2 : ¬ (s : Int) = (x : Int) := by omega
      simp only [c2, decide_false, Bool.not_false, Bool.and_true] at hl
      exact a2 s hs hl
  · rintro ⟨a1, a2⟩
    exact ⟨⟨a1, fun s hs hl => a2 s hs (by show (left s && _) = false; rw [hl]; rfl)⟩, a2 x hx (by simp)⟩
theorem or_step {a x : Nat} {T left : Int → Bool} (h : OrIs T left a) (hx : T x = true) : OrIs T (fun z => left z && !decide (z = (x : Int))) (a ||| x) := by
  intro e
  rw [Nat.testBit_or, Bool.or_eq_true, h e]
  constructor
  · rintro (⟨s, a1, a2, a3⟩ | b)
    · exact ⟨s, a1, by show (left s && _) = false; rw [a2]; rfl, a3⟩
    · exact ⟨x, hx, by simp, b⟩
  · rintro ⟨s, a1, a2, a3⟩
    by_cases c : s = x
    · subst c; exact .inr a3
    · have c2 : ¬ (s : Int) = (x : Int) := by omega
      simp only [c2, decide_false, Bool.not_false, Bool.and_true] at a2
      exact .inl ⟨s, a1, a2, a3⟩
theorem getD_memN {l : List Nat} {i : Nat} (h : i < l.length) : l.getD i 0 ∈ l := by
  rw [List.getD_eq_getElem?_getD, List.getElem?_eq_getElem h]
  exact List.getElem_mem h
theorem memN_getD {l : List Nat} {s : Nat} (h : s ∈ l) : ∃ i, i < l.length ∧ l.getD i 0 = s := by
  obtain ⟨i, hi, e⟩ := List.mem_iff_getElem.1 h
  exact ⟨i, hi, by rw [List.getD_eq_getElem?_getD, List.getElem?_eq_getElem hi]; exact e⟩
theorem and_end {xs : List Int} {N a : Nat} {left : Int → Bool} (hl : xs.length = 2 ^ N) (h : AndIs (2 ^ N - 1) (mset xs xs.length) left a) (h0 : ∀ x, left x = false) : a = andTo (args xs) ((args xs).length - 1) := by
  have hne : 0 < (args xs).length := args_ne (by rw [hl]; exact Nat.two_pow_pos N)
  refine Nat.eq_of_testBit_eq fun e => ?_
  rw [Bool.eq_iff_iff, h e, andTo_bit (args xs) e _ (by omega)]
  constructor
  · rintro ⟨-, a2⟩ i hi
    exact a2 _ (mset_args.2 ⟨_, getD_memN (by omega), rfl⟩) (h0 _)
  · intro a1
    have key : ∀ s ∈ args xs, s.testBit e = true := fun s hs => by
      obtain ⟨i, hi, rfl⟩ := memN_getD hs
      exact a1 i (by omega)
    refine ⟨?_, fun s hs _ => ?_⟩
    · have h0 := key _ (getD_memN hne)
      have hlt : (args xs).getD 0 0 < 2 ^ N := by rw [← hl]; exact args_lt (getD_memN hne)
      rw [Nat.testBit_two_pow_sub_one]
      refine decide_eq_true ?_
      by_cases c : e < N
      · exact c
      · rw [Nat.testBit_lt_two_pow (Nat.lt_of_lt_of_le hlt (Nat.pow_le_pow_right (by decide) (by omega)))] at h0
        cases h0
    · obtain ⟨t, ht, e2⟩ := mset_args.1 hs
      obtain rfl : s = t := by omega
      exact key s ht
theorem or_end {xs : List Int} {a : Nat} {left : Int → Bool} (h : OrIs (mset xs xs.length) left a) (h0 : ∀ x, left x = false) : a = orTo (args xs) (args xs).length := by
  refine Nat.eq_of_testBit_eq fun e => ?_
  rw [Bool.eq_iff_iff, h e, orTo_bit (args xs) e _ (Nat.le_refl _)]
  constructor
  · rintro ⟨s, hs, -, b⟩
    obtain ⟨t, ht, e2⟩ := mset_args.1 hs
    obtain rfl : s = t := by omega
    obtain ⟨i, hi, e3⟩ := memN_getD ht
    exact ⟨i, hi, by rw [e3]; exact b⟩
  · rintro ⟨i, hi, b⟩
    exact ⟨_, mset_args.2 ⟨_, getD_memN hi, rfl⟩, h0 _, b⟩
theorem and_lt32 {F a : Nat} {T left : Int → Bool} (h : AndIs F T left a) (hF : F < 32) : a < 32 := by
  refine Nat.lt_of_not_le fun hge => ?_
  obtain ⟨i, hi, hb⟩ := Nat.exists_ge_and_testBit_of_ge_two_pow (n := 5) hge
  have := ((h i).1 hb).1
  rw [Nat.testBit_lt_two_pow (Nat.lt_of_lt_of_le hF (Nat.pow_le_pow_right (n := 2) (i := 5) (by decide) hi))] at this
  cases this
theorem or_lt32 {a : Nat} {T left : Int → Bool} (h : OrIs T left a) (hT : ∀ s : Nat, T s = true → s < 32) : a < 32 := by
  refine Nat.lt_of_not_le fun hge => ?_
  obtain ⟨i, hi, hb⟩ := Nat.exists_ge_and_testBit_of_ge_two_pow (n := 5) hge
  obtain ⟨s, hs, -, h3⟩ := (h i).1 hb
  rw [Nat.testBit_lt_two_pow (Nat.lt_of_lt_of_le (hT s hs) (Nat.pow_le_pow_right (n := 2) (i := 5) (by decide) hi))] at h3
  cases h3

/-! ### what has been collected, sorted -/
def GotAll (T left : Int → Bool) (ys : List Int) : Prop := ys.Nodup ∧ ∀ x, x ∈ ys ↔ T x = true ∧ left x = false
theorem got_start (T : Int → Bool) : GotAll T T [] := ⟨List.nodup_nil, fun x => ⟨fun h => by simp at h, fun ⟨a, b⟩ => by rw [a] at b; cases b⟩⟩
theorem got_step {T left : Int → Bool} {ys : List Int} {x : Int} (h : GotAll T left ys) (hT : T x = true) (hl : left x = true) : GotAll T (fun z => left z && !decide (z = x)) (ys ++ [x]) := by
  have hx : ¬ x ∈ ys := fun hm => by have := ((h.2 x).1 hm).2; rw [hl] at this; cases this
  refine ⟨List.nodup_append.2 ⟨h.1, by simp, fun a ha b hb => ?_⟩, fun z => ?_⟩
  · rw [List.mem_singleton] at hb
    subst hb
    exact fun e => hx (e ▸ ha)
  · rw [List.mem_append, List.mem_singleton, h.2 z]
    by_cases e : z = x
    · subst e
      simp [hT]
    · simp [e]
theorem argTo_up (xs : List Int) (y : Int) : ∀ m, (argTo xs y m).Pairwise (fun a b => a < b)
  | 0 => .nil
  | m + 1 => by
    rw [argTo]
    split
    · refine List.pairwise_append.2 ⟨argTo_up xs y m, by simp, fun a ha b hb => ?_⟩
      rw [List.mem_singleton] at hb
      subst hb
      exact ((argTo_mem _).1 ha).1
    · exact argTo_up xs y m
theorem got_end {xs ys : List Int} {left : Int → Bool} (h : GotAll (mset xs xs.length) left ys) (h0 : ∀ x, left x = false) : ys.mergeSort (fun x y => decide (x ≤ y)) = nats (args xs) := by
  have up : (nats (args xs)).Pairwise (fun a b => a < b) := by
    unfold nats
    rw [List.pairwise_map]
    exact (argTo_up xs (least xs) xs.length).imp fun hab => by omega
  have hp : ys.Perm (nats (args xs)) := by
    refine (List.perm_ext_iff_of_nodup h.1 (up.imp fun hab => by omega)).2 fun x => ?_
    rw [h.2 x]
    unfold nats
    rw [List.mem_map, mset_args]
    exact ⟨fun ⟨⟨s, a, b⟩, _⟩ => ⟨s, a, b.symm⟩, fun ⟨s, a, b⟩ => ⟨⟨s, a, b.symm⟩, h0 x⟩⟩
  refine List.Perm.eq_of_pairwise (le := fun a b => decide (a ≤ b) = true) (fun a b _ _ h1 h2 => ?_) (List.pairwise_mergeSort (fun a b c h1 h2 => ?_) (fun a b => ?_) ys) (up.imp fun hab => ?_) ((List.mergeSort_perm _ _).trans hp)
  · simp only [decide_eq_true_eq] at h1 h2; omega
  · simp only [decide_eq_true_eq] at h1 h2 ⊢; omega
  · simp only [Bool.or_eq_true, decide_eq_true_eq]; omega
  · simp only [decide_eq_true_eq]; omega

end Go.Proofs.YtffbiflgmlabaaaGreatDoor.M
