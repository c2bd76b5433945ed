/-
  What a law knows of a memory that only grows: variables that hold functions, lists, and a fact T that stays; what the law of closures says, as plain mathematics.
-/
import Derived.Test.YtffbiflgmlabaaaGreatDoorDrA
import Derived.Test.YtffbiflgmlabaaaGreatDoorSubI
import Derived.Test.YtffbiflgmlabaaaGreatDoorSameI
import Derived.Test.YtffbiflgmlabaaaGreatDoorGain
import Derived.Test.YtffbiflgmlabaaaGreatDoorAllM
import Derived.Deep.DeepCutAuto
namespace Go.Proofs.YtffbiflgmlabaaaGreatDoor.M
set_option linter.unusedVariables false
theorem closure_pos {n : Int} {xs : List Int} {s : Int} (h : 0 ≤ closureOf n xs s) : isPoly n xs = true ∧ isSet n s = true := by
  unfold closureOf at h
  split at h
  · assumption
  · omega
/-- What the law asks of a closure. -/
theorem closure_facts {n : Int} {xs : List Int} {s : Int} (h : 0 ≤ closureOf n xs s) : ∃ C S : Nat, closureOf n xs s = (C : Int) ∧ s = (S : Int) ∧ C < 32 ∧ S < 32 ∧ C &&& S = S ∧ closureOf n xs (C : Int) = (C : Int) ∧ isFlat n xs (C : Int) = true ∧ valueOf n xs (C : Int) = valueOf n xs s := by
  obtain ⟨hp, hs⟩ := closure_pos h
  have hf : isFn n xs = true := by
    unfold isPoly isGround at hp
    simp only [Bool.and_eq_true] at hp
    exact hp.1.1
  obtain ⟨h0, h5, hl, -⟩ := isFn_yes hf
  obtain ⟨N, rfl⟩ := Int.eq_ofNat_of_zero_le h0
  obtain ⟨s0, s1⟩ := isSet_yes hs
  obtain ⟨S, rfl⟩ := Int.eq_ofNat_of_zero_le s0
  rw [Int.toNat_natCast] at s1
  have hp5 : 2 ^ N ≤ 2 ^ 5 := Nat.pow_le_pow_right (by decide) (by omega)
  have p := pol_of hp
  have hS : S < 2 ^ N := by omega
  have hC : clos N xs S < 2 ^ N := addZ_lt xs hS N (Nat.le_refl _)
  have hcl : closureOf (N : Int) xs (S : Int) = ((clos N xs S : Nat) : Int) := by
    unfold closureOf
    rw [if_pos ⟨hp, hs⟩, Int.toNat_natCast, Int.toNat_natCast]
  have hset : isSet (N : Int) ((clos N xs S : Nat) : Int) = true := by
    unfold isSet
    rw [Int.toNat_natCast]
    simp only [Bool.and_eq_true, decide_eq_true_eq]
    exact ⟨by omega, by exact_mod_cast hC⟩
  have hcc : closureOf (N : Int) xs ((clos N xs S : Nat) : Int) = ((clos N xs S : Nat) : Int) := by
    unfold closureOf
    rw [if_pos ⟨hp, hset⟩, Int.toNat_natCast, Int.toNat_natCast, p.clos_clos hS]
  refine ⟨clos N xs S, S, hcl, rfl, by omega, by omega, ?_, hcc, ?_, ?_⟩
  · apply Nat.eq_of_testBit_eq; intro q
    have := congrArg (fun x => x.testBit q) (addZ_sup xs S N)
    simp only [Nat.testBit_or] at this
    rw [Nat.testBit_and]
    unfold clos
    cases hq : S.testBit q
    · simp
    · rw [hq] at this; simpa using this.symm
  · unfold isFlat
    rw [hcc, decide_eq_true rfl, Bool.and_true]
    simp
  · unfold valueOf
    rw [if_pos ⟨hf, hset⟩, if_pos ⟨hf, hs⟩, Int.toNat_natCast, Int.toNat_natCast]
    exact p.addZ_val hS N (Nat.le_refl _)
theorem flatsTo_mem {n : Nat} {xs : List Int} {x : Int} : ∀ m, x ∈ flatsTo n xs m ↔ ∃ a : Nat, a < m ∧ x = (a : Int) ∧ clos n xs a = a
  | 0 => by simp [flatsTo]
  | m + 1 => by
    have ih := flatsTo_mem (n := n) (xs := xs) (x := x) m
    unfold flatsTo
    split
    · rename_i hm
      rw [List.mem_append, ih]
      constructor
      · rintro (⟨a, h1, h2, h3⟩ | h)
        · exact ⟨a, by omega, h2, h3⟩
        · have := List.mem_singleton.1 h
          exact ⟨m, by omega, this, hm⟩
      · rintro ⟨a, h1, h2, h3⟩
        by_cases e : a = m
        · subst e; exact .inr (by rw [h2]; simp)
        · exact .inl ⟨a, by omega, h2, h3⟩
    · rename_i hm
      rw [ih]
      constructor
      · rintro ⟨a, h1, h2, h3⟩; exact ⟨a, by omega, h2, h3⟩
      · rintro ⟨a, h1, h2, h3⟩
        by_cases e : a = m
        · subst e; exact absurd h3 hm
        · exact ⟨a, by omega, h2, h3⟩
/-- Two flats have a flat in common. -/
theorem flats_and {n : Int} {xs : List Int} {i k : Nat} (hi : i < (flatsOf n xs).1.length) (hk : k < (flatsOf n xs).1.length) :
    ∃ a b : Nat, (flatsOf n xs).1.getD i 0 = (a : Int) ∧ (flatsOf n xs).1.getD k 0 = (b : Int) ∧ a < 32 ∧ b < 32 ∧ ((a &&& b : Nat) : Int) ∈ (flatsOf n xs).1 := by
  have hmem : ∀ j, j < (flatsOf n xs).1.length → (flatsOf n xs).1.getD j 0 ∈ (flatsOf n xs).1 := fun j hj => by
    rw [List.getD_eq_getElem?_getD, List.getElem?_eq_getElem hj]
    exact List.getElem_mem hj
  have m1 := hmem i hi
  have m2 := hmem k hk
  generalize (flatsOf n xs).1.getD i 0 = x at m1 ⊢
  generalize (flatsOf n xs).1.getD k 0 = y at m2 ⊢
  clear hi hk hmem
  unfold flatsOf at m1 m2 ⊢
  by_cases hp : isPoly n xs = true
  · rw [if_pos hp] at m1 m2 ⊢
    have hf : isFn n xs = true := by
      unfold isPoly isGround at hp
      simp only [Bool.and_eq_true] at hp
      exact hp.1.1
    obtain ⟨h0, h5, hl, -⟩ := isFn_yes hf
    have hm32 := (isFn_len hf).2
    obtain ⟨N, rfl⟩ := Int.eq_ofNat_of_zero_le h0
    rw [Int.toNat_natCast] at hl
    have p := pol_of hp
    rw [show ((N : Int)).toNat = N from Int.toNat_natCast N] at m1 m2 ⊢
    obtain ⟨a, a1, rfl, a3⟩ := (flatsTo_mem _).1 m1
    obtain ⟨b, b1, rfl, b3⟩ := (flatsTo_mem _).1 m2
    refine ⟨a, b, rfl, rfl, by omega, by omega, (flatsTo_mem _).2 ⟨a &&& b, ?_, rfl, p.flat_and (by omega) (by omega) a3 b3⟩⟩
    exact Nat.lt_of_le_of_lt Nat.and_le_left a1
  · rw [if_neg hp] at m1
    cases m1
theorem flatsOf_len {n : Int} {xs : List Int} (h : xs.length ≤ 32) : (flatsOf n xs).1.length ≤ 32 := by
  unfold flatsOf
  split
  · exact Nat.le_trans (flatsTo_len _ _ _) h
  · exact Nat.zero_le _
theorem rest_law {n : Int} {xs : List Int} {s : Int} (hb : (restrictFn n xs s).2.2 = true) (h : isSub n xs = true) : isSub (restrictFn n xs s).1 (restrictFn n xs s).2.1 = true := by
  by_cases hh : isFn n xs = true ∧ isSet n s = true
  · exact restrict_sub h hh.2
  · unfold restrictFn at hb
    rw [if_neg hh] at hb
    cases hb
theorem cont_law {n : Int} {xs : List Int} {s : Int} (hb : (contractFn n xs s).2.2 = true) (h : isSub n xs = true) : isSub (contractFn n xs s).1 (contractFn n xs s).2.1 = true ∧ isGround (contractFn n xs s).1 (contractFn n xs s).2.1 = true := by
  by_cases hh : isFn n xs = true ∧ isSet n s = true
  · exact contract_sub h hh.2 hb
  · unfold contractFn at hb
    rw [if_neg hh] at hb
    cases hb
theorem opp_law {n : Int} {xs : List Int} (hb : (oppositeFn n xs).2.2 = true) : isSub (oppositeFn n xs).1 (oppositeFn n xs).2.1 = isSub n xs := by
  by_cases hh : isFn n xs = true
  · exact opposite_sub hh
  · unfold oppositeFn at hb
    rw [if_neg hh] at hb
    cases hb

end Go.Proofs.YtffbiflgmlabaaaGreatDoor.M
namespace Go.Proofs.YtffbiflgmlabaaaGreatDoor.C
open Go.RowKit M K
set_option linter.unusedVariables false
set_option linter.unusedSimpArgs false

/-- Variables (block, number, slice) and lists that stand so, and stay; a fact that stays. -/
structure Kc (T : World → Prop) (w0 w : World) (cs : List (Nat × Int × Value)) (ls : List (Option Addr × List Int)) : Prop where
  base : Below w0.heap.size w0 w
  cells : ∀ c ∈ cs, c.1 < w.heap.size ∧ w.cell? ⟨c.1, 0, none⟩ = some (.int .i64 c.2.1) ∧ w.cell? ⟨c.1, 1, none⟩ = some c.2.2
  lists : ∀ l ∈ ls, Ints w w.heap.size l.1 l.2
  fact : T w
  stay : ∀ W W', T W → Below W.heap.size W W' → T W'


section

variable {T : World → Prop} {w0 w w' : World} {cs : List (Nat × Int × Value)} {ls : List (Option Addr × List Int)}
theorem Kc.below (h : Kc T w0 w cs ls) (hb : Below w.heap.size w w') : Kc T w0 w' cs ls :=
  ⟨h.1.trans (hb.mono h.1.size), fun c hc => by
    obtain ⟨a, b, d⟩ := h.2 c hc
    exact ⟨Nat.lt_of_lt_of_le a hb.size, (hb.cell (p := ⟨c.1, 0, none⟩) a).trans b, (hb.cell (p := ⟨c.1, 1, none⟩) a).trans d⟩,
    fun l hl => ((h.3 l hl).below hb).mono hb.size, h.5 _ _ h.4 hb, h.5⟩
theorem Kc.drew (h : Kc T w0 w cs ls) : Kc T w0 w.drew cs ls := h.below (Below.refl _ _).drew
theorem Kc.drewN (h : Kc T w0 w cs ls) (n : Nat) : Kc T w0 (w.drewN n) cs ls := h.below (below_drewN (Below.refl _ _) n)
theorem Kc.box (h : Kc T w0 w cs ls) (n : Int) (v : Value) (t : TypeId) : Kc T w0 (w.alloc (.cells #[.int .i64 n, v] t)) ((w.heap.size, n, v) :: cs) ls := by
  have h2 := h.below ((Below.refl _ _).alloc (Nat.le_refl _) (.cells #[.int .i64 n, v] t))
  refine ⟨h2.1, fun c hc => ?_, h2.3, h2.4, h2.5⟩
  rcases List.mem_cons.1 hc with rfl | hc
  · exact ⟨by simp, by simp [World.cell?_alloc_new], by simp [World.cell?_alloc_new]⟩
  · exact h2.2 c hc
theorem Kc.put (h : Kc T w0 w cs ls) {A : Option Addr} {xs : List Int} (hi : Ints w w.heap.size A xs) : Kc T w0 w cs ((A, xs) :: ls) :=
  ⟨h.1, h.2, (fun l hl => by
    rcases List.mem_cons.1 hl with rfl | hl
    · exact hi
    · exact h.3 l hl), h.4, h.5⟩
theorem Kc.list (h : Kc T w0 w cs ls) (i : Nat) {A : Option Addr} {xs : List Int} (hi : ls[i]? = some (A, xs)) : Ints w w.heap.size A xs := h.3 _ (List.mem_of_getElem? hi)
theorem Kc.cell (h : Kc T w0 w cs ls) (i : Nat) {g : Nat} {n : Int} {v : Value} (hi : cs[i]? = some (g, n, v)) : w.cell? ⟨g, 0, none⟩ = some (.int .i64 n) ∧ w.cell? ⟨g, 1, none⟩ = some v := (h.2 _ (List.mem_of_getElem? hi)).2
theorem Kc.lt (h : Kc T w0 w cs ls) (i : Nat) {g : Nat} {n : Int} {v : Value} (hi : cs[i]? = some (g, n, v)) : g < w.heap.size := (h.2 _ (List.mem_of_getElem? hi)).1
theorem Kc.only (h : Kc T w0 w cs ls) (is js : List Nat) {cs' : List (Nat × Int × Value)} {ls' : List (Option Addr × List Int)} (h1 : is.map (fun i => cs[i]?) = cs'.map some) (h2 : js.map (fun i => ls[i]?) = ls'.map some) : Kc T w0 w cs' ls' := by
  refine ⟨h.1, fun c hc => ?_, fun l hl => ?_, h.4, h.5⟩
  · have : some c ∈ is.map (fun i => cs[i]?) := by rw [h1]; exact List.mem_map_of_mem hc
    obtain ⟨i, _, hi⟩ := List.mem_map.1 this
    exact h.2 c (List.mem_of_getElem? hi)
  · have : some l ∈ js.map (fun i => ls[i]?) := by rw [h2]; exact List.mem_map_of_mem hl
    obtain ⟨i, _, hi⟩ := List.mem_map.1 this
    exact h.3 l (List.mem_of_getElem? hi)

end

theorem and_two (S P : Nat) (hS : S < 4294967296) (hP : P < 4294967296) : bits .and .i64 (S : Int) (P : Int) = ((S &&& P : Nat) : Int) := by
  have hx : S &&& P < 2 ^ 32 := Nat.and_lt_two_pow _ (by omega)
  have ofI : ∀ a : Nat, a < 9223372036854775808 → (BitVec.ofInt 64 (a : Int)).toNat = a := fun a ha => by
    rw [BitVec.ofInt_natCast, BitVec.toNat_ofNat]; exact Nat.mod_eq_of_lt (by omega)
  show IntKind.i64.wrap ((BitVec.ofInt 64 (S : Int) &&& BitVec.ofInt 64 (P : Int)).toNat : Int) = _
  rw [BitVec.toNat_and, ofI S (by omega), ofI P (by omega), IntKind.wrap_i64]
  omega
theorem bytes_at5 {w w1 : World} {v : Value} {len : Nat} (h : Hid (Bytes w.heap.size w v len)) (hb : Below w.heap.size w w1) : Hid (Bytes w1.heap.size w1 v len) := Lib.hid (h.out.later hb)
theorem val_bd5 (n : Int) (xs : List Int) (s : Int) : -9999 ≤ valueOf n xs s ∧ valueOf n xs s ≤ 1000 := by
  unfold valueOf
  split
  · rename_i hh
    obtain ⟨hf, hs⟩ := hh
    obtain ⟨h0, h5, hl, hv⟩ := isFn_yes hf
    obtain ⟨s0, s1⟩ := isSet_yes hs
    have := hv s.toNat (by omega)
    omega
  · omega
theorem cell_facts {n : Int} {xs : List Int} {s : Int} (h : xs.length ≤ 32) : -1 ≤ closureOf n xs s ∧ closureOf n xs s < 32 := by
  by_cases h0 : 0 ≤ closureOf n xs s
  · obtain ⟨C, S, h1, h2, h3, -⟩ := closure_facts h0
    omega
  · unfold closureOf at h0 ⊢
    split at h0
    · omega
    · rename_i hh; rw [if_neg hh]; omega

end Go.Proofs.YtffbiflgmlabaaaGreatDoor.C
