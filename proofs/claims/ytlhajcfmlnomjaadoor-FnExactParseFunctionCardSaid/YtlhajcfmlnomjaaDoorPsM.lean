/-
  The parts of a text between commas, and the function of a text, as plain mathematics.
-/
import Derived.Lib.Split
import Derived.Lib.BitFns
import Derived.Test.YtlhajcfmlnomjaaDoorMathP
import Derived.Test.YtlhajcfmlnomjaaDoorFnM
namespace Go.Proofs.YtlhajcfmlnomjaaDoor.M
open Go.Lib (index count splitK)
set_option linter.unusedVariables false

/-- The parts of l, the first one begun by acc. -/
def cutC (acc : List UInt8) : List UInt8 → List (List UInt8)
  | [] => [acc]
  | c :: r => if c = 44 then acc :: cutC [] r else cutC (acc ++ [c]) r
def parts (l : List UInt8) : List (List UInt8) := cutC [] l

theorem cutC_no {l : List UInt8} (acc : List UInt8) (h : (44 : UInt8) ∉ l) : cutC acc l = [acc ++ l] := by
  induction l generalizing acc with
  | nil => simp [cutC]
  | cons c r ih =>
    have hc : ¬ c = 44 := fun e => h (by simp [e])
    rw [cutC, if_neg hc, ih _ (fun e => h (List.mem_cons_of_mem _ e))]
    simp
theorem cutC_at (acc p r : List UInt8) (h : (44 : UInt8) ∉ p) : cutC acc (p ++ 44 :: r) = (acc ++ p) :: cutC [] r := by
  induction p generalizing acc with
  | nil => simp [cutC]
  | cons c p ih =>
    have hc : ¬ c = 44 := fun e => h (by simp [e])
    rw [List.cons_append, cutC, if_neg hc, ih _ (fun e => h (List.mem_cons_of_mem _ e))]
    simp
theorem cutC_len (acc l : List UInt8) : 1 ≤ (cutC acc l).length ∧ (cutC acc l).length ≤ l.length + 1 := by
  induction l generalizing acc with
  | nil => simp [cutC]
  | cons c r ih =>
    rw [cutC]
    split
    · have := ih []; simp only [List.length_cons]; omega
    · have := ih (acc ++ [c]); simp only [List.length_cons]; omega
theorem cutC_each (acc l : List UInt8) : ∀ x ∈ cutC acc l, x.length ≤ acc.length + l.length := by
  induction l generalizing acc with
  | nil => intro x hx; simp [cutC] at hx; subst hx; simp
  | cons c r ih =>
    intro x hx
    rw [cutC] at hx
    split at hx
    · rcases List.mem_cons.1 hx with rfl | hx
      · simp
      · have := ih [] x hx; simp at this ⊢; omega
    · have := ih (acc ++ [c]) x hx; simp at this ⊢; omega
theorem index_no {l : List UInt8} (h : (44 : UInt8) ∉ l) : index l [44] = -1 := by
  induction l with
  | nil => rfl
  | cons c r ih =>
    have hc : ¬ (44 : UInt8) = c := fun e => h (by simp [e])
    have := ih (fun e => h (List.mem_cons_of_mem _ e))
    unfold index
    rw [this]
    simp [List.isPrefixOf, hc]
theorem index_at (p r : List UInt8) (h : (44 : UInt8) ∉ p) : index (p ++ 44 :: r) [44] = (p.length : Int) := by
  induction p with
  | nil => simp [index, List.isPrefixOf]
  | cons c p ih =>
    have hc : ¬ (44 : UInt8) = c := fun e => h (by simp [e])
    have := ih (fun e => h (List.mem_cons_of_mem _ e))
    rw [List.cons_append]
    unfold index
    rw [this]
    have h2 : ¬ ((p.length : Int) = -1) := by omega
    simp [List.isPrefixOf, hc, h2]
/-- strings.Split at a comma. -/
theorem split_parts : ∀ (n : Nat) (l : List UInt8), l.length ≤ n → splitK [44] 0 (count l [44]) l = parts l ∧ count l [44] + 1 = (parts l).length
  | n, l, hn => by
    by_cases hm : (44 : UInt8) ∈ l
    · obtain ⟨p, r, rfl, hp⟩ := List.eq_append_cons_of_mem hm
      have hi := index_at p r hp
      have hd : (p ++ 44 :: r).drop (p.length + 1) = r := by simp
      have hc : count (p ++ 44 :: r) [44] = count r [44] + 1 := by
        rw [Go.Lib.count_hit (by simp) hi]
        simp only [List.length_cons, List.length_nil, Nat.zero_add, hd]
        omega
      have hlt : r.length < n := by simp at hn; omega
      obtain ⟨ih, ih2⟩ := split_parts (n - 1) r (by omega)
      rw [hc, splitK, hi, if_neg (by simp)]
      simp only [Int.toNat_natCast, Nat.add_zero, List.length_cons, List.length_nil, Nat.zero_add, hd, ih]
      unfold parts at ih2 ⊢
      rw [cutC_at [] p r hp]
      refine ⟨by simp, ?_⟩
      rw [List.length_cons, ih2]
    · rw [Go.Lib.count_miss (index_no hm)]
      unfold parts
      rw [cutC_no [] hm]
      exact ⟨rfl, rfl⟩
termination_by n => n

/-- The function of a text: number, values, whether. -/
def parseFn (l : List UInt8) : Int × List Int × Bool :=
  if l.length ≤ 200 ∧ (parts l).all piB = true then made ((Nat.log2 (parts l).length : Nat) : Int) ((parts l).map piR) else (0, [], false)
theorem parseFn_len (l : List UInt8) : (parseFn l).2.1.length ≤ 32 := by
  unfold parseFn; split <;> first | exact made_len _ _ | exact Nat.zero_le _
theorem parse_long {l : List UInt8} (h : 200 < l.length) : parseFn l = (0, [], false) := if_neg (fun hh => by omega)
theorem parse_bad {l : List UInt8} {D R : List (List UInt8)} {acc : List UInt8} (h : D ++ acc :: R = parts l) (hb : piB acc = false) : parseFn l = (0, [], false) := by
  refine if_neg fun hh => ?_
  have := List.all_eq_true.1 hh.2 acc (by rw [← h]; simp)
  rw [hb] at this
  cases this
theorem parse_made {l : List UInt8} (hl : l.length ≤ 200) (ha : (parts l).all piB = true) {n : Nat} (hn : (parts l).length = 2 ^ n) : parseFn l = made (n : Int) ((parts l).map piR) := by
  unfold parseFn
  rw [if_pos ⟨hl, ha⟩, hn, Nat.log2_two_pow]
theorem parse_none {l : List UInt8} (h : ∀ n, n ≤ 5 → (parts l).length ≠ 2 ^ n) : parseFn l = (0, [], false) := by
  unfold parseFn
  split
  · unfold made
    rw [if_neg]
    intro hf
    obtain ⟨h0, h5, hlen, _⟩ := isFn_yes hf
    rw [List.length_map] at hlen
    exact h _ (by omega) hlen
  · rfl
theorem bitLen_log : ∀ k, k < 256 → k ≠ 0 → Go.Lib.bitLen k = Nat.log2 k + 1 := by decide +kernel
theorem parts_len (l : List UInt8) : 1 ≤ (parts l).length ∧ (parts l).length ≤ l.length + 1 := cutC_len [] l

end Go.Proofs.YtlhajcfmlnomjaaDoor.M
