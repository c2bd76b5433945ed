/-
  The text of a function as plain mathematics: its values in decimal, with commas between.
-/
import Derived.Lib.Join
import Derived.Test.YtielfnjkfceliaaGreatDoorMathF
import Derived.Test.YtielfnjkfceliaaGreatDoorFnM
namespace Go.Proofs.YtielfnjkfceliaaGreatDoor.M
open Go.Lib (itoa join joinTail)
set_option linter.unusedVariables false

/-- The text of the first k values. -/
def txt (xs : List Int) (k : Nat) : List UInt8 := join ((xs.take k).map itoa) [44]
theorem txt_zero (xs : List Int) : txt xs 0 = [] := by simp [txt, Go.Lib.join_nil]
theorem txt_one (xs : List Int) (h : 0 < xs.length) : txt xs 1 = itoa (xs.getD 0 0) := by
  cases xs with
  | nil => simp at h
  | cons x r => simp [txt, Go.Lib.join_one]
theorem txt_succ (xs : List Int) (k : Nat) (h : k < xs.length) (h0 : 0 < k) : txt xs (k + 1) = txt xs k ++ [44] ++ itoa (xs.getD k 0) := by
  cases xs with
  | nil => simp at h
  | cons x r =>
    obtain ⟨j, rfl⟩ : ∃ j, k = j + 1 := ⟨k - 1, by omega⟩
    have hj : j < r.length := by simpa using h
    unfold txt
    rw [List.take_succ_cons, List.take_succ_cons, List.map_cons, List.map_cons, Go.Lib.join_cons, Go.Lib.join_cons]
    have e : (r.take (j + 1)).map itoa = (r.map itoa).take (j + 1) := by rw [List.map_take]
    have e2 : (r.take j).map itoa = (r.map itoa).take j := by rw [List.map_take]
    rw [e, e2, Go.Lib.joinTail_take_succ [44] (r.map itoa) j (itoa r[j]) (by simp [hj])]
    simp [hj]
theorem itoa_small : ∀ k : Nat, k < 2001 → (itoa ((k : Int) - 1000)).length ≤ 5 := by decide +kernel
theorem itoa_le {x : Int} (h1 : -1000 ≤ x) (h2 : x ≤ 1000) : (itoa x).length ≤ 5 := by
  have := itoa_small (x + 1000).toNat (by omega)
  rwa [show (((x + 1000).toNat : Nat) : Int) - 1000 = x by omega] at this
theorem txt_len {xs : List Int} (hv : ∀ k, k < xs.length → -1000 ≤ xs.getD k 0 ∧ xs.getD k 0 ≤ 1000) : ∀ k, k ≤ xs.length → (txt xs k).length ≤ 6 * k
  | 0, _ => by simp [txt_zero]
  | 1, h => by
    rw [txt_one xs h]
    have := itoa_le (hv 0 h).1 (hv 0 h).2
    omega
  | k + 2, h => by
    rw [txt_succ xs (k + 1) (by omega) (by omega)]
    have := itoa_le (hv (k + 1) (by omega)).1 (hv (k + 1) (by omega)).2
    have := txt_len hv (k + 1) (by omega)
    simp only [List.length_append, List.length_cons, List.length_nil]
    omega
/-- The text of a function; none if it is none. -/
def fmtFn (n : Int) (xs : List Int) : List UInt8 := if isFn n xs = true then txt xs xs.length else []

end Go.Proofs.YtielfnjkfceliaaGreatDoor.M
