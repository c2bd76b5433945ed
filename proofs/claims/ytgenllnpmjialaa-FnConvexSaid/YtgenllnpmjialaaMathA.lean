/-
  Plain mathematics of chapter 1 (fixed width numbers): what the encoders and decoders compute, on lists of bytes. Nothing of the translation.
-/
import Derived.Below
import Derived.Laws.BitsLemmas
set_option linter.unusedVariables false
namespace Go.Proofs.Ytgenllnpmjialaa.M

/-- The number that big-endian bytes hold. -/
def decL (l : List UInt8) : Int := l.foldl (fun a c => a * 256 + (c.toNat : Int)) 0

theorem decL_snoc (l : List UInt8) (c : UInt8) : decL (l ++ [c]) = decL l * 256 + (c.toNat : Int) := by
  simp [decL, List.foldl_append]

theorem decL_bd (k : Nat) : ∀ l : List UInt8, l.length = k → 0 ≤ decL l ∧ decL l < 256 ^ k := by
  induction k with
  | zero => intro l h; have : l = [] := List.eq_nil_of_length_eq_zero h; subst this; exact ⟨by decide, by decide⟩
  | succ k ih =>
    intro l h
    obtain ⟨l', c, rfl⟩ : ∃ l' c, l = l' ++ [c] := ⟨l.dropLast, l.getLast (by intro e; simp [e] at h), (List.dropLast_concat_getLast _).symm⟩
    have hl : l'.length = k := by simpa using h
    obtain ⟨a, b⟩ := ih l' hl
    have hc : (c.toNat : Int) < 256 := by have := c.toNat_lt; omega
    rw [decL_snoc]
    have e : (256 : Int) ^ (k + 1) = 256 ^ k * 256 := Int.pow_succ ..
    omega

theorem take_snoc (s : ByteArray) (k : Nat) (h : k < s.size) : s.data.toList.take (k + 1) = s.data.toList.take k ++ [s[k]] := by
  rw [List.take_succ_eq_append_getElem (by simpa using h)]; rfl

theorem pow_le (k : Nat) (h : k ≤ 6) : (256 : Int) ^ k ≤ 281474976710656 := by
  have : k = 0 ∨ k = 1 ∨ k = 2 ∨ k = 3 ∨ k = 4 ∨ k = 5 ∨ k = 6 := by omega
  rcases this with rfl | rfl | rfl | rfl | rfl | rfl | rfl <;> decide

theorem decL_take (s : ByteArray) (k : Nat) (h : k < s.size) (h7 : k < 7) :
    0 ≤ decL (s.data.toList.take k) ∧ decL (s.data.toList.take k) ≤ 281474976710655 ∧ (s[k].toNat : Int) ≤ 255 ∧
    decL (s.data.toList.take (k + 1)) = decL (s.data.toList.take k) * 256 + (s[k].toNat : Int) := by
  have hs : s.data.toList.length = s.size := rfl
  have hl : (s.data.toList.take k).length = k := by rw [List.length_take]; omega
  obtain ⟨a, b⟩ := decL_bd k _ hl
  have c := pow_le k (by omega)
  have d := s[k].toNat_lt
  refine ⟨a, by omega, by omega, ?_⟩
  rw [take_snoc s k h, decL_snoc]

/-- Joining a byte below a number that ends in a zero byte is adding it. -/
theorem or_byte (x c : Int) (h0 : 0 ≤ x) (h1 : x ≤ 281474976710655) (h2 : 0 ≤ c) (h3 : c ≤ 255) : bits .or .i64 (x * 256) c = x * 256 + c :=
  bits_join .i64 62 (by decide) (fun n a b => by rw [IntKind.wrap_i64]; omega) 8 _ _ (by omega) (by omega) (by omega) h2 (by omega) (by omega)

/-- The last k bytes of a number, the greatest first. -/
def beL (n : Int) : Nat → List UInt8
  | 0 => []
  | k + 1 => UInt8.ofNat ((n / 256 ^ k) % 256).toNat :: beL n k

/-- What EncodeFixed gives for a width from 1 to 7 and a number from 0 on. -/
def efL (n : Int) (m : Nat) : List UInt8 := if n / 256 ^ m = 0 then beL n m else []

theorem beL_length (n : Int) (k : Nat) : (beL n k).length = k := by
  induction k with
  | zero => rfl
  | succ k ih => simp [beL, ih]

theorem quo_bd (n : Int) (k : Nat) (h : 0 ≤ n) : 0 ≤ n / 256 ^ k ∧ n / 256 ^ k ≤ n ∧ n / 256 ^ (k + 1) = n / 256 ^ k / 256 := by
  have hp : (0 : Int) < 256 ^ k := Int.pow_pos (by decide)
  refine ⟨Int.ediv_nonneg h (Int.le_of_lt hp), Int.ediv_le_self _ h, ?_⟩
  rw [Int.pow_succ, Int.ediv_ediv_of_nonneg (Int.le_of_lt hp)]

theorem two_pow (k : Nat) : (2 : Int) ^ (8 * k) = 256 ^ k := by
  rw [show (256 : Int) = 2 ^ 8 by decide, ← Int.pow_mul]

theorem byte_back (x : Int) : ((UInt8.ofNat (x % 256).toNat).toNat : Int) = x % 256 := by
  have : (UInt8.ofNat (x % 256).toNat).toNat = (x % 256).toNat % 256 := UInt8.toNat_ofNat'
  omega

/-- Storing the next byte from the right. -/
theorem set_next {α : Type} (m k : Nat) (z v : α) (l : List α) (h : k < m) :
    (List.replicate (m - k) z ++ l).set (m - 1 - k) v = List.replicate (m - (k + 1)) z ++ v :: l := by
  obtain ⟨d, hd⟩ : ∃ d, m - k = d + 1 := ⟨m - k - 1, by omega⟩
  have e1 : m - 1 - k = d := by omega
  have e2 : m - (k + 1) = d := by omega
  rw [hd, e1, e2, List.replicate_succ', List.append_assoc, List.set_append_right _ _ (by simp)]
  simp


end Go.Proofs.Ytgenllnpmjialaa.M
