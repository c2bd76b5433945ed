/-
  Plain mathematics of chapter 1 (decoding varints). Nothing of the translation.
-/
import Derived.Test.YtmpoonecobepcaaDoorMathV
import Derived.Laws.Strings
import Derived.WalkKit
namespace Go.Proofs.YtmpoonecobepcaaDoor.M
set_option linter.unusedVariables false

/-- The number that the low seven bits of little-endian bytes hold. -/
def leL : List UInt8 → Int
  | [] => 0
  | c :: l => (c.toNat : Int) % 128 + 128 * leL l

theorem leL_bd : ∀ l : List UInt8, 0 ≤ leL l ∧ leL l < 128 ^ l.length
  | [] => by simp [leL]
  | c :: l => by
    obtain ⟨a, b⟩ := leL_bd l
    have e : (128 : Int) ^ (l.length + 1) = 128 ^ l.length * 128 := Int.pow_succ ..
    simp only [leL, List.length_cons]
    omega

theorem leL_snoc : ∀ (l : List UInt8) (c : UInt8), leL (l ++ [c]) = leL l + (c.toNat : Int) % 128 * 128 ^ l.length
  | [], c => by simp [leL]
  | d :: l, c => by
    have e : (128 : Int) ^ (l.length + 1) = 128 ^ l.length * 128 := Int.pow_succ ..
    simp only [List.cons_append, leL, List.length_cons, leL_snoc l c, e]
    rw [Int.mul_add, Int.add_assoc]
    congr 2
    rw [← Int.mul_assoc, Int.mul_comm 128, Int.mul_assoc, Int.mul_comm 128]

theorem pow128_le {a b : Nat} (h : a ≤ b) : (128 : Int) ^ a ≤ 128 ^ b := by
  have := Nat.pow_le_pow_right (n := 128) (by decide) h
  exact_mod_cast this

/-- The k first bytes are a varint. -/
def OkAt (l : List UInt8) (k : Nat) : Prop := encV 6 (leL (l.take k)) = l.take k

/-- Bytes of which all but the last are at least 128. -/
def Good (l : List UInt8) : Prop := ∃ (pre : List UInt8) (c : UInt8), l = pre ++ [c] ∧ (∀ b ∈ pre, 128 ≤ b.toNat) ∧ c.toNat < 128

theorem good_encV (f : Nat) : ∀ n : Int, 0 ≤ n → n < 128 ^ (f + 1) → Good (encV f n) := by
  induction f with
  | zero =>
    intro n h0 h1
    have : n < 128 := by simpa using h1
    exact ⟨[], _, rfl, by simp, by have := back_u8 n h0 (by omega); omega⟩
  | succ f ih =>
    intro n h0 h1
    unfold encV
    by_cases h : 128 ≤ n
    · rw [if_pos h]
      have e : (128 : Int) ^ (f + 1 + 1) = 128 ^ (f + 1) * 128 := Int.pow_succ ..
      obtain ⟨pre, c, he, hp, hc⟩ := ih (n / 128) (by omega) (by omega)
      refine ⟨_ :: pre, c, by rw [he]; rfl, ?_, hc⟩
      intro b hb
      rcases List.mem_cons.1 hb with rfl | hb
      · have := back_u8 (n % 128 + 128) (by omega) (by omega); omega
      · exact hp b hb
    · rw [if_neg h]
      exact ⟨[], _, rfl, by simp, by have := back_u8 n h0 (by omega); omega⟩

theorem OkAt.bytes {s : ByteArray} {k : Nat} (h : OkAt s.data.toList k) (h1 : 1 ≤ k) (h7 : k ≤ 7) (hk : k ≤ s.size) :
    (∀ (j : Nat) (hj : j < s.size), j + 1 < k → 128 ≤ s[j].toNat) ∧ ∀ hj : k - 1 < s.size, (s[k - 1]).toNat < 128 := by
  have hs : s.data.toList.length = s.size := rfl
  have hl : (s.data.toList.take k).length = k := by rw [List.length_take]; omega
  obtain ⟨b0, b1⟩ := leL_bd (s.data.toList.take k)
  rw [hl] at b1
  have b2 : leL (s.data.toList.take k) < 128 ^ (6 + 1) := by
    have : (128 : Int) ^ k ≤ 128 ^ (6 + 1) := pow128_le h7
    omega
  obtain ⟨pre, c, he, hp, hc⟩ := good_encV 6 _ b0 b2
  rw [h] at he
  have hpl : pre.length = k - 1 := by
    have := congrArg List.length he
    rw [hl] at this; simp at this; omega
  have get : ∀ (j : Nat) (hj : j < s.size), j < k → (pre ++ [c])[j]? = some s[j] := by
    intro j hj hjk
    rw [← he, List.getElem?_take, if_pos hjk]
    simp [hj]
    rfl
  constructor
  · intro j hj hjk
    have := get j hj (by omega)
    rw [List.getElem?_append_left (by omega)] at this
    exact hp _ (List.mem_of_getElem? this)
  · intro hj
    have := get (k - 1) hj (by omega)
    rw [List.getElem?_append_right (by omega), show k - 1 - pre.length = 0 by omega] at this
    have e : c = s[k - 1] := by simpa using this
    rw [← e]
    exact hc

theorem OkAt.unique {s : ByteArray} {k j : Nat} (h : OkAt s.data.toList k) (g : OkAt s.data.toList j) (h1 : 1 ≤ k) (h7 : k ≤ 7) (hk : k ≤ s.size) (g1 : 1 ≤ j) (g7 : j ≤ 7) (gk : j ≤ s.size) : k = j := by
  obtain ⟨a, b⟩ := h.bytes h1 h7 hk
  obtain ⟨c, d⟩ := g.bytes g1 g7 gk
  rcases Nat.lt_trichotomy k j with l | l | l
  · have := c (k - 1) (by omega) (by omega); have := b (by omega); omega
  · exact l
  · have := a (j - 1) (by omega) (by omega); have := d (by omega); omega

theorem leL_take (s : ByteArray) (k : Nat) (h7 : k ≤ 7) (hk : k ≤ s.size) : 0 ≤ leL (s.data.toList.take k) ∧ leL (s.data.toList.take k) ≤ 562949953421311 ∧ leL (s.data.toList.take k) < 128 ^ k := by
  have hs : s.data.toList.length = s.size := rfl
  have hl : (s.data.toList.take k).length = k := by rw [List.length_take]; omega
  obtain ⟨b0, b1⟩ := leL_bd (s.data.toList.take k)
  rw [hl] at b1
  have : (128 : Int) ^ k ≤ 128 ^ (6 + 1) := pow128_le h7
  rw [pow7] at this
  exact ⟨b0, by omega, b1⟩

theorem leL_step (s : ByteArray) (k : Nat) (hk : k < s.size) : leL (s.data.toList.take (k + 1)) = leL (s.data.toList.take k) + (s[k].toNat : Int) % 128 * 128 ^ k := by
  have hs : s.data.toList.length = s.size := rfl
  have hl : (s.data.toList.take k).length = k := by rw [List.length_take]; omega
  rw [take_snoc s k hk, leL_snoc, hl]

/-- From the greatest byte down: what the bytes from i on of the first k hold. -/
def leD (s : ByteArray) (k i : Nat) : Int := leL ((s.data.toList.take k).drop i)
theorem leD_end (s : ByteArray) (k : Nat) : leD s k k = 0 := by
  unfold leD; rw [List.drop_of_length_le (by simp; omega)]; rfl
theorem leD_zero (s : ByteArray) (k : Nat) : leD s k 0 = leL (s.data.toList.take k) := rfl
theorem leD_step (s : ByteArray) (k i : Nat) (hi : i < k) (hk : k ≤ s.size) (hi' : i < s.size) : leD s k i = leD s k (i + 1) * 128 + (s[i].toNat : Int) % 128 := by
  unfold leD
  have hs : s.data.toList.length = s.size := rfl
  have hl : i < (s.data.toList.take k).length := by rw [List.length_take]; omega
  rw [List.drop_eq_getElem_cons hl]
  have e : (s.data.toList.take k)[i] = s[i] := by rw [List.getElem_take]; rfl
  rw [e]
  simp only [leL]
  omega
theorem leD_bd (s : ByteArray) (k i : Nat) (h7 : k ≤ 7) (hi : 1 ≤ i) : 0 ≤ leD s k i ∧ leD s k i ≤ 4398046511103 := by
  obtain ⟨b0, b1⟩ := leL_bd ((s.data.toList.take k).drop i)
  have hl : ((s.data.toList.take k).drop i).length ≤ 6 := by simp; omega
  have : (128 : Int) ^ ((s.data.toList.take k).drop i).length ≤ 128 ^ 6 := pow128_le hl
  have e : (128 : Int) ^ 6 = 4398046511104 := by decide
  exact ⟨b0, by unfold leD; omega⟩

theorem ext_list (s : ByteArray) (k : Nat) : (s.extract 0 k).toList = s.data.toList.take k := by
  rw [ByteArray.toList_eq]
  simp [ByteArray.data_extract]

theorem OkAt.test {s : ByteArray} {k : Nat} (h : OkAt s.data.toList k) : (encV 6 (leL (s.data.toList.take k)) == (s.extract 0 k).toList) = true := by
  rw [ext_list, h]; simp
theorem OkAt.untest {s : ByteArray} {k : Nat} (h : ¬ OkAt s.data.toList k) : (encV 6 (leL (s.data.toList.take k)) == (s.extract 0 k).toList) = false := by
  rw [ext_list]; simpa [OkAt] using h
theorem OkAt.ntest {s : ByteArray} {k : Nat} (h : OkAt s.data.toList k) : (!(encV 6 (leL (s.data.toList.take k)) == (s.extract 0 k).toList)) = false := by
  rw [h.test]; rfl
theorem OkAt.nuntest {s : ByteArray} {k : Nat} (h : ¬ OkAt s.data.toList k) : (!(encV 6 (leL (s.data.toList.take k)) == (s.extract 0 k).toList)) = true := by
  rw [OkAt.untest h]; rfl

end Go.Proofs.YtmpoonecobepcaaDoor.M
