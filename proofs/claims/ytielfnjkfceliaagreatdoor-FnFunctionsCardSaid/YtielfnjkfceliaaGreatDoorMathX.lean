/-
  Plain mathematics of chapter 1 (hexadecimal digits read back). Nothing of the translation.
-/
import Derived.Test.YtielfnjkfceliaaGreatDoorMathH
import Derived.Test.YtielfnjkfceliaaGreatDoorKit
namespace Go.Proofs.YtielfnjkfceliaaGreatDoor.M
open K
set_option linter.unusedVariables false

/-- What a character is worth as a hexadecimal digit; -1 for none. -/
def hv (x : Int) : Int := if 48 ≤ x ∧ x ≤ 57 then x - 48 else if 97 ≤ x ∧ x ≤ 102 then x - 87 else -1
theorem hv_bd (x : Int) : -1 ≤ hv x ∧ hv x ≤ 15 := by unfold hv; split <;> (try split) <;> omega
theorem hv_high (x : Int) (h : 128 ≤ x) : hv x = -1 := by unfold hv; rw [if_neg (by omega), if_neg (by omega)]

theorem hv_dg_all : ∀ k : Fin 16, hv ((dg k.val).toNat : Int) = (k.val : Int) := by decide
theorem hv_dg (k : Nat) (h : k < 16) : hv ((dg k).toNat : Int) = (k : Int) := hv_dg_all ⟨k, h⟩
theorem dg_hv_all : ∀ n : Fin 256, 0 ≤ hv (n.val : Int) → ((dg (hv (n.val : Int)).toNat).toNat : Int) = (n.val : Int) := by decide +kernel
theorem dg_hv (x : Int) (h0 : 0 ≤ x) (h1 : x ≤ 255) (h : 0 ≤ hv x) : ((dg (hv x).toNat).toNat : Int) = x := by
  obtain ⟨n, rfl⟩ := Int.eq_ofNat_of_zero_le h0
  exact dg_hv_all ⟨n, by omega⟩ h

/-- Byte i. -/
def bt (s : ByteArray) (i : Nat) : Int := if h : i < s.size then (s[i].toNat : Int) else 0
theorem bt_at (s : ByteArray) (i : Nat) (h : i < s.size) : bt s i = (s[i].toNat : Int) := by unfold bt; rw [dif_pos h]
theorem bt_bd (s : ByteArray) (i : Nat) : 0 ≤ bt s i ∧ bt s i ≤ 255 := by
  unfold bt; split
  · rename_i h; have := s[i].toNat_lt; omega
  · omega

def AllHex (s : ByteArray) (i : Nat) : Prop := ∀ j, j < i → 0 ≤ hv (bt s j)
theorem AllHex.zero (s : ByteArray) : AllHex s 0 := fun j h => absurd h (by omega)
theorem AllHex.succ {s : ByteArray} {i : Nat} (h : AllHex s i) (h1 : 0 ≤ hv (bt s i)) : AllHex s (i + 1) := fun j hj => by
  rcases Nat.lt_or_ge j i with l | l
  · exact h j l
  · obtain rfl : j = i := by omega
    exact h1
theorem AllHex.not {s : ByteArray} {i k : Nat} (h1 : hv (bt s i) < 0) (hi : i < k) : ¬ AllHex s k := fun h => by have := h i hi; omega

/-- What the cell j holds behind i bytes. -/
def cellV (s : ByteArray) (i j : Nat) : Int := if 2 * j + 1 < i then 16 * hv (bt s (2 * j)) + hv (bt s (2 * j + 1)) else if 2 * j < i then hv (bt s (2 * j)) else 0
def hexRow (s : ByteArray) (m i : Nat) : List Value := (List.range m).map fun j => .int .u8 (cellV s i j)
theorem hexRow_length (s : ByteArray) (m i : Nat) : (hexRow s m i).length = m := by simp [hexRow]

theorem cellV_now (s : ByteArray) (i : Nat) (h : AllHex s i) : 0 ≤ cellV s i (i / 2) ∧ cellV s i (i / 2) ≤ 15 := by
  unfold cellV
  rw [if_neg (by omega)]
  split
  · rename_i h2
    have := h (2 * (i / 2)) h2
    have := hv_bd (bt s (2 * (i / 2)))
    omega
  · omega

theorem hexRow_step (s : ByteArray) (m i : Nat) (h : i < 2 * m) :
    (hexRow s m i).set (i / 2) (.int .u8 (cellV s i (i / 2) * 16 + hv (bt s i))) = hexRow s m (i + 1) := by
  apply List.ext_getElem
  · simp [hexRow]
  · intro j h1 h2
    have hj : j < m := by simpa [hexRow] using h2
    rw [List.getElem_set]
    simp only [hexRow, List.getElem_map, List.getElem_range]
    by_cases e : i / 2 = j
    · rw [if_pos e]
      subst e
      congr 1
      rcases Nat.mod_two_eq_zero_or_one i with p | p
      · have e2 : 2 * (i / 2) = i := by omega
        unfold cellV
        rw [e2, if_neg (by omega), if_neg (by omega), if_neg (by omega), if_pos (by omega)]
        omega
      · have e2 : 2 * (i / 2) + 1 = i := by omega
        unfold cellV
        rw [e2, if_neg (by omega), if_pos (by omega), if_pos (by omega)]
        omega
    · rw [if_neg e]
      congr 1
      unfold cellV
      by_cases a : 2 * j + 1 < i
      · rw [if_pos a, if_pos (by omega)]
      · by_cases b : 2 * j < i
        · omega
        · rw [if_neg a, if_neg b, if_neg (by omega), if_neg (by omega)]

/-- The bytes of m pairs of digits. -/
def unhex (s : ByteArray) (m : Nat) : List UInt8 := (List.range m).map fun j => UInt8.ofNat (16 * hv (bt s (2 * j)) + hv (bt s (2 * j + 1))).toNat
theorem unhex_length (s : ByteArray) (m : Nat) : (unhex s m).length = m := by simp [unhex]
theorem unhex_succ (s : ByteArray) (m : Nat) : unhex s (m + 1) = unhex s m ++ [UInt8.ofNat (16 * hv (bt s (2 * m)) + hv (bt s (2 * m + 1))).toNat] := by
  simp [unhex, List.range_succ]

theorem hexRow_end (s : ByteArray) (m : Nat) (h : AllHex s (2 * m)) : hexRow s m (2 * m) = cellsOf (unhex s m) := by
  unfold hexRow unhex cellsOf
  rw [List.map_map]
  apply List.map_congr_left
  intro j hj
  have hj' : j < m := by simpa using hj
  have h1 := h (2 * j) (by omega)
  have h2 := h (2 * j + 1) (by omega)
  have b1 := hv_bd (bt s (2 * j))
  have b2 := hv_bd (bt s (2 * j + 1))
  simp only [Function.comp]
  unfold cellV
  rw [if_pos (by omega), back_u8 _ (by omega) (by omega)]

instance (s : ByteArray) (i : Nat) : Decidable (AllHex s i) := by unfold AllHex; infer_instance
/-- Is every character a digit, and their number even? -/
def dhB (s : ByteArray) : Bool := decide (s.size % 2 = 0 ∧ AllHex s s.size)
/-- What DecodeHex gives. -/
def dhS (s : ByteArray) : ByteArray := if dhB s then ⟨(unhex s (s.size / 2)).toArray⟩ else ⟨#[]⟩
theorem dh_yes {s : ByteArray} (h0 : s.size % 2 = 0) (h : AllHex s s.size) : dhB s = true ∧ dhS s = ⟨(unhex s (s.size / 2)).toArray⟩ := by
  have : dhB s = true := by unfold dhB; exact decide_eq_true ⟨h0, h⟩
  exact ⟨this, by unfold dhS; rw [this]; rfl⟩
theorem dh_no {s : ByteArray} (h : ¬ (s.size % 2 = 0 ∧ AllHex s s.size)) : dhB s = false ∧ dhS s = ⟨#[]⟩ := by
  have : dhB s = false := by unfold dhB; exact decide_eq_false h
  exact ⟨this, by unfold dhS; rw [this]; rfl⟩

end Go.Proofs.YtielfnjkfceliaaGreatDoor.M
