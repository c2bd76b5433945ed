/-
  Plain mathematics of chapter 1: each decoder is the inverse of its encoder. Nothing of the translation.
-/
import Derived.Test.YtmpoonecobepcaaDoorMathD
import Derived.Test.YtmpoonecobepcaaDoorMathP
namespace Go.Proofs.YtmpoonecobepcaaDoor.M
open Go.Lib (decDigits itoa nDigits)
open K
set_option linter.unusedVariables false

theorem leL_encV (f : Nat) : ∀ n : Int, 0 ≤ n → n < 128 ^ (f + 1) → leL (encV f n) = n := by
  induction f with
  | zero =>
    intro n h0 h1
    have h2 : n < 128 := by simpa using h1
    show (((UInt8.ofNat n.toNat).toNat : Int)) % 128 + 128 * 0 = n
    rw [back_u8 n h0 (by omega)]; omega
  | succ f ih =>
    intro n h0 h1
    have e : (128 : Int) ^ (f + 1 + 1) = 128 ^ (f + 1) * 128 := Int.pow_succ ..
    unfold encV
    by_cases h : 128 ≤ n
    · rw [if_pos h]
      simp only [leL]
      rw [ih (n / 128) (by omega) (by omega), back_u8 _ (by omega) (by omega)]
      omega
    · rw [if_neg h]
      show (((UInt8.ofNat n.toNat).toNat : Int)) % 128 + 128 * 0 = n
      rw [back_u8 n h0 (by omega)]; omega
theorem encV_len (f : Nat) : ∀ n : Int, 1 ≤ (encV f n).length ∧ (encV f n).length ≤ f + 1 := by
  induction f with
  | zero => intro n; exact ⟨Nat.le_refl _, Nat.le_refl _⟩
  | succ f ih =>
    intro n
    unfold encV
    split
    · have := ih (n / 128); simp; omega
    · simp

/-- A varint, whatever follows, is a varint. -/
theorem var_ok (n : Int) (h0 : 0 ≤ n) (h1 : n ≤ 562949953421311) (l : List UInt8) :
    OkAt (encV 6 n ++ l) (encV 6 n).length ∧ leL ((encV 6 n ++ l).take (encV 6 n).length) = n := by
  have e : (encV 6 n ++ l).take (encV 6 n).length = encV 6 n := List.take_left' rfl
  have h := leL_encV 6 n h0 (by rw [pow7]; omega)
  constructor
  · unfold OkAt; rw [e, h]
  · rw [e, h]

theorem decL_cons (c : UInt8) (l : List UInt8) : decL (c :: l) = (c.toNat : Int) * 256 ^ l.length + decL l := by
  have key : ∀ (l : List UInt8) (a : Int), l.foldl (fun a c => a * 256 + (c.toNat : Int)) a = a * 256 ^ l.length + decL l := by
    intro l
    induction l with
    | nil => intro a; simp [decL]
    | cons d l ih =>
      intro a
      have e : (256 : Int) ^ (l.length + 1) = 256 ^ l.length * 256 := Int.pow_succ ..
      simp only [List.foldl_cons, List.length_cons, decL]
      rw [ih, ih, e, Int.add_mul, Int.zero_mul, Int.zero_add, Int.mul_assoc, Int.mul_comm (256 : Int), Int.add_assoc]
  have := key l (c.toNat : Int)
  simpa [decL] using this
theorem mod_split (n p : Int) (h : 0 ≤ n) (hp : 0 ≤ p) : n / p % 256 * p + n % p = n % (p * 256) := by
  obtain ⟨k, rfl⟩ := Int.eq_ofNat_of_zero_le h
  obtain ⟨q, rfl⟩ := Int.eq_ofNat_of_zero_le hp
  have h2 : ((k % (q * 256) : Nat) : Int) = ((k % q + q * (k / q % 256) : Nat) : Int) := by rw [Nat.mod_mul]
  have h3 : ((k / q % 256 * q + k % q : Nat) : Int) = ((k % (q * 256) : Nat) : Int) := by rw [h2, Nat.mul_comm q, Nat.add_comm]
  have e256 : ((256 : Nat) : Int) = 256 := rfl
  rw [Int.natCast_add, Int.natCast_mul, Int.natCast_emod, Int.natCast_emod, Int.natCast_emod, Int.natCast_ediv, Int.natCast_mul, e256] at h3
  exact h3
theorem decL_beL (n : Int) (h : 0 ≤ n) (m : Nat) : decL (beL n m) = n % 256 ^ m := by
  induction m with
  | zero => simp [beL, decL]
  | succ m ih =>
    have hp : (0 : Int) < 256 ^ m := Int.pow_pos (by decide)
    have e : (256 : Int) ^ (m + 1) = 256 ^ m * 256 := Int.pow_succ ..
    unfold beL
    rw [decL_cons, beL_length, ih, byte_back, e]
    exact mod_split n _ h (Int.le_of_lt hp)
theorem fix_ok (n : Int) (m : Nat) (h : 0 ≤ n) (h0 : n / 256 ^ m = 0) (l : List UInt8) : decL ((beL n m ++ l).take m) = n := by
  rw [List.take_left' (beL_length n m), decL_beL n h]
  have hp : (0 : Int) < 256 ^ m := Int.pow_pos (by decide)
  have h2 := Int.emod_add_mul_ediv n (256 ^ m)
  rw [h0] at h2
  omega

theorem hex_get (l : List UInt8) : ∀ (j : Nat) (h : j < l.length), (hexL l)[2 * j]? = some (dg (l[j].toNat / 16)) ∧ (hexL l)[2 * j + 1]? = some (dg (l[j].toNat % 16)) := by
  induction l with
  | nil => intro j h; simp at h
  | cons c l ih =>
    intro j h
    have e : hexL (c :: l) = dg (c.toNat / 16) :: dg (c.toNat % 16) :: hexL l := rfl
    rw [e]
    cases j with
    | zero => exact ⟨rfl, rfl⟩
    | succ j =>
      obtain ⟨a, b⟩ := ih j (by simpa using h)
      have e1 : 2 * (j + 1) = 2 * j + 1 + 1 := by omega
      rw [e1]
      exact ⟨by simpa using a, by simpa using b⟩

theorem hex_back (l : List UInt8) : dhB ⟨(hexL l).toArray⟩ = true ∧ dhS ⟨(hexL l).toArray⟩ = ⟨l.toArray⟩ := by
  have hs : (⟨(hexL l).toArray⟩ : ByteArray).size = 2 * l.length := by
    show (hexL l).toArray.size = _
    rw [List.size_toArray, hexL_length]
  have hb : ∀ (j : Nat) (h : j < l.length), bt ⟨(hexL l).toArray⟩ (2 * j) = ((dg (l[j].toNat / 16)).toNat : Int) ∧ bt ⟨(hexL l).toArray⟩ (2 * j + 1) = ((dg (l[j].toNat % 16)).toNat : Int) := by
    intro j h
    obtain ⟨a, b⟩ := hex_get l j h
    have get : ∀ (i : Nat) (c : UInt8), (hexL l)[i]? = some c → bt ⟨(hexL l).toArray⟩ i = (c.toNat : Int) := by
      intro i c hc
      obtain ⟨hi, hv⟩ := List.getElem?_eq_some_iff.1 hc
      have hi2 : i < (⟨(hexL l).toArray⟩ : ByteArray).size := by rw [hs, ← hexL_length]; exact hi
      rw [bt_at _ i hi2]
      show (((hexL l).toArray[i]'_).toNat : Int) = _
      rw [List.getElem_toArray, hv]
    exact ⟨get _ _ a, get _ _ b⟩
  have hv1 : ∀ (j : Nat) (h : j < l.length), hv (bt ⟨(hexL l).toArray⟩ (2 * j)) = ((l[j].toNat / 16 : Nat) : Int) ∧ hv (bt ⟨(hexL l).toArray⟩ (2 * j + 1)) = ((l[j].toNat % 16 : Nat) : Int) := by
    intro j h
    have hc := l[j].toNat_lt
    rw [(hb j h).1, (hb j h).2, hv_dg _ (by omega), hv_dg _ (by omega)]
    exact ⟨rfl, rfl⟩
  have hall : AllHex ⟨(hexL l).toArray⟩ (2 * l.length) := by
    intro i hi
    rcases Nat.mod_two_eq_zero_or_one i with p | p
    · have := (hv1 (i / 2) (by omega)).1
      rw [show 2 * (i / 2) = i by omega] at this
      omega
    · have := (hv1 (i / 2) (by omega)).2
      rw [show 2 * (i / 2) + 1 = i by omega] at this
      omega
  obtain ⟨a, b⟩ := dh_yes (s := ⟨(hexL l).toArray⟩) (by rw [hs]; omega) (by rw [hs]; exact hall)
  refine ⟨a, ?_⟩
  rw [b, hs, show 2 * l.length / 2 = l.length by omega]
  have : unhex ⟨(hexL l).toArray⟩ l.length = l := by
    apply List.ext_getElem
    · rw [unhex_length]
    · intro j h1 h2
      simp only [unhex, List.getElem_map, List.getElem_range]
      rw [(hv1 j h2).1, (hv1 j h2).2]
      have : (16 * ((l[j].toNat / 16 : Nat) : Int) + ((l[j].toNat % 16 : Nat) : Int)).toNat = l[j].toNat := by omega
      rw [this]
      exact UInt8.ofNat_toNat
  rw [this]

theorem dec_len (k : Nat) : ∀ m : Nat, m < 10 ^ (k + 1) → (decDigits m).length ≤ k + 1 := by
  induction k with
  | zero => intro m h; rw [Lib.decDigits_one (by simpa using h)]; simp
  | succ k ih =>
    intro m h
    rw [dec_snoc]
    split
    · simp
    · have e : 10 ^ (k + 1 + 1) = 10 ^ (k + 1) * 10 := Nat.pow_succ ..
      have := ih (m / 10) (by omega)
      simp; omega

/-- A numeral is read back exactly if it has at most nine digits. -/
theorem pi_itoa (n : Int) : piB (itoa n) = decide (-1000000000 < n ∧ n < 1000000000) ∧ (piB (itoa n) = true → piR (itoa n) = n) := by
  obtain ⟨a, b, c, d⟩ := itoa_read n
  have hN : piN (itoa n) = n := by
    unfold piN
    by_cases h : n < 0
    · rw [if_pos (a.2 h), b]; omega
    · rw [if_neg (fun g => h (a.1 g)), b]; omega
  obtain ⟨p0, p1, p2⟩ := pv_bd _ (itoa n) rfl
  have e9 : (10 : Int) ^ 9 = 1000000000 := by decide
  by_cases hr : -1000000000 < n ∧ n < 1000000000
  · have hk : pvK (itoa n) ≤ 9 ∧ (itoa n).length ≤ 10 := by
      by_cases h : n < 0
      · have e : itoa n = 45 :: decDigits n.natAbs := by unfold itoa; rw [if_pos h]
        have hl := dec_len 8 n.natAbs (by have : (10 : Nat) ^ (8 + 1) = 1000000000 := by decide
                                          omega)
        rw [if_pos (a.2 h)] at c
        have : (itoa n).length = (decDigits n.natAbs).length + 1 := by rw [e]; simp
        omega
      · have e : itoa n = decDigits n.toNat := by unfold itoa; rw [if_neg h]
        have hl := dec_len 8 n.toNat (by have : (10 : Nat) ^ (8 + 1) = 1000000000 := by decide
                                         omega)
        rw [if_neg (fun g => h (a.1 g))] at c
        have : (itoa n).length = (decDigits n.toNat).length := by rw [e]
        omega
    obtain ⟨x, y⟩ := pi_yes (l := itoa n) hk.1 hk.2 (by rw [hN])
    rw [x]
    exact ⟨(decide_eq_true hr).symm, fun _ => by rw [y, hN]⟩
  · have hno : ¬ (pvK (itoa n) ≤ 9 ∧ (itoa n).length ≤ 10 ∧ itoa (piN (itoa n)) = itoa n) := by
      intro h
      have := pow10_le h.1
      omega
    obtain ⟨x, y⟩ := pi_no hno
    rw [x]
    exact ⟨(decide_eq_false hr).symm, fun h => by cases h⟩

end Go.Proofs.YtmpoonecobepcaaDoor.M
