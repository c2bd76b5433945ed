/-
  The contracts of spec's chapter 3: violations, submodular and increasing functions.
-/
import Derived.Test.YtffbiflgmlabaaaGreatDoorVal
import Derived.Test.YtffbiflgmlabaaaGreatDoorAllM
namespace Go.Proofs.YtffbiflgmlabaaaGreatDoor.C
open Go.RowKit K M
set_option linter.unusedVariables false
set_option linter.unusedSimpArgs false

/-- A place of a set, asked for as 's>>i&1': as the walk spells it. -/
theorem bit_val (s i : Nat) (hs : s < 4294967296) : bits .and .i64 ((s : Int) / 2 ^ i) 1 = if s.testBit i = true then 1 else 0 := by
  have e : ((s : Int) / 2 ^ i) = ((s / 2 ^ i : Nat) : Int) := by simp
  have hle : s / 2 ^ i ≤ s := Nat.div_le_self _ _
  have h1 : (BitVec.ofInt 64 1).toNat = 2 ^ 1 - 1 := by decide
  have ofI : (BitVec.ofInt 64 ((s / 2 ^ i : Nat) : Int)).toNat = s / 2 ^ i := by
    rw [BitVec.ofInt_natCast, BitVec.toNat_ofNat]; exact Nat.mod_eq_of_lt (by omega)
  rw [e]
  show IntKind.i64.wrap ((BitVec.ofInt 64 ((s / 2 ^ i : Nat) : Int) &&& BitVec.ofInt 64 1).toNat : Int) = _
  rw [BitVec.toNat_and, ofI, h1, Nat.and_two_pow_sub_one_eq_mod, IntKind.wrap_i64, Nat.testBit_eq_decide_div_mod_eq]
  by_cases h : s / 2 ^ i % 2 = 1
  · simp [h]
  · have h0 : s / 2 ^ i % 2 = 0 := by omega
    simp [h0]
theorem or_nat (s i : Nat) (hs : s < 4294967296) (hi : i ≤ 30) : bits .or .i64 (s : Int) (wrap64 (2 ^ i)) = ((s ||| 2 ^ i : Nat) : Int) := by
  have := or_shl (s := (s : Int)) (e := (i : Int)) (by omega) (by omega) (by omega) (by omega)
  simpa [withE] using this

set_option maxRecDepth 100000 in
set_option maxHeartbeats 1600000 in
theorem badS_any (A : Option Addr) (xs : List Int) (cap s i k n : Nat) (w : World) (h : Hid (Ints w w.heap.size A xs)) (hf : isFn (n : Int) xs = true) (hs : s < xs.length) (hi : i < n) (hk : k < n) :
    Calls Tryz.prog 31 #[.slice A xs.length cap, .int .i64 s, .int .i64 i, .int .i64 k] w fun e w' => e = .returned (.bool (decide (xs.getD (s ||| 2 ^ i) 0 + xs.getD (s ||| 2 ^ k) 0 < xs.getD (s ||| 2 ^ i ||| 2 ^ k) 0 + xs.getD s 0))) ∧ ∃ q, w.drewN q = w' := by
  obtain ⟨h0, h5, hl, hv⟩ := isFn_yes hf
  rw [Int.toNat_natCast] at hl
  have hm := (isFn_len hf).2
  have hsn : s < 2 ^ n := by omega
  have hin : 2 ^ i < 2 ^ n := Nat.pow_lt_pow_right (by decide) hi
  have hkn : 2 ^ k < 2 ^ n := Nat.pow_lt_pow_right (by decide) hk
  have a1 := Nat.or_lt_two_pow hsn hin
  have a2 := Nat.or_lt_two_pow hsn hkn
  have a3 := Nat.or_lt_two_pow a1 hkn
  rw [← hl] at a1 a2 a3
  have o1 := or_nat s i (by omega) (by omega)
  have o2 := or_nat s k (by omega) (by omega)
  have o3 := or_nat (s ||| 2 ^ i) k (by omega) (by omega)
  obtain ⟨b, off, rfl, hbl, hc⟩ := h.out (by omega)
  have c0 := hc s hs
  have c1 := hc _ a1
  have c2 := hc _ a2
  have c3 := hc _ a3
  obtain ⟨u0, v0⟩ := hv s hs
  obtain ⟨u1, v1⟩ := hv _ a1
  obtain ⟨u2, v2⟩ := hv _ a2
  obtain ⟨u3, v3⟩ := hv _ a3
  clear hc hv hl hsn hin hkn hf
  generalize s ||| 2 ^ i ||| 2 ^ k = j3 at *
  generalize s ||| 2 ^ i = j1 at *
  generalize s ||| 2 ^ k = j2 at *
  generalize xs.getD s 0 = x0 at *
  generalize xs.getD j1 0 = x1 at *
  generalize xs.getD j2 0 = x2 at *
  generalize xs.getD j3 0 = x3 at *
  generalize xs.length = m at *
  have s0 : (0 : Int) ≤ (s : Int) := by omega
  have s1 : (s : Int) < (m : Int) := by omega
  have t1 : (j1 : Int) < (m : Int) := by omega
  have t2 : (j2 : Int) < (m : Int) := by omega
  have t3 : (j3 : Int) < (m : Int) := by omega
  have p1 : (0 : Int) ≤ (j1 : Int) := by omega
  have p2 : (0 : Int) ≤ (j2 : Int) := by omega
  have p3 : (0 : Int) ≤ (j3 : Int) := by omega
  have i0 : (0 : Int) ≤ (i : Int) := by omega
  have i1 : (i : Int) ≤ 5 := by omega
  have k0 : (0 : Int) ≤ (k : Int) := by omega
  have k1 : (k : Int) ≤ 5 := by omega
  have w1 : IntKind.i64.wrap (x1 + x2) = x1 + x2 := IntWalk.i64_in _ (by omega)
  have w2 : IntKind.i64.wrap (x3 + x0) = x3 + x0 := IntWalk.i64_in _ (by omega)
  clear h
  go_enter Tryz.func31, Tryz.ntmps31
  go_wp2
  go_quiet (fail)
  go_wp2
  go_ret
  exact ⟨rfl, _, rfl⟩

end Go.Proofs.YtffbiflgmlabaaaGreatDoor.C
