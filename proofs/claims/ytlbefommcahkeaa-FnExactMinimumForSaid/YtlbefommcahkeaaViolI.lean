/-
  The contracts of impl's violates and ViolationOf.
-/
import Derived.Test.YtlbefommcahkeaaViol
import Derived.Test.YtlbefommcahkeaaIsFnI
namespace Go.Proofs.Ytlbefommcahkeaa.C
open Go.RowKit K M
set_option linter.unusedVariables false
set_option linter.unusedSimpArgs false

theorem or_in {s i : Nat} (h : s.testBit i = true) : s ||| 2 ^ i = s := by
  apply Nat.eq_of_testBit_eq
  intro j
  rw [Nat.testBit_or, Nat.testBit_two_pow]
  by_cases e : i = j
  · subst e; simp [h]
  · simp [e]
theorem or_swap (s i k : Nat) : s ||| 2 ^ i ||| 2 ^ k = s ||| 2 ^ k ||| 2 ^ i := by
  apply Nat.eq_of_testBit_eq
  intro j
  simp only [Nat.testBit_or]
  cases s.testBit j <;> cases (2 ^ i).testBit j <;> cases (2 ^ k).testBit j <;> rfl
/-- The test without a look at whether the elements are in the set. -/
theorem bad_plain (xs : List Int) (s i k : Nat) : decide (xs.getD (s ||| 2 ^ i) 0 + xs.getD (s ||| 2 ^ k) 0 < xs.getD (s ||| 2 ^ i ||| 2 ^ k) 0 + xs.getD s 0) = bad xs s i k := by
  unfold bad
  cases h1 : s.testBit i
  · cases h2 : s.testBit k
    · simp
    · rw [or_swap, or_in h2]
      simp
  · rw [or_in h1]
    simp
    omega

set_option maxRecDepth 100000 in
set_option maxHeartbeats 1600000 in
theorem vioI_any (A : Option Addr) (xs : List Int) (cap s i k n : Nat) (w : World) (h : Hid (Ints w w.heap.size A xs)) (hf : isFn (n : Int) xs = true) (hs : s < xs.length) (hi : i < n) (hk : k < n) :
    Calls Try.prog 48 #[.agg #[.int .i64 n, .slice A xs.length cap], .int .i64 s, .int .i64 i, .int .i64 k] w (RetV w (.bool (bad xs s i k))) := by
  rw [← bad_plain]
  have HW := Lib.hid (St.start w)
  obtain ⟨h0, h5, hl, hv⟩ := isFn_yes hf
  rw [Int.toNat_natCast] at hl
  have hm := (isFn_len hf).2
  have hsn : s < 2 ^ n := by omega
  have hin : 2 ^ i < 2 ^ n := Nat.pow_lt_pow_right (by decide) hi
  have hkn : 2 ^ k < 2 ^ n := Nat.pow_lt_pow_right (by decide) hk
  have a1 := Nat.or_lt_two_pow hsn hin
  have a2 := Nat.or_lt_two_pow hsn hkn
  have a3 := Nat.or_lt_two_pow a1 hkn
  rw [← hl] at a1 a2 a3
  have q1 : ∀ W, Calls Try.prog 44 #[.int .i64 s, .int .i64 i] W fun e' w' => e' = .returned (.int .i64 (s ||| 2 ^ i : Nat)) ∧ W = w' := fun W => with_any (s : Int) (i : Int) W (by omega) (by omega) (by omega) (by omega)
  have q2 : ∀ W, Calls Try.prog 44 #[.int .i64 s, .int .i64 k] W fun e' w' => e' = .returned (.int .i64 (s ||| 2 ^ k : Nat)) ∧ W = w' := fun W => with_any (s : Int) (k : Int) W (by omega) (by omega) (by omega) (by omega)
  have q3 : ∀ W, Calls Try.prog 44 #[.int .i64 (s ||| 2 ^ i : Nat), .int .i64 k] W fun e' w' => e' = .returned (.int .i64 (s ||| 2 ^ i ||| 2 ^ k : Nat)) ∧ W = w' := fun W => with_any ((s ||| 2 ^ i : Nat) : Int) (k : Int) W (by omega) (by omega) (by omega) (by omega)
  obtain ⟨b, off, rfl, hbl, hc⟩ := h.out (by omega)
  have c0 := hc s hs
  have c1 := hc _ a1
  have c2 := hc _ a2
  have c3 := hc _ a3
  obtain ⟨u0, v0⟩ := hv s hs
  obtain ⟨u1, v1⟩ := hv _ a1
  obtain ⟨u2, v2⟩ := hv _ a2
  obtain ⟨u3, v3⟩ := hv _ a3
  clear hc hv hl hsn hin hkn hf
  generalize s ||| 2 ^ i ||| 2 ^ k = j3 at *
  generalize s ||| 2 ^ i = j1 at *
  generalize s ||| 2 ^ k = j2 at *
  have Q1 := Lib.hid q1
  have Q2 := Lib.hid q2
  have Q3 := Lib.hid q3
  generalize xs.getD s 0 = x0 at *
  generalize xs.getD j1 0 = x1 at *
  generalize xs.getD j2 0 = x2 at *
  generalize xs.getD j3 0 = x3 at *
  generalize xs.length = m at *
  have s0 : (0 : Int) ≤ (s : Int) := by omega
  have s1 : (s : Int) < (m : Int) := by omega
  have t1 : (j1 : Int) < (m : Int) := by omega
  have t2 : (j2 : Int) < (m : Int) := by omega
  have t3 : (j3 : Int) < (m : Int) := by omega
  have p1 : (0 : Int) ≤ (j1 : Int) := by omega
  have p2 : (0 : Int) ≤ (j2 : Int) := by omega
  have p3 : (0 : Int) ≤ (j3 : Int) := by omega
  have w1 : IntKind.i64.wrap (x1 + x2) = x1 + x2 := IntWalk.i64_in _ (by omega)
  have w2 : IntKind.i64.wrap (x3 + x0) = x3 + x0 := IntWalk.i64_in _ (by omega)
  clear h q1 q2 q3
  go_enter Try.func48, Try.ntmps48
  go_wp2
  go_quiet ((go_at_call 44; first | exact quiet_left (Q1.out _) | exact quiet_left (Q2.out _) | exact quiet_left (Q3.out _) | exact quiet_add_left (Q1.out _) | exact quiet_add_left (Q2.out _) | exact quiet_add_left (Q3.out _)))
  go_wp2
  go_ret
  exact ⟨rfl, ((HW.out.alloc _ _).drewN _).base⟩


end Go.Proofs.Ytlbefommcahkeaa.C
