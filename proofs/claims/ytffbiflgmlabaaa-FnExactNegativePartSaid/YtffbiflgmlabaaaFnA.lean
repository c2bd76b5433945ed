/-
  The contracts of spec.IsFunction and of what it calls.
  The contracts of impl.IsFunction.
-/
import Derived.Test.YtffbiflgmlabaaaSt
import Derived.Test.YtffbiflgmlabaaaAllM
namespace Go.Proofs.Ytffbiflgmlabaaa.C
open Go.RowKit K M
set_option linter.unusedVariables false
set_option linter.unusedSimpArgs false

theorem in_yes (x a b : Int) (w : World) (h1 : a ≤ x) (h2 : x ≤ b) : Calls Try.prog 10 #[.int .i64 x, .int .i64 a, .int .i64 b] w fun e w' => e = .returned (.bool true) ∧ w = w' := by
  go_enter Try.func10, Try.ntmps10
  go_wp2
  go_ret
  exact ⟨rfl, rfl⟩

theorem in_no (x a b : Int) (w : World) (h : x < a ∨ b < x) : Calls Try.prog 10 #[.int .i64 x, .int .i64 a, .int .i64 b] w fun e w' => e = .returned (.bool false) ∧ w = w' := by
  by_cases h1 : x < a
  · clear h
    go_enter Try.func10, Try.ntmps10
    go_wp2
    go_ret
    exact ⟨rfl, rfl⟩
  · have h2 : ¬ x ≤ b := by omega
    have h3 : a ≤ x := by omega
    have h4 : decide (x ≤ b) = false := by simpa using h2
    clear h h1
    go_enter Try.func10, Try.ntmps10
    go_wp2
    go_ret
    exact ⟨rfl, rfl⟩

/-- '1 << n' as the walk spells it. -/
theorem shl_one {n : Int} {m : Nat} (h0 : 0 ≤ n) (h5 : n ≤ 60) (hm : m = 2 ^ n.toNat) : wrap64 (2 ^ n.toNat) = (m : Int) := by
  have h : 2 ^ n.toNat ≤ 2 ^ 60 := Nat.pow_le_pow_right (by omega) (by omega)
  have hb : (2 : Int) ^ n.toNat ≤ 2 ^ 60 := by exact_mod_cast h
  have hb' : (0 : Int) ≤ (2 : Int) ^ n.toNat := by exact_mod_cast Nat.zero_le (2 ^ n.toNat)
  have e : wrap64 ((2 : Int) ^ n.toNat) = (2 : Int) ^ n.toNat := by unfold wrap64; omega
  rw [e, hm]
  simp

theorem quiet_left {P : Program} {f : FuncId} {args : Array Value} {w : World} {n : Nat} {v : Value}
    (h : Calls P f args (w.drewN n) fun e w' => e = .returned v ∧ w.drewN n = w') : Calls P f args (w.drewN n) fun e w'' => e = .returned v ∧ ∃ m, w'' = w.drewN m :=
  h.mono fun _ _ ⟨he, hm⟩ => ⟨he, n, hm.symm⟩
theorem quiet_add_left {P : Program} {f : FuncId} {args : Array Value} {w : World} {a n : Nat} {v : Value}
    (h : Calls P f args (w.drewN (a + n)) fun e w' => e = .returned v ∧ w.drewN (a + n) = w') : Calls P f args (w.drewN (a + n)) fun e w'' => e = .returned v ∧ ∃ m, w'' = w.drewN (a + m) :=
  h.mono fun _ _ ⟨he, hm⟩ => ⟨he, n, hm.symm⟩

end Go.Proofs.Ytffbiflgmlabaaa.C

namespace Go.Proofs.Ytffbiflgmlabaaa.C
open Go.RowKit K M
set_option linter.unusedVariables false
set_option linter.unusedSimpArgs false

end Go.Proofs.Ytffbiflgmlabaaa.C
