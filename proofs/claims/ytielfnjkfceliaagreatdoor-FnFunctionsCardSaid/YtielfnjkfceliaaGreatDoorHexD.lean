/-
  The contracts of spec.DecodeHex and of what it calls; of impl.digitOf.
-/
import Derived.Test.YtielfnjkfceliaaGreatDoorMathX
import Derived.Test.YtielfnjkfceliaaGreatDoorHexE
namespace Go.Proofs.YtielfnjkfceliaaGreatDoor.C
open Go.RowKit M K
set_option linter.unusedVariables false

theorem ret_i64 {a b : Int} (h : b = a) : Ending.returned (.int .i64 a) = .returned (.int .i64 b) := by rw [h]

/-- A rune's worth as a digit. -/
theorem digitOf_any (x : Int) (w : World) (h0 : -2147483648 ≤ x) (h1 : x ≤ 2147483647) : Calls Tryz.prog 75 #[.int .i32 x] w fun e w' => e = .returned (.int .i64 (hv x)) ∧ w = w' := by
  by_cases a1 : 48 ≤ x
  · by_cases a2 : x ≤ 57
    · go_enter Tryz.func75, Tryz.ntmps75
      go_wp2
      go_ret
      exact ⟨ret_i64 (by unfold hv; rw [if_pos ⟨a1, a2⟩]), rfl⟩
    · by_cases a3 : 97 ≤ x
      · by_cases a4 : x ≤ 102
        · go_enter Tryz.func75, Tryz.ntmps75
          go_wp2
          go_ret
          exact ⟨ret_i64 (a := x - 97 + 10) (by unfold hv; rw [if_neg (by omega), if_pos ⟨a3, a4⟩]; omega), rfl⟩
        · go_enter Tryz.func75, Tryz.ntmps75
          go_wp2
          go_ret
          exact ⟨ret_i64 (by unfold hv; rw [if_neg (by omega), if_neg (by omega)]), rfl⟩
      · go_enter Tryz.func75, Tryz.ntmps75
        go_wp2
        go_ret
        exact ⟨ret_i64 (by unfold hv; rw [if_neg (by omega), if_neg (by omega)]), rfl⟩
  · have a3 : ¬ 97 ≤ x := by omega
    go_enter Tryz.func75, Tryz.ntmps75
    go_wp2
    go_ret
    exact ⟨ret_i64 (by unfold hv; rw [if_neg (by omega), if_neg (by omega)]), rfl⟩

end Go.Proofs.YtielfnjkfceliaaGreatDoor.C
