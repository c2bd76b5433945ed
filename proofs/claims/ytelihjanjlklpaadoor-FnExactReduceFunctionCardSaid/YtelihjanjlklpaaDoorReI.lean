/-
  The contracts of impl.functionOn and of the closures of chapter 5.
-/
import Derived.Test.YtelihjanjlklpaaDoorPts
import Derived.Test.YtelihjanjlklpaaDoorMakeOn
import Derived.Test.YtelihjanjlklpaaDoorSizeI
import Derived.Test.YtelihjanjlklpaaDoorReM
import Derived.Test.YtelihjanjlklpaaDoorVal
namespace Go.Proofs.YtelihjanjlklpaaDoor.C
open Go.RowKit K M
set_option linter.unusedVariables false
set_option linter.unusedSimpArgs false

theorem compl_val : ∀ n : Nat, n < 6 → ∀ s : Nat, s < 2 ^ n → bits .xor .i64 (s : Int) (((2 ^ n : Nat) : Int) - 1) = ((compl n s : Nat) : Int) := by decide +kernel

theorem complI (N S : Nat) (w : World) (h5 : N ≤ 5) (hS : S < 2 ^ N) : Calls Tryd.prog 57 #[.int .i64 S, .int .i64 N] w fun e w' => e = .returned (.int .i64 (compl N S : Nat)) ∧ w = w' := by
  have hx := compl_val N (by omega) S hS
  have hsh := shl_one (n := (N : Int)) (m := 2 ^ N) (by omega) (by omega) (by rw [Int.toNat_natCast])
  rw [Int.toNat_natCast] at hsh
  generalize compl N S = q at hx ⊢
  have hp32 : 2 ^ N ≤ 32 := Nat.le_trans (Nat.pow_le_pow_right (by decide) h5) (by decide)
  have hp1 : 1 ≤ 2 ^ N := Nat.two_pow_pos N
  generalize 2 ^ N = p at hx hsh hp32 hp1
  have hN : (0 : Int) ≤ (N : Int) := by omega
  clear hS
  go_enter Tryd.func57, Tryd.ntmps57
  go_wp2
  go_ret
  exact ⟨rfl, rfl⟩

theorem gives_left {P : Program} {f : FuncId} {args : Array Value} {w : World} {n : Nat} {x : Int} (h : Calls P f args (w.drewN n) (Gives (w.drewN n) x)) :
    Calls P f args (w.drewN n) fun e w'' => e = .returned (.int .i64 x) ∧ ∃ m, w'' = w.drewN m :=
  h.mono fun _ _ ⟨he, q, hq⟩ => ⟨he, n + q, by rw [← hq]; simp [World.drewN, Nat.add_assoc]⟩

theorem or_num : ∀ S : Nat, S < 32 → ∀ T : Nat, T < 32 → bits .or .i64 (T : Int) (S : Int) = ((S ||| T : Nat) : Int) := by decide +kernel

end Go.Proofs.YtelihjanjlklpaaDoor.C
