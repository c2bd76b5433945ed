/-
  The contracts of spec.SizeFunction and spec.IsConcaveList and of what they call.
-/
import Derived.Test.YtelihjanjlklpaaDoorMkM
import Derived.Test.YtelihjanjlklpaaDoorFunS
import Derived.Test.YtelihjanjlklpaaDoorSub
namespace Go.Proofs.YtelihjanjlklpaaDoor.C
open Go.RowKit K M
set_option linter.unusedVariables false
set_option linter.unusedSimpArgs false

theorem and_one (X : Nat) (hX : X < 4294967296) : bits .and .i64 (X : Int) 1 = ((X % 2 : Nat) : Int) := by
  have h1 : (BitVec.ofInt 64 1).toNat = 2 ^ 1 - 1 := by decide
  have ofI : (BitVec.ofInt 64 (X : Int)).toNat = X := by
    rw [BitVec.ofInt_natCast, BitVec.toNat_ofNat]; exact Nat.mod_eq_of_lt (by omega)
  show IntKind.i64.wrap ((BitVec.ofInt 64 (X : Int) &&& BitVec.ofInt 64 1).toNat : Int) = _
  rw [BitVec.toNat_and, ofI, h1, Nat.and_two_pow_sub_one_eq_mod, IntKind.wrap_i64]
  omega

set_option maxRecDepth 100000 in
theorem sizeS_any (S : Nat) (w : World) (hS : S < 1024) :
    Calls Tryd.prog 85 #[.int .i64 S] w fun e w' => e = .returned (.int .i64 (ones S)) ∧ w = w' := by
  have ho := onesF_le 10 S
  go_enter Tryd.func85, Tryd.ntmps85
  go_wp2
  go_loop [3, 4] (fun n x => ∃ (f X c : Nat), x = .int .i64 X ∧ n = .int .i64 c ∧ X < 1024 ∧ Hid (X < 2 ^ f ∧ c + onesF f X = ones S)) (fun _ x => (intOf x).toNat)
  case atStart => exact ⟨10, S, 0, rfl, rfl, hS, Lib.hid ⟨hS, by rw [Nat.zero_add]; rfl⟩⟩
  case round =>
    obtain ⟨f, X, c, rfl, rfl, hX, hh⟩ := hrel
    by_cases h0 : 0 < X
    · obtain ⟨h1, h2⟩ := hh.out
      cases f with
      | zero => simp at h1; omega
      | succ f =>
        have h3 : X / 2 < 2 ^ f := by rw [Nat.pow_succ] at h1; omega
        have h4 : c + X % 2 + onesF f (X / 2) = ones S := by rw [← h2, show onesF (f + 1) X = X % 2 + onesF f (X / 2) from rfl]; omega
        have hc : c + X % 2 ≤ 10 := by unfold ones at h4; omega
        have HH := Lib.hid (And.intro h3 h4)
        have hand := and_one X (by omega)
        have hdiv : ((X / 2 : Nat) : Int) = (X : Int) / 2 := by omega
        have HD := Lib.hid hdiv
        have h0i : (0 : Int) < (X : Int) := by omega
        generalize hY : X % 2 = Y at hand HH hc
        have hY2 : Y < 2 := by omega
        have hsum : IntKind.i64.wrap ((c : Int) + (Y : Int)) = ((c + Y : Nat) : Int) := by rw [IntWalk.i64_in _ (by omega)]; omega
        clear h1 h2 h3 h4 hdiv hY
        go_wp2
        go_round
        case rel => exact ⟨f, X / 2, c + Y, by rw [HD.out], by go_num, by omega, HH⟩
        case measure => simp [intOf]; omega
    · obtain rfl : X = 0 := by omega
      have h2 := hh.out.2
      rw [onesF_zero, Nat.add_zero] at h2
      subst h2
      go_wp2
      go_ret
      exact ⟨rfl, rfl⟩

/-- The second loop, with the values in range. -/
theorem concTo_succ {v : List Int} {c : Nat} (h : concaveTo v c) (hs : v.getD c 0 - v.getD (c - 1) 0 ≤ v.getD (c - 1) 0 - v.getD (c - 2) 0) : concaveTo v (c + 1) := fun i hi h2 => by
  by_cases e : i = c
  · subst e; exact hs
  · exact h i (by omega) h2

end Go.Proofs.YtelihjanjlklpaaDoor.C
