/-
  The contracts of what impl.CutFunction, impl.DirectedCut and impl.CoverFunction call.
-/
import Derived.Test.YtpefnfkodcidkaaCutM
import Derived.Test.YtpefnfkodcidkaaMany
import Derived.Test.YtpefnfkodcidkaaIsFnI
import Derived.Test.YtpefnfkodcidkaaSub
import Derived.Test.YtpefnfkodcidkaaVal
import Derived.Deep.RegionWith
import Derived.Deep.RegionHeld3
namespace Go.Proofs.Ytpefnfkodcidkaa.C
open Go.RowKit K M
set_option linter.unusedVariables false
set_option linter.unusedSimpArgs false

theorem isIndex_yes (z n : Int) (w : World) (h0 : 0 ≤ z) (h1 : z < n) : Calls Try.prog 34 #[.int .i64 z, .int .i64 n] w fun e w' => e = .returned (.bool true) ∧ w = w' := by
  go_enter Try.func34, Try.ntmps34
  go_wp2
  go_ret
  exact ⟨rfl, rfl⟩

theorem isIndex_no (z n : Int) (w : World) (h : z < 0 ∨ n ≤ z) : Calls Try.prog 34 #[.int .i64 z, .int .i64 n] w fun e w' => e = .returned (.bool false) ∧ w = w' := by
  by_cases h0 : z < 0
  · have h0' : ¬ 0 ≤ z := by omega
    clear h
    go_enter Try.func34, Try.ntmps34
    go_wp2
    go_ret
    exact ⟨rfl, rfl⟩
  · have h1 : 0 ≤ z := by omega
    have h2 : n ≤ z := by omega
    have h3 : decide (z < n) = false := by simpa using h2
    clear h
    go_enter Try.func34, Try.ntmps34
    go_wp2
    go_ret
    exact ⟨rfl, rfl⟩

theorem has_any (S F : Nat) (w : World) (hS : S < 4294967296) (hF60 : F ≤ 60) : Calls Try.prog 35 #[.int .i64 S, .int .i64 F] w fun e w' => e = .returned (.bool (S.testBit F)) ∧ w = w' := by
  have e1 := bit_val S F hS
  have hF : (0 : Int) ≤ (F : Int) := by omega
  have hmin : min F 64 = F := by omega
  cases t : S.testBit F
  · rw [if_neg (by rw [t]; decide)] at e1
    clear t
    go_enter Try.func35, Try.ntmps35
    go_wp2
    go_ret
    exact ⟨rfl, rfl⟩
  · rw [if_pos t] at e1
    clear t
    go_enter Try.func35, Try.ntmps35
    go_wp2
    go_ret
    exact ⟨rfl, rfl⟩

theorem xor_val (S P : Nat) (hS : S < 4294967296) (hP : P < 4294967296) : bits .xor .i64 (S : Int) (P : Int) = ((S ^^^ P : Nat) : Int) := by
  have hx : S ^^^ P < 2 ^ 32 := Nat.xor_lt_two_pow (by omega) (by omega)
  have ofI : ∀ a : Nat, a < 9223372036854775808 → (BitVec.ofInt 64 (a : Int)).toNat = a := fun a ha => by
    rw [BitVec.ofInt_natCast, BitVec.toNat_ofNat]; exact Nat.mod_eq_of_lt (by omega)
  show IntKind.i64.wrap ((BitVec.ofInt 64 (S : Int) ^^^ BitVec.ofInt 64 (P : Int)).toNat : Int) = _
  rw [BitVec.toNat_xor, ofI S (by omega), ofI P (by omega), IntKind.wrap_i64]
  omega

theorem and_val (S P : Nat) (hS : S < 4294967296) (hP : P < 4294967296) : bits .and .i64 (S : Int) (P : Int) = ((S &&& P : Nat) : Int) := by
  have hx : S &&& P < 2 ^ 32 := Nat.and_lt_two_pow _ (by omega)
  have ofI : ∀ a : Nat, a < 9223372036854775808 → (BitVec.ofInt 64 (a : Int)).toNat = a := fun a ha => by
    rw [BitVec.ofInt_natCast, BitVec.toNat_ofNat]; exact Nat.mod_eq_of_lt (by omega)
  show IntKind.i64.wrap ((BitVec.ofInt 64 (S : Int) &&& BitVec.ofInt 64 (P : Int)).toNat : Int) = _
  rw [BitVec.toNat_and, ofI S (by omega), ofI P (by omega), IntKind.wrap_i64]
  omega

end Go.Proofs.Ytpefnfkodcidkaa.C
