/-
  The contracts of what impl.CutFunction, impl.DirectedCut and impl.CoverFunction call.
-/
import Derived.Test.YtlfbgaapigcpjaaCutM
import Derived.Test.YtlfbgaapigcpjaaMany
import Derived.Test.YtlfbgaapigcpjaaFnA
import Derived.Test.YtlfbgaapigcpjaaSub
import Derived.Test.YtlfbgaapigcpjaaVal
import Derived.Deep.RegionWith
import Derived.Deep.RegionHeld3
namespace Go.Proofs.Ytlfbgaapigcpjaa.C
open Go.RowKit K M
set_option linter.unusedVariables false
set_option linter.unusedSimpArgs false

theorem xor_val (S P : Nat) (hS : S < 4294967296) (hP : P < 4294967296) : bits .xor .i64 (S : Int) (P : Int) = ((S ^^^ P : Nat) : Int) := by
  have hx : S ^^^ P < 2 ^ 32 := Nat.xor_lt_two_pow (by omega) (by omega)
  have ofI : ∀ a : Nat, a < 9223372036854775808 → (BitVec.ofInt 64 (a : Int)).toNat = a := fun a ha => by
    rw [BitVec.ofInt_natCast, BitVec.toNat_ofNat]; exact Nat.mod_eq_of_lt (by omega)
  show IntKind.i64.wrap ((BitVec.ofInt 64 (S : Int) ^^^ BitVec.ofInt 64 (P : Int)).toNat : Int) = _
  rw [BitVec.toNat_xor, ofI S (by omega), ofI P (by omega), IntKind.wrap_i64]
  omega

theorem and_val (S P : Nat) (hS : S < 4294967296) (hP : P < 4294967296) : bits .and .i64 (S : Int) (P : Int) = ((S &&& P : Nat) : Int) := by
  have hx : S &&& P < 2 ^ 32 := Nat.and_lt_two_pow _ (by omega)
  have ofI : ∀ a : Nat, a < 9223372036854775808 → (BitVec.ofInt 64 (a : Int)).toNat = a := fun a ha => by
    rw [BitVec.ofInt_natCast, BitVec.toNat_ofNat]; exact Nat.mod_eq_of_lt (by omega)
  show IntKind.i64.wrap ((BitVec.ofInt 64 (S : Int) &&& BitVec.ofInt 64 (P : Int)).toNat : Int) = _
  rw [BitVec.toNat_and, ofI S (by omega), ofI P (by omega), IntKind.wrap_i64]
  omega

theorem compl_any (S N : Nat) (w : World) (hS : S < 4294967296) (h5 : N ≤ 5) : Calls Try.prog 39 #[.int .i64 S, .int .i64 N] w fun e w' => e = .returned (.int .i64 ((S ^^^ (2 ^ N - 1) : Nat) : Int)) ∧ w = w' := by
  obtain ⟨p, hp⟩ : ∃ p, p = 2 ^ N := ⟨_, rfl⟩
  have hp32 : p ≤ 32 := by have h := Nat.pow_le_pow_right (n := 2) (by decide) h5; omega
  have hp1 : 1 ≤ p := by rw [hp]; exact Nat.two_pow_pos N
  have hsh : wrap64 (2 ^ N) = (p : Int) := by
    have hsh := shl_one (n := (N : Int)) (m := p) (by omega) (by omega) (by rw [Int.toNat_natCast]; exact hp)
    rwa [Int.toNat_natCast] at hsh
  have hx := xor_val S (p - 1) hS (by omega)
  rw [show ((p - 1 : Nat) : Int) = (p : Int) - 1 by omega] at hx
  rw [← hp]
  generalize S ^^^ (p - 1) = q at hx ⊢
  have hN : (0 : Int) ≤ (N : Int) := by omega
  clear hp
  go_enter Try.func39, Try.ntmps39
  go_wp2
  go_ret
  exact ⟨rfl, rfl⟩

end Go.Proofs.Ytlfbgaapigcpjaa.C
