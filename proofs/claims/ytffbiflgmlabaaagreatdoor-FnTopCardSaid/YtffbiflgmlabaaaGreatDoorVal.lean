/-
  The contracts of ValueOf and GainOf, spec and impl, and of what they call.
-/
import Derived.Test.YtffbiflgmlabaaaGreatDoorFnA
import Derived.Test.YtffbiflgmlabaaaGreatDoorAllM
import Derived.Test.YtffbiflgmlabaaaGreatDoorBase
import Derived.Laws.BitsAllLaws
namespace Go.Proofs.YtffbiflgmlabaaaGreatDoor.C
open Go.RowKit K M
set_option linter.unusedVariables false
set_option linter.unusedSimpArgs false

theorem div_yes {s n : Int} (hs : isSet n s = true) : (s / 2 ^ n.toNat == 0) = true := by
  obtain ⟨h1, h2⟩ := isSet_yes hs
  exact beq_iff_eq.2 (Int.ediv_eq_zero_of_lt h1 (by simpa using h2))
theorem div_no {s n : Int} (hs : isSet n s = false) (h : 0 ≤ s) : (s / 2 ^ n.toNat == 0) = false := by
  have h2 : ((2 ^ n.toNat : Nat) : Int) ≤ s := by rcases isSet_no hs with h' | h' <;> omega
  have hp : (0 : Int) < ((2 ^ n.toNat : Nat) : Int) := by exact_mod_cast Nat.two_pow_pos _
  have : 1 ≤ s / ((2 ^ n.toNat : Nat) : Int) := Int.le_ediv_of_mul_le hp (by omega)
  refine beq_eq_false_iff_ne.2 fun e => ?_
  have e2 : s / ((2 ^ n.toNat : Nat) : Int) = 0 := by simpa using e
  omega

theorem isOf_yes (s n : Int) (w : World) (h0 : 0 ≤ n) (h5 : n ≤ 60) (hs : isSet n s = true) :
    Calls Tryz.prog 51 #[.int .i64 s, .int .i64 n] w fun e w' => e = .returned (.bool true) ∧ w = w' := by
  have h1 := (isSet_yes hs).1
  have hd := div_yes hs
  clear hs
  go_enter Tryz.func51, Tryz.ntmps51
  go_wp2
  go_ret
  exact ⟨rfl, rfl⟩

theorem isOf_no (s n : Int) (w : World) (h0 : 0 ≤ n) (h5 : n ≤ 60) (hs : isSet n s = false) :
    Calls Tryz.prog 51 #[.int .i64 s, .int .i64 n] w fun e w' => e = .returned (.bool false) ∧ w = w' := by
  by_cases h1 : 0 ≤ s
  · have hd := div_no hs h1
    clear hs
    go_enter Tryz.func51, Tryz.ntmps51
    go_wp2
    go_ret
    exact ⟨rfl, rfl⟩
  · have hd : decide (0 ≤ s) = false := by simpa using h1
    clear hs
    go_enter Tryz.func51, Tryz.ntmps51
    go_wp2
    go_ret
    exact ⟨rfl, rfl⟩

/-- '1 << e' beside a set, and both joined: as the walk spells them. -/
theorem or_shl {s e : Int} (s0 : 0 ≤ s) (s1 : s < 1152921504606846976) (e0 : 0 ≤ e) (e1 : e ≤ 59) : bits .or .i64 s (wrap64 (2 ^ e.toNat)) = ((withE s e : Nat) : Int) := by
  rw [shl_one e0 (by omega) rfl]
  obtain ⟨S, rfl⟩ := Int.eq_ofNat_of_zero_le s0
  obtain ⟨E, rfl⟩ := Int.eq_ofNat_of_zero_le e0
  have hS : S < 2 ^ 60 := by omega
  have hE : 2 ^ E < 2 ^ 60 := Nat.pow_lt_pow_right (by decide) (by omega)
  have hx : S ||| 2 ^ E < 2 ^ 60 := Nat.or_lt_two_pow hS hE
  have ofI : ∀ a : Nat, a < 9223372036854775808 → (BitVec.ofInt 64 (a : Int)).toNat = a := fun a ha => by
    rw [BitVec.ofInt_natCast, BitVec.toNat_ofNat]; exact Nat.mod_eq_of_lt (by omega)
  show IntKind.i64.wrap ((BitVec.ofInt 64 (S : Int) ||| BitVec.ofInt 64 ((2 ^ E : Nat) : Int)).toNat : Int) = _
  rw [BitVec.toNat_or, ofI S (by omega), ofI (2 ^ E) (by omega), IntKind.wrap_i64]
  simp only [withE, Int.toNat_natCast]
  omega

theorem with_any (s e : Int) (w : World) (s0 : 0 ≤ s) (s1 : s < 1152921504606846976) (e0 : 0 ≤ e) (e1 : e ≤ 59) :
    Calls Tryz.prog 55 #[.int .i64 s, .int .i64 e] w fun e' w' => e' = .returned (.int .i64 (withE s e)) ∧ w = w' := by
  have ho := or_shl s0 s1 e0 e1
  generalize ((withE s e : Nat) : Int) = x at ho ⊢
  go_enter Tryz.func55, Tryz.ntmps55
  go_wp2
  go_ret
  exact ⟨rfl, rfl⟩


section

variable (n : Int) (A : Option Addr) (xs : List Int) (cap : Nat) (s : Int) (w : World) (h : Hid (Ints w w.heap.size A xs))
theorem set_index {n : Int} {xs : List Int} {s : Int} (hf : isFn n xs = true) (hs : isSet n s = true) : ∃ k : Nat, s = (k : Int) ∧ k < xs.length := by
  obtain ⟨h1, h2⟩ := isSet_yes hs
  obtain ⟨_, _, hl, _⟩ := isFn_yes hf
  obtain ⟨k, rfl⟩ := Int.eq_ofNat_of_zero_le h1
  exact ⟨k, rfl, by omega⟩


end


end Go.Proofs.YtffbiflgmlabaaaGreatDoor.C
