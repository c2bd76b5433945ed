/-
  The contracts of ElementsOf, spec and impl, and of what they call.
-/
import Derived.Test.YtidhggcekimigaaVal
import Derived.Test.YtidhggcekimigaaElsM
import Derived.Shelf.Spec.TrailingZeros
import Derived.Lib.LaidTab
import Derived.Lib.SmallJoins
namespace Go.Proofs.Ytidhggcekimigaa.C
open Go.RowKit K M
set_option linter.unusedVariables false
set_option linter.unusedSimpArgs false

theorem and1 (X : Nat) (hX : X < 4294967296) : bits .and .i64 (X : Int) 1 = ((X % 2 : Nat) : Int) := by
  have h1 : (BitVec.ofInt 64 1).toNat = 2 ^ 1 - 1 := by decide
  have ofI : (BitVec.ofInt 64 (X : Int)).toNat = X := by
    rw [BitVec.ofInt_natCast, BitVec.toNat_ofNat]; exact Nat.mod_eq_of_lt (by omega)
  show IntKind.i64.wrap ((BitVec.ofInt 64 (X : Int) &&& BitVec.ofInt 64 1).toNat : Int) = _
  rw [BitVec.toNat_and, ofI, h1, Nat.and_two_pow_sub_one_eq_mod, IntKind.wrap_i64]
  omega
theorem andPred (X : Nat) (h0 : 0 < X) (hX : X < 4294967296) : bits .and .i64 (X : Int) ((X : Int) - 1) = ((X &&& (X - 1) : Nat) : Int) := by
  have ofI : ∀ a : Nat, a < 9223372036854775808 → (BitVec.ofInt 64 (a : Int)).toNat = a := fun a ha => by
    rw [BitVec.ofInt_natCast, BitVec.toNat_ofNat]; exact Nat.mod_eq_of_lt (by omega)
  have e : (X : Int) - 1 = ((X - 1 : Nat) : Int) := by omega
  have hx : X &&& (X - 1) ≤ X := Nat.and_le_left
  show IntKind.i64.wrap ((BitVec.ofInt 64 (X : Int) &&& BitVec.ofInt 64 ((X : Int) - 1)).toNat : Int) = _
  rw [e, BitVec.toNat_and, ofI X (by omega), ofI (X - 1) (by omega), IntKind.wrap_i64]
  omega

set_option maxRecDepth 100000 in
set_option maxHeartbeats 1600000 in
theorem listS_any (S : Nat) (w : World) (hS : S < 1024) :
    Calls Try.prog 57 #[.int .i64 S] w (RetI w (els S)) := by
  have HW := Lib.hid (St.start w)
  obtain ⟨i0, hi, hz0, hz1, hz2⟩ := info_parts info_int
  go_enter Try.func57, Try.ntmps57
  go_wp2
  go_loopw [3, 4, 5] (fun o i x wr => ∃ (f j X n : Nat) (V : Option Addr) (c : Nat) (ys : List Int), x = .int .i64 X ∧ i = .int .i64 j ∧ o = .slice V n c ∧ j + f = 10 ∧ n ≤ j ∧ X < 2 ^ f ∧ ys ++ elsF f j X = els S ∧ St w wr [il (.slice V n c) n ys]) (fun _ _ x _ => (intOf x).toNat)
  case atStart => exact ⟨10, 0, S, 0, _, _, [], rfl, rfl, rfl, rfl, Nat.le_refl _, by omega, rfl, HW.out.empty⟩
  case round =>
    obtain ⟨f, j, X, n, V, c, ys, rfl, rfl, rfl, hjf, hn, hX, he, hS1⟩ := hrel
    have HS := Lib.hid hS1
    have HE := Lib.hid he
    have hXb : X < 1024 := Nat.lt_of_lt_of_le hX (Nat.pow_le_pow_right (by decide) (by omega : f ≤ 10))
    clear hS1 he
    by_cases h0 : 0 < X
    · cases f with
      | zero => simp at hX; omega
      | succ f =>
        have hX2 : X / 2 < 2 ^ f := by rw [Nat.pow_succ] at hX; omega
        have HX := Lib.hid hX2
        clear hX hX2
        have h0i : (0 : Int) < (X : Int) := by omega
        have hdiv : ((X / 2 : Nat) : Int) = (X : Int) / 2 := by omega
        have HD := Lib.hid hdiv
        clear hdiv
        by_cases hodd : X % 2 = 1
        · have hand : bits .and .i64 (X : Int) 1 = 1 := by rw [and1 X (by omega), hodd]; rfl
          have HO := Lib.hid (elsF_odd (f := f) (i := j) hodd)
          clear hodd
          go_wp2_with (at_builtin; refine wpList_app1 rfl (.tmp 15) (.tmp 17) 22 rfl (j : Int) Try.underlying22 hi hz0 hz1 hz2 ((HS.out.alloc _ _).drop 0) (i := 0) rfl rfl rfl (by simp) (by omega) ?_; intro V' c' w2 hS2)
          have HS2 := Lib.hid hS2
          clear hS2 hand
          go_wp2
          go_roundw
          case rel => exact ⟨f, j + 1, X / 2, n + 1, V', c', ys ++ [(j : Int)], by rw [HD.out], by go_num, rfl, by omega, by omega, HX.out, by rw [List.append_assoc, List.singleton_append, ← HO.out]; exact HE.out, HS2.out⟩
          case measure => simp [intOf]; omega
        · have hand : bits .and .i64 (X : Int) 1 = 0 := by rw [and1 X (by omega)]; omega
          have HO := Lib.hid (elsF_even (f := f) (i := j) h0 hodd)
          clear hodd
          go_wp2
          go_roundw
          case rel => exact ⟨f, j + 1, X / 2, n, V, c, ys, by rw [HD.out], by go_num, rfl, by omega, by omega, HX.out, by rw [← HO.out]; exact HE.out, HS.out⟩
          case measure => simp [intOf]; omega
    · obtain rfl : X = 0 := by omega
      have hfin := HE.out
      rw [elsF_zero, List.append_nil] at hfin
      have HF := Lib.hid hfin
      clear hfin hX hXb h0
      go_wp2
      go_ret
      have ho := HS.out.ownI (i := 0) rfl
      have hl : ys.length = n := OwnN.len (HS.out.own (i := 0) rfl)
      rw [← HF.out]
      exact ⟨V, c, by rw [hl]; rfl, by rw [hl]; exact ho, HS.out.base⟩

end Go.Proofs.Ytidhggcekimigaa.C
