/-
  The contracts of spec.MinimumOf, MinimizersOf, LeastMinimizer, GreatestMinimizer.
-/
import Derived.Test.YtffbiflgmlabaaaDoorAllM
import Derived.Test.YtffbiflgmlabaaaDoorSubS
import Derived.Test.YtffbiflgmlabaaaDoorLolA
import Derived.Test.YtffbiflgmlabaaaDoorBase
import Derived.Test.YtffbiflgmlabaaaDoorFnA
import Derived.Deep.QuietTactic
import Derived.Deep.RegionHeld3
namespace Go.Proofs.YtffbiflgmlabaaaDoor.C
open Go.RowKit K M
set_option linter.unusedVariables false
set_option linter.unusedSimpArgs false
set_option linter.unusedSectionVars false

theorem and_nat10 (S P : Nat) (hS : S < 4294967296) (hP : P < 4294967296) : bits .and .i64 (S : Int) (P : Int) = ((S &&& P : Nat) : Int) := by
  have hx : S &&& P < 2 ^ 32 := Nat.and_lt_two_pow _ (by omega)
  have ofI : ∀ a : Nat, a < 9223372036854775808 → (BitVec.ofInt 64 (a : Int)).toNat = a := fun a ha => by
    rw [BitVec.ofInt_natCast, BitVec.toNat_ofNat]; exact Nat.mod_eq_of_lt (by omega)
  show IntKind.i64.wrap ((BitVec.ofInt 64 (S : Int) &&& BitVec.ofInt 64 (P : Int)).toNat : Int) = _
  rw [BitVec.toNat_and, ofI S (by omega), ofI P (by omega), IntKind.wrap_i64]
  omega
theorem or_nat10 (S P : Nat) (hS : S < 4294967296) (hP : P < 4294967296) : bits .or .i64 (S : Int) (P : Int) = ((S ||| P : Nat) : Int) := by
  have hx : S ||| P < 2 ^ 32 := Nat.or_lt_two_pow (by omega) (by omega)
  have ofI : ∀ a : Nat, a < 9223372036854775808 → (BitVec.ofInt 64 (a : Int)).toNat = a := fun a ha => by
    rw [BitVec.ofInt_natCast, BitVec.toNat_ofNat]; exact Nat.mod_eq_of_lt (by omega)
  show IntKind.i64.wrap ((BitVec.ofInt 64 (S : Int) ||| BitVec.ofInt 64 (P : Int)).toNat : Int) = _
  rw [BitVec.toNat_or, ofI S (by omega), ofI P (by omega), IntKind.wrap_i64]
  omega


section

variable (n : Int) (A : Option Addr) (xs : List Int) (cap : Nat) (w : World) (h : Hid (Ints w w.heap.size A xs))
include h
set_option maxRecDepth 100000 in
set_option maxHeartbeats 1600000 in
theorem leastS10 (h0 : 0 < xs.length) (h32 : xs.length ≤ 32) : Calls Tryd.prog 94 #[.agg #[.int .i64 n, .slice A xs.length cap]] w (RetV w (.int .i64 (least xs))) := by
  have HW := Lib.hid (St.start w)
  have HM := Lib.hid (fun k => show minTo xs (k + 1) = min (minTo xs k) (xs.getD (k + 1) 0) from rfl)
  have hm0 : minTo xs 0 = xs.getD 0 0 := rfl
  unfold least
  obtain ⟨p, hp⟩ : ∃ p, xs.length = p := ⟨_, rfl⟩
  have HP := Lib.hid hp
  rw [hp] at h0 h32 ⊢
  obtain ⟨q, rfl⟩ : ∃ q, p = q + 1 := ⟨p - 1, by omega⟩
  rw [Nat.add_sub_cancel]
  generalize minTo xs = F at *
  obtain ⟨b, off, rfl, hbl, hc0⟩ := h.out.at_ (k := 0) (by rw [HP.out]; omega)
  rw [← hm0] at hc0
  rw [Nat.add_zero] at hc0
  have hp0 : (0 : Int) < ((q + 1 : Nat) : Int) := by omega
  have HS0 := Lib.hid (HW.out.alloc [.int .i64 n, .slice (some ⟨b, off, none⟩) (q + 1) cap] 26)
  clear hm0 hp
  go_enter Tryd.func94, Tryd.ntmps94
  go_wp2
  go_loopw [3, 4] (fun v i wr => ∃ k : Nat, i = .int .i64 ((k + 1 : Nat) : Int) ∧ k ≤ q ∧ v = .int .i64 (F k) ∧ St w wr [bx w.heap.size 26 [.int .i64 n, .slice (some ⟨b, off, none⟩) (q + 1) cap]]) (fun _ i _ => q + 1 - (intOf i).toNat)
  case atStart => exact ⟨0, rfl, Nat.zero_le _, rfl, HS0.out⟩
  case round =>
    obtain ⟨k, rfl, hk, rfl, hS⟩ := hrel
    obtain ⟨b0, -⟩ := hS.box (i := 0) rfl
    have d00 := b0 0 _ rfl
    have d01 := b0 1 _ rfl
    have HR := Lib.hid hS
    by_cases hlt : k < q
    · obtain ⟨b', off', e', -, hc⟩ := (h.out.below hS.base).at_ (k := k + 1) (by rw [HP.out]; omega)
      obtain ⟨rfl, rfl⟩ : b = b' ∧ off = off' := by cases e'; exact ⟨rfl, rfl⟩
      have hmk := HM.out k
      have g1 : (0 : Int) ≤ ((k + 1 : Nat) : Int) := by omega
      have g2 : ((k + 1 : Nat) : Int) < ((q + 1 : Nat) : Int) := by omega
      generalize xs.getD (k + 1) 0 = y at hc hmk
      generalize hz : F (k + 1) = z at hmk
      have HZ := Lib.hid hz
      generalize F k = x at *
      generalize hi : k + 1 = i at *
      have HI := Lib.hid hi
      clear hS b0 e' hz hi
      rcases Int.lt_trichotomy x y with hxy | hxy | hxy
      · have a1 : ¬ y < x := by omega
        have a2 : x ≤ y := by omega
        have a3 : ¬ y ≤ x := by omega
        obtain rfl : z = x := by omega
        clear hmk
        go_wp2
        all_goals
          go_roundw
          case rel => exact ⟨i, by go_num, by have := HI.out; omega, by rw [HZ.out], HR.out⟩
          case measure => simp [intOf]; omega
      · subst hxy
        obtain rfl : z = x := by omega
        clear hmk
        go_wp2
        all_goals
          go_roundw
          case rel => exact ⟨i, by go_num, by have := HI.out; omega, by rw [HZ.out], HR.out⟩
          case measure => simp [intOf]; omega
      · have a1 : ¬ x < y := by omega
        have a2 : y ≤ x := by omega
        have a3 : ¬ x ≤ y := by omega
        obtain rfl : z = y := by omega
        clear hmk
        go_wp2
        all_goals
          go_roundw
          case rel => exact ⟨i, by go_num, by have := HI.out; omega, by rw [HZ.out], HR.out⟩
          case measure => simp [intOf]; omega
    · obtain rfl : k = q := by omega
      have hjn : ¬ ((k + 1 : Nat) : Int) < ((k + 1 : Nat) : Int) := by omega
      clear hS b0
      go_wp2
      go_ret
      exact ⟨rfl, HR.out.base⟩

end


end Go.Proofs.YtffbiflgmlabaaaDoor.C
