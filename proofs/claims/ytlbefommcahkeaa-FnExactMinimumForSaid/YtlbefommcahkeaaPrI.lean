/-
  The contracts of impl.productSum, PairingOf.
-/
import Derived.Test.YtlbefommcahkeaaVxI
namespace Go.Proofs.Ytlbefommcahkeaa.C
open Go.RowKit K M
set_option linter.unusedVariables false
set_option linter.unusedSimpArgs false


section

variable (A : Option Addr) (xs : List Int) (cap : Nat) (D : Option Addr) (ys : List Int) (dap : Nat) (w : World) (h : Hid (Ints w w.heap.size A xs)) (g : Hid (Ints w w.heap.size D ys))
include h g
theorem productI_any (h5 : xs.length ≤ 5) (hl : ys.length = xs.length) (hx : ∀ k, k < xs.length → -1000 ≤ xs.getD k 0 ∧ xs.getD k 0 ≤ 1000) (hy : ∀ k, k < xs.length → -2000 ≤ ys.getD k 0 ∧ ys.getD k 0 ≤ 2000) :
    Calls Try.prog 31 #[.slice A xs.length cap, .slice D ys.length dap] w fun e w' => e = .returned (.int .i64 (sm (fun k => xs.getD k 0 * ys.getD k 0) xs.length)) ∧ w = w' := by
  obtain ⟨f, hf⟩ : ∃ f : Nat → Int, f = fun k => xs.getD k 0 * ys.getD k 0 := ⟨_, rfl⟩
  have HF := Lib.hid (fun k => show f k = xs.getD k 0 * ys.getD k 0 by rw [hf])
  have HB := Lib.hid (sm_bd (f := f) (b := 2000000) xs.length fun i hi => by
    have a1 := hx i hi
    have a2 := hy i hi
    rw [HF.out]
    exact mul_bd2 a1.1 a1.2 a2.1 a2.2)
  rw [← hf]
  obtain ⟨m, hm⟩ : ∃ m, xs.length = m := ⟨_, rfl⟩
  rw [hm] at hl h5 HB ⊢
  rw [hl]
  have HX := Lib.hid hm
  have HY := Lib.hid hl
  clear hx hy hf hm hl
  go_enter Try.func31, Try.ntmps31
  go_wp2
  go_loop [5, 10] (fun s i => ∃ k : Nat, k ≤ m ∧ i = .int .i64 k ∧ s = .int .i64 (sm f k)) (fun _ i => m - (intOf i).toNat)
  case atStart => exact ⟨0, Nat.zero_le _, rfl, rfl⟩
  case round =>
    obtain ⟨k, hk, rfl, rfl⟩ := hrel
    by_cases hlt : k < m
    · obtain ⟨b, off, rfl, hbl, hc⟩ := h.out.at_ (k := k) (by rw [HX.out]; omega)
      obtain ⟨b', off', rfl, hbl', hc'⟩ := g.out.at_ (k := k) (by rw [HY.out]; omega)
      have hk0 : (0 : Int) ≤ (k : Int) := by omega
      have hkn : (k : Int) < (m : Int) := by omega
      have hfk := HF.out k
      have b1 := HB.out k hk
      have b2 := HB.out (k + 1) (by omega)
      have hs : sm f (k + 1) = sm f k + f k := rfl
      rw [hs] at b2
      have HS := Lib.hid hs
      have hfb : -20000000 ≤ f k ∧ f k ≤ 20000000 := by omega
      have hsb : -20000000 ≤ sm f k ∧ sm f k ≤ 20000000 := by omega
      generalize xs.getD k 0 = x at hc hfk
      generalize ys.getD k 0 = y at hc' hfk
      have hw1 : IntKind.i64.wrap (x * y) = f k := by rw [← hfk]; exact IntWalk.i64_in _ (by omega)
      generalize f k = z at *
      generalize sm f k = s at *
      have hw2 : IntKind.i64.wrap (s + z) = s + z := IntWalk.i64_in _ (by omega)
      clear hfk hs b1 b2 hfb hsb
      go_wp2
      go_round
      case rel => exact ⟨k + 1, by omega, by go_num, by rw [HS.out]⟩
      case measure => simp [intOf]; omega
    · obtain rfl : k = m := by omega
      have hkn : ¬ (k : Int) < (k : Int) := by omega
      go_wp2
      go_ret
      exact ⟨rfl, rfl⟩

end


end Go.Proofs.Ytlbefommcahkeaa.C
