/-
  The contracts of the laws' own 'sameInts' and 'has'.
-/
import Derived.Test.YtffbiflgmlabaaaGreatDoorFnA
import Derived.Deep.QuietTactic
namespace Go.Proofs.YtffbiflgmlabaaaGreatDoor.C
open Go.RowKit M K
set_option linter.unusedVariables false
set_option linter.unusedSimpArgs false

set_option maxRecDepth 100000 in
set_option maxHeartbeats 1600000 in
theorem sameInts_same (A C : Option Addr) (xs : List Int) (cap dap : Nat) (w : World) (h : Hid (Ints w w.heap.size A xs)) (g : Hid (Ints w w.heap.size C xs)) (hn : xs.length ≤ 9223372036854775807) :
    Calls Tryz.prog 9 #[.slice A xs.length cap, .slice C xs.length dap] w fun e w' => e = .returned (.bool true) ∧ ∃ n, w.drewN n = w' := by
  obtain ⟨n, hxn⟩ : ∃ n, xs.length = n := ⟨_, rfl⟩
  rw [hxn] at hn ⊢
  have HX := Lib.hid hxn
  clear hxn
  go_enter Tryz.func9, Tryz.ntmps9
  go_wp2
  go_loopw [5] (fun i wr => ∃ (k m : Nat), i = .int .i64 k ∧ k ≤ n ∧ wr = w.drewN m) (fun i _ => n - (intOf i).toNat)
  case atStart => exact ⟨0, 0, rfl, Nat.zero_le _, rfl⟩
  case round =>
    obtain ⟨k, m, rfl, hk, rfl⟩ := hrel
    by_cases hlt : k < n
    · obtain ⟨b, off, rfl, hbl, hc⟩ := h.out.at_ (k := k) (by rw [HX.out]; exact hlt)
      obtain ⟨b', off', rfl, hbl', hc'⟩ := g.out.at_ (k := k) (by rw [HX.out]; exact hlt)
      have hk0 : (0 : Int) ≤ (k : Int) := by omega
      have hkn : (k : Int) < (n : Int) := by omega
      go_wp2
      go_quiet (fail)
      go_wp2
      go_roundw
      case rel => exact ⟨k + 1, _, by go_num, by omega, rfl⟩
      case measure => simp [intOf]; omega
    · go_wp2
      go_ret
      exact ⟨rfl, _, rfl⟩

set_option maxRecDepth 100000 in
set_option maxHeartbeats 1600000 in
theorem has_in (A : Option Addr) (xs : List Int) (cap : Nat) (x : Int) (w : World) (h : Hid (Ints w w.heap.size A xs)) (hn : xs.length ≤ 1048576) (j : Nat) (hj : j < xs.length) (hx : xs.getD j 0 = x) (hno : ∀ k, k < j → xs.getD k 0 ≠ x) :
    Calls Tryz.prog 26 #[.slice A xs.length cap, .int .i64 x] w fun e w' => e = .returned (.bool true) ∧ w = w' := by
  obtain ⟨n, hxn⟩ : ∃ n, xs.length = n := ⟨_, rfl⟩
  rw [hxn] at hn hj ⊢
  have HX := Lib.hid hxn
  have HJ := Lib.hid hx
  have HN := Lib.hid hno
  clear hxn hx hno
  go_enter Tryz.func26, Tryz.ntmps26
  go_wp2
  go_loop [5] (fun i => ∃ k : Nat, k ≤ j ∧ i = .int .i64 k) (fun i => n - (intOf i).toNat)
  case atStart => exact ⟨0, Nat.zero_le _, rfl⟩
  case round =>
    obtain ⟨k, hk, rfl⟩ := hrel
    obtain ⟨b, off, rfl, hbl, hc⟩ := h.out.at_ (k := k) (by rw [HX.out]; omega)
    have hk0 : (0 : Int) ≤ (k : Int) := by omega
    have hkn : (k : Int) < (n : Int) := by omega
    by_cases hlt : k < j
    · have hne := HN.out k hlt
      generalize xs.getD k 0 = y at hc hne
      have hq : (y == x) = false := beq_eq_false_iff_ne.2 hne
      clear hne
      go_wp2
      go_round
      case rel => exact ⟨k + 1, by omega, by go_num⟩
      case measure => simp [intOf]; omega
    · obtain rfl : k = j := by omega
      rw [HJ.out] at hc
      go_wp2
      go_ret
      exact ⟨rfl, rfl⟩

theorem has_mem (A : Option Addr) (xs : List Int) (cap : Nat) (x : Int) (w : World) (h : Hid (Ints w w.heap.size A xs)) (hn : xs.length ≤ 1048576) (hx : x ∈ xs) :
    Calls Tryz.prog 26 #[.slice A xs.length cap, .int .i64 x] w fun e w' => e = .returned (.bool true) ∧ w = w' := by
  have key : ∀ c, (∀ k, k < c → xs.getD k 0 ≠ x) ∨ ∃ j, j < c ∧ xs.getD j 0 = x ∧ ∀ k, k < j → xs.getD k 0 ≠ x := fun c => by
    induction c with
    | zero => exact .inl fun k hk => absurd hk (by omega)
    | succ c ih =>
      rcases ih with h1 | ⟨j, hj, hb, hv⟩
      · by_cases hc : xs.getD c 0 = x
        · exact .inr ⟨c, by omega, hc, h1⟩
        · exact .inl fun k hk => by
            by_cases e : k = c
            · subst e; exact hc
            · exact h1 k (by omega)
      · exact .inr ⟨j, by omega, hb, hv⟩
  rcases key xs.length with h1 | ⟨j, hj, hb, hv⟩
  · obtain ⟨k, hk, rfl⟩ := List.mem_iff_getElem.1 hx
    exact absurd (by rw [List.getD_eq_getElem?_getD, List.getElem?_eq_getElem hk]; rfl) (h1 k hk)
  · exact has_in A xs cap x w h hn j hj hb hv

theorem big_any5 (a : Option Addr) (len cap : Nat) (w : World) (hlen : len ≤ 9223372036854775807) : Calls Tryz.prog 4 #[.slice a len cap] w fun e w' => e = .returned (.bool (decide (1048576 < (len : Int)))) ∧ w = w' := by
  go_enter Tryz.func4, Tryz.ntmps4
  go_wp2
  go_ret
  exact ⟨rfl, rfl⟩

end Go.Proofs.YtffbiflgmlabaaaGreatDoor.C
