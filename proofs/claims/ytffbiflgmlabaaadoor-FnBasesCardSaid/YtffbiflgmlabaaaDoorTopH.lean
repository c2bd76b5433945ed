/-
  The contracts of the law's own helpers: sameLists of two lists that are alike, total, has.
-/
import Derived.Test.YtffbiflgmlabaaaDoorSameI
import Derived.Test.YtffbiflgmlabaaaDoorLolA
import Derived.Test.YtffbiflgmlabaaaDoorAllM
namespace Go.Proofs.YtffbiflgmlabaaaDoor.C
open Go.RowKit K M
set_option linter.unusedVariables false
set_option linter.unusedSimpArgs false

set_option maxRecDepth 100000 in
theorem total_any (A : Option Addr) (xs : List Int) (cap : Nat) (w : World) (h : Hid (Ints w w.heap.size A xs)) (hl : xs.length ≤ 64) (hv : ∀ k, k < xs.length → -5000 ≤ xs.getD k 0 ∧ xs.getD k 0 ≤ 5000) :
    Calls Tryd.prog 38 #[.slice A xs.length cap] w fun e w' => e = .returned (.int .i64 (sm (fun k => xs.getD k 0) xs.length)) ∧ w = w' := by
  have HB := Lib.hid (show ∀ j, j ≤ xs.length → -(5000 * (j : Int)) ≤ sm (fun k => xs.getD k 0) j ∧ sm (fun k => xs.getD k 0) j ≤ 5000 * (j : Int) from by
    intro j
    induction j with
    | zero => intro _; simp [sm]
    | succ j ih =>
      intro hj
      have h1 := ih (by omega)
      have h2 := hv j (by omega)
      rw [sm]
      omega)
  have HS := Lib.hid (fun k => show sm (fun k => xs.getD k 0) (k + 1) = sm (fun k => xs.getD k 0) k + xs.getD k 0 from rfl)
  have hz : sm (fun k => xs.getD k 0) 0 = 0 := rfl
  generalize sm (fun k => xs.getD k 0) = f at *
  obtain ⟨m, hm⟩ : ∃ m, xs.length = m := ⟨_, rfl⟩
  have HM := Lib.hid hm
  rw [hm] at HB hl ⊢
  clear hm hv
  go_enter Tryd.func38, Tryd.ntmps38
  go_wp2
  go_loop [3, 4] (fun t i => ∃ k : Nat, k ≤ m ∧ i = .int .i64 k ∧ t = .int .i64 (f k)) (fun _ i => m - (intOf i).toNat)
  case atStart => exact ⟨0, Nat.zero_le _, rfl, by rw [hz]⟩
  case round =>
    obtain ⟨k, hk, rfl, rfl⟩ := hrel
    clear hz
    by_cases hlt : k < m
    · obtain ⟨b, off, rfl, hbl, hc⟩ := h.out.at_ (k := k) (by rw [HM.out]; exact hlt)
      have hk0 : (0 : Int) ≤ (k : Int) := by omega
      have hkn : (k : Int) < (m : Int) := by omega
      have b1 := HB.out k (by omega)
      have b2 := HB.out (k + 1) (by omega)
      have hs := HS.out k
      rw [hs] at b2
      generalize xs.getD k 0 = x at hc hs b2
      generalize hy : f k = y at *
      have hw : IntKind.i64.wrap (y + x) = y + x := IntWalk.i64_in _ (by omega)
      have HX := Lib.hid hs
      clear hs hy
      go_wp2
      go_round
      case rel => exact ⟨k + 1, by omega, by go_num, by rw [HX.out]⟩
      case measure => simp [intOf]; omega
    · obtain rfl : k = m := by omega
      have hkn : ¬ (k : Int) < (k : Int) := by omega
      go_wp2
      go_ret
      exact ⟨rfl, rfl⟩

set_option maxRecDepth 100000 in
theorem hasL_any (A : Option Addr) (xs : List Int) (cap : Nat) (x : Int) (w : World) (h : Hid (Ints w w.heap.size A xs)) (hl : xs.length ≤ 1048576) :
    Calls Tryd.prog 16 #[.slice A xs.length cap, .int .i64 x] w fun e w' => e = .returned (.bool (hasI xs x)) ∧ w = w' := by
  have HM := Lib.hid (hasI_mem (l := xs) (s := x))
  have HN := Lib.hid (hasI_no (l := xs) (s := x))
  obtain ⟨bb, hbb⟩ : ∃ b, hasI xs x = b := ⟨_, rfl⟩
  rw [hbb] at HM HN ⊢
  obtain ⟨m, hm⟩ : ∃ m, xs.length = m := ⟨_, rfl⟩
  have HX := Lib.hid hm
  rw [hm] at hl HM HN ⊢
  clear hm hbb
  go_enter Tryd.func16, Tryd.ntmps16
  go_wp2
  go_loop [5] (fun i => ∃ k : Nat, k ≤ m ∧ i = .int .i64 k ∧ Hid (∀ j, j < k → xs.getD j 0 ≠ x)) (fun i => m - (intOf i).toNat)
  case atStart => exact ⟨0, Nat.zero_le _, rfl, Lib.hid (fun j hj => absurd hj (by omega))⟩
  case round =>
    obtain ⟨k, hk, rfl, hf⟩ := hrel
    by_cases hlt : k < m
    · obtain ⟨b, off, rfl, hbl, hc⟩ := h.out.at_ (k := k) (by rw [HX.out]; exact hlt)
      have hk0 : (0 : Int) ≤ (k : Int) := by omega
      have hkn : (k : Int) < (m : Int) := by omega
      have hyes := fun (e : xs.getD k 0 = x) => HM.out.2 ⟨k, hlt, e⟩
      have hnext := fun (e : xs.getD k 0 ≠ x) => (show ∀ j, j < k + 1 → xs.getD j 0 ≠ x from fun j hj => by
        by_cases h : j = k
        · subst h; exact e
        · exact hf.out j (by omega))
      generalize hy : xs.getD k 0 = y at *
      by_cases hyx : y = x
      · have HB := Lib.hid (hyes hyx)
        have hbe : (y == x) = true := by rw [hyx]; exact beq_self_eq_true _
        clear hyes hnext hy hyx
        go_wp2
        go_ret
        exact ⟨by rw [HB.out]; rfl, rfl⟩
      · have HB := Lib.hid (hnext hyx)
        have hbe : (y == x) = false := beq_eq_false_iff_ne.2 hyx
        clear hyes hnext hy hyx
        go_wp2
        go_round
        case rel => exact ⟨k + 1, by omega, by go_num, HB⟩
        case measure => simp [intOf]; omega
    · obtain rfl : k = m := by omega
      have hkn : ¬ (k : Int) < (k : Int) := by omega
      have HB := Lib.hid (HN.out hf.out)
      go_wp2
      go_ret
      exact ⟨by rw [HB.out]; rfl, rfl⟩

end Go.Proofs.YtffbiflgmlabaaaDoor.C
