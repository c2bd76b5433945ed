/-
  The contracts of the law's own helpers on lists of integers: the size taken off, the copy, the comparison, the marks.
-/
import Derived.Test.YtffbiflgmlabaaaInts
namespace Go.Proofs.Ytffbiflgmlabaaa.C
open Go.RowKit K
set_option linter.unusedVariables false

set_option maxRecDepth 100000 in
set_option maxHeartbeats 1600000 in
theorem toInts_any (A : Option Addr) (xs : List Int) (cap : Nat) (w : World) (h : Hid (Ints w w.heap.size A xs)) (hn : xs.length ≤ 1048576) :
    Calls Try.prog 5 #[.slice A xs.length cap] w (RetI w xs) := by
  obtain ⟨n, hxn⟩ : ∃ n, xs.length = n := ⟨_, rfl⟩
  unfold RetI
  rw [hxn] at hn ⊢
  have HX := Lib.hid hxn
  clear hxn
  obtain ⟨i0, hi, hz0, hz1, hz2⟩ := info_parts info_int
  go_enter Try.func5, Try.ntmps5
  go_wp2_with (refine wpList_make_full _ rfl _ _ _ rfl w.heap.size 3 i0 (.int .i64 0) 1 Try.underlying22 hi hz0 hz1 .i64 .i64 _ _ n rfl rfl rfl rfl (by rw [hz2]; omega) (by unfold maxLen; omega) (Nat.le_refl _) ?_; intro w1 hown1 hg1)
  rw [zeros] at hown1
  have HO := Lib.hid hown1
  have HB := Lib.hid ((Below.refl w.heap.size w).grown hg1 (Nat.le_refl _) (by simp))
  clear hown1 hg1
  go_loopw [4] (fun i wr => ∃ (k : Nat) (ys : List Int), i = .int .i64 k ∧ k ≤ n ∧ ys.length = n ∧ ys.take k = xs.take k ∧ wr.ownsRow w.heap.size 3 1 (.slice (some ⟨w.heap.size, 0, none⟩) n n) n (ints ys) ∧ Below w.heap.size w wr) (fun i _ => n - (intOf i).toNat)
  case atStart => exact ⟨0, List.replicate n 0, rfl, Nat.zero_le _, by simp, by simp, HO.out, HB.out⟩
  case round =>
    obtain ⟨k, ys, rfl, hk, hy, ht, hown, hb⟩ := hrel
    by_cases hlt : k < n
    · obtain ⟨b, off, rfl, hbl, hc⟩ := (h.out.below hb).at_ (k := k) (by rw [HX.out]; exact hlt)
      have hc2 := hown.cellAt k (by omega)
      rw [ints_at ys (by omega)] at hc2
      have hf2 := hown.frozenAt k
      obtain ⟨hown2, hg2⟩ := hown.stored k (.int .i64 (xs.getD k 0))
      have hy2 : (ys.set k (xs.getD k 0)).take (k + 1) = xs.take (k + 1) := by
        have hx : k < xs.length := by rw [HX.out]; exact hlt
        rw [List.take_succ_eq_append_getElem (by simp; omega), List.take_succ_eq_append_getElem hx, List.take_set_of_le (Nat.le_refl _), ht]
        simp [hx]
      have HO2 := Lib.hid hown2
      have HB2 := Lib.hid (hb.grown hg2 hb.size (by simp))
      have HY := Lib.hid hy2
      have HL := Lib.hid hy
      clear hown hown2 hb hg2 hy2 ht hy
      go_wp2
      go_roundw
      case rel => exact ⟨k + 1, ys.set k (xs.getD k 0), by go_num, by omega, by rw [List.length_set]; exact HL.out, HY.out, by have := HO2.out; rwa [ints_set] at this, HB2.out⟩
      case measure => simp [intOf]; omega
    · obtain rfl : k = n := by omega
      have hyx : ys = xs := by
        rw [← List.take_of_length_le (Nat.le_of_eq hy), ht, List.take_of_length_le (Nat.le_of_eq HX.out)]
      subst hyx
      have HO2 := Lib.hid hown
      have HB2 := Lib.hid hb
      clear hown hb ht hy
      go_wp2
      go_ret
      refine ⟨_, _, rfl, ?_, HB2.out⟩
      unfold Own
      rw [HX.out]
      exact HO2.out

set_option maxRecDepth 100000 in
set_option maxHeartbeats 1600000 in
theorem eqInts_same (A C : Option Addr) (xs : List Int) (cap dap : Nat) (w : World) (h : Hid (Ints w w.heap.size A xs)) (g : Hid (Ints w w.heap.size C xs)) (hn : xs.length ≤ 9223372036854775807) :
    Calls Try.prog 7 #[.slice A xs.length cap, .slice C xs.length dap] w fun e w' => e = .returned (.bool true) ∧ ∃ n, w.drewN n = w' := by
  obtain ⟨n, hxn⟩ : ∃ n, xs.length = n := ⟨_, rfl⟩
  rw [hxn] at hn ⊢
  have HX := Lib.hid hxn
  clear hxn
  go_enter Try.func7, Try.ntmps7
  go_wp2
  go_loopw [5] (fun i wr => ∃ (k m : Nat), i = .int .i64 k ∧ k ≤ n ∧ wr = w.drewN m) (fun i _ => n - (intOf i).toNat)
  case atStart => exact ⟨0, 0, rfl, Nat.zero_le _, rfl⟩
  case round =>
    obtain ⟨k, m, rfl, hk, rfl⟩ := hrel
    by_cases hlt : k < n
    · obtain ⟨b, off, rfl, hbl, hc⟩ := h.out.at_ (k := k) (by rw [HX.out]; exact hlt)
      obtain ⟨b', off', rfl, hbl', hc'⟩ := g.out.at_ (k := k) (by rw [HX.out]; exact hlt)
      have hk0 : (0 : Int) ≤ (k : Int) := by omega
      have hkn : (k : Int) < (n : Int) := by omega
      go_wp2
      go_quiet (fail)
      go_wp2
      go_roundw
      case rel => exact ⟨k + 1, _, by go_num, by omega, rfl⟩
      case measure => simp [intOf]; omega
    · go_wp2
      go_ret
      exact ⟨rfl, _, rfl⟩

end Go.Proofs.Ytffbiflgmlabaaa.C
