/-
  The contracts of the law's own helpers on lists of integers: the size taken off, the copy, the comparison, the marks.
-/
import Derived.Test.YtielfnjkfceliaaGreatDoorInts
namespace Go.Proofs.YtielfnjkfceliaaGreatDoor.C
open Go.RowKit K
set_option linter.unusedVariables false

theorem same_len (A C : Option Addr) (n m : Nat) (cap dap : Nat) (w : World) (hne : n ≠ m) :
    Calls Tryz.prog 41 #[.slice A n cap, .slice C m dap] w fun e w' => e = .returned (.bool false) ∧ ∃ n, w.drewN n = w' := by
  have hb : ((n : Int) == (m : Int)) = false := beq_eq_false_iff_ne.2 (by omega)
  have hb2 : ((n : Int) != (m : Int)) = true := bne_iff_ne.2 (by omega)
  go_enter Tryz.func41, Tryz.ntmps41
  go_wp2
  go_ret
  exact ⟨rfl, 0, rfl⟩

set_option maxRecDepth 100000 in
set_option maxHeartbeats 1600000 in
theorem same_yes (A C : Option Addr) (xs : List Int) (cap dap : Nat) (w : World) (h : Hid (Ints w w.heap.size A xs)) (g : Hid (Ints w w.heap.size C xs)) (hn : xs.length ≤ 9223372036854775807) :
    Calls Tryz.prog 41 #[.slice A xs.length cap, .slice C xs.length dap] w fun e w' => e = .returned (.bool true) ∧ ∃ n, w.drewN n = w' := by
  obtain ⟨n, hxn⟩ : ∃ n, xs.length = n := ⟨_, rfl⟩
  rw [hxn] at hn ⊢
  have HX := Lib.hid hxn
  clear hxn
  go_enter Tryz.func41, Tryz.ntmps41
  go_wp2
  go_loopw [5] (fun i wr => ∃ (k m : Nat), i = .int .i64 k ∧ k ≤ n ∧ wr = w.drewN m) (fun i _ => n - (intOf i).toNat)
  case atStart => exact ⟨0, 0, rfl, Nat.zero_le _, rfl⟩
  case round =>
    obtain ⟨k, m, rfl, hk, rfl⟩ := hrel
    by_cases hlt : k < n
    · obtain ⟨b, off, rfl, hbl, hc⟩ := h.out.at_ (k := k) (by rw [HX.out]; exact hlt)
      obtain ⟨b', off', rfl, hbl', hc'⟩ := g.out.at_ (k := k) (by rw [HX.out]; exact hlt)
      have hk0 : (0 : Int) ≤ (k : Int) := by omega
      have hkn : (k : Int) < (n : Int) := by omega
      go_wp2
      go_quiet (fail)
      go_wp2
      go_roundw
      case rel => exact ⟨k + 1, _, by go_num, by omega, rfl⟩
      case measure => simp [intOf]; omega
    · go_wp2
      go_ret
      exact ⟨rfl, _, rfl⟩

set_option maxRecDepth 100000 in
set_option maxHeartbeats 1600000 in
theorem same_no (A C : Option Addr) (xs ys : List Int) (cap dap : Nat) (w : World) (h : Hid (Ints w w.heap.size A xs)) (g : Hid (Ints w w.heap.size C ys)) (hn : xs.length ≤ 9223372036854775807) (hne : ¬ xs = ys) :
    Calls Tryz.prog 41 #[.slice A xs.length cap, .slice C ys.length dap] w fun e w' => e = .returned (.bool false) ∧ ∃ n, w.drewN n = w' := by
  by_cases hl : xs.length = ys.length
  · obtain ⟨n, hxn⟩ : ∃ n, xs.length = n := ⟨_, rfl⟩
    rw [← hl]
    rw [hxn] at hn hl ⊢
    have HX := Lib.hid hxn
    have HY := Lib.hid hl.symm
    have HN := Lib.hid hne
    clear hxn hl hne
    go_enter Tryz.func41, Tryz.ntmps41
    go_wp2
    go_loopw [5] (fun i wr => ∃ (k m : Nat), i = .int .i64 k ∧ k ≤ n ∧ xs.take k = ys.take k ∧ wr = w.drewN m) (fun i _ => n - (intOf i).toNat)
    case atStart => exact ⟨0, 0, rfl, Nat.zero_le _, by simp, rfl⟩
    case round =>
      obtain ⟨k, m, rfl, hk, ht, rfl⟩ := hrel
      by_cases hlt : k < n
      · obtain ⟨b, off, rfl, hbl, hc⟩ := h.out.at_ (k := k) (by rw [HX.out]; exact hlt)
        obtain ⟨b', off', rfl, hbl', hc'⟩ := g.out.at_ (k := k) (by rw [HY.out]; exact hlt)
        have hk0 : (0 : Int) ≤ (k : Int) := by omega
        have hkn : (k : Int) < (n : Int) := by omega
        by_cases hxy : xs.getD k 0 = ys.getD k 0
        · have hx : k < xs.length := by rw [HX.out]; exact hlt
          have hy : k < ys.length := by rw [HY.out]; exact hlt
          have ht2 : xs.take (k + 1) = ys.take (k + 1) := by
            have he : xs[k] = ys[k] := by simpa [hx, hy] using hxy
            rw [List.take_succ_eq_append_getElem hx, List.take_succ_eq_append_getElem hy, ht, he]
          have HT := Lib.hid ht2
          have hc2 := hc
          rw [hxy] at hc2
          clear hc ht ht2 hx hy hxy
          go_wp2
          go_quiet (fail)
          go_wp2
          go_roundw
          case rel => exact ⟨k + 1, _, by go_num, by omega, HT.out, rfl⟩
          case measure => simp [intOf]; omega
        · obtain ⟨x, hx⟩ : ∃ x, xs.getD k 0 = x := ⟨_, rfl⟩
          obtain ⟨y, hy⟩ : ∃ y, ys.getD k 0 = y := ⟨_, rfl⟩
          rw [hx] at hc hxy
          rw [hy] at hc' hxy
          have hb : (x != y) = true := bne_iff_ne.2 hxy
          clear hx hy ht hxy
          go_wp2
          go_quiet (fail)
          go_wp2
          go_ret
          exact ⟨rfl, _, (World.drewN_drewN _ _ _).symm⟩
      · exfalso
        have : k = n := by omega
        subst this
        rw [List.take_of_length_le (Nat.le_of_eq HX.out), List.take_of_length_le (Nat.le_of_eq HY.out)] at ht
        exact HN.out ht
  · exact same_len A C _ _ cap dap w hl

theorem equal_len (A C : Option Addr) (n m : Nat) (cap dap : Nat) (w : World) (hne : n ≠ m) :
    Calls Tryz.prog 63 #[.slice A n cap, .slice C m dap] w fun e w' => e = .returned (.bool false) ∧ ∃ n, w.drewN n = w' := by
  have hb : ((n : Int) == (m : Int)) = false := beq_eq_false_iff_ne.2 (by omega)
  have hb2 : ((n : Int) != (m : Int)) = true := bne_iff_ne.2 (by omega)
  go_enter Tryz.func63, Tryz.ntmps63
  go_wp2
  go_ret
  exact ⟨rfl, 0, rfl⟩

set_option maxRecDepth 100000 in
set_option maxHeartbeats 1600000 in
theorem equal_yes (A C : Option Addr) (xs : List Int) (cap dap : Nat) (w : World) (h : Hid (Ints w w.heap.size A xs)) (g : Hid (Ints w w.heap.size C xs)) (hn : xs.length ≤ 9223372036854775807) :
    Calls Tryz.prog 63 #[.slice A xs.length cap, .slice C xs.length dap] w fun e w' => e = .returned (.bool true) ∧ ∃ n, w.drewN n = w' := by
  obtain ⟨n, hxn⟩ : ∃ n, xs.length = n := ⟨_, rfl⟩
  rw [hxn] at hn ⊢
  have HX := Lib.hid hxn
  clear hxn
  go_enter Tryz.func63, Tryz.ntmps63
  go_wp2
  go_loopw [5, 13] (fun _ i wr => ∃ (k m : Nat), i = .int .i64 k ∧ k ≤ n ∧ wr = w.drewN m) (fun _ i _ => n - (intOf i).toNat)
  case atStart => exact ⟨0, 0, rfl, Nat.zero_le _, rfl⟩
  case round =>
    obtain ⟨k, m, rfl, hk, rfl⟩ := hrel
    by_cases hlt : k < n
    · obtain ⟨b, off, rfl, hbl, hc⟩ := h.out.at_ (k := k) (by rw [HX.out]; exact hlt)
      obtain ⟨b', off', rfl, hbl', hc'⟩ := g.out.at_ (k := k) (by rw [HX.out]; exact hlt)
      have hk0 : (0 : Int) ≤ (k : Int) := by omega
      have hkn : (k : Int) < (n : Int) := by omega
      go_wp2
      go_quiet (fail)
      go_wp2
      go_roundw
      case rel => exact ⟨k + 1, _, by go_num, by omega, rfl⟩
      case measure => simp [intOf]; omega
    · go_wp2
      go_ret
      exact ⟨rfl, _, rfl⟩

set_option maxRecDepth 100000 in
set_option maxHeartbeats 1600000 in
theorem equal_no (A C : Option Addr) (xs ys : List Int) (cap dap : Nat) (w : World) (h : Hid (Ints w w.heap.size A xs)) (g : Hid (Ints w w.heap.size C ys)) (hn : xs.length ≤ 9223372036854775807) (hne : ¬ xs = ys) :
    Calls Tryz.prog 63 #[.slice A xs.length cap, .slice C ys.length dap] w fun e w' => e = .returned (.bool false) ∧ ∃ n, w.drewN n = w' := by
  by_cases hl : xs.length = ys.length
  · obtain ⟨n, hxn⟩ : ∃ n, xs.length = n := ⟨_, rfl⟩
    rw [← hl]
    rw [hxn] at hn hl ⊢
    have HX := Lib.hid hxn
    have HY := Lib.hid hl.symm
    have HN := Lib.hid hne
    clear hxn hl hne
    go_enter Tryz.func63, Tryz.ntmps63
    go_wp2
    go_loopw [5, 13] (fun _ i wr => ∃ (k m : Nat), i = .int .i64 k ∧ k ≤ n ∧ xs.take k = ys.take k ∧ wr = w.drewN m) (fun _ i _ => n - (intOf i).toNat)
    case atStart => exact ⟨0, 0, rfl, Nat.zero_le _, by simp, rfl⟩
    case round =>
      obtain ⟨k, m, rfl, hk, ht, rfl⟩ := hrel
      by_cases hlt : k < n
      · obtain ⟨b, off, rfl, hbl, hc⟩ := h.out.at_ (k := k) (by rw [HX.out]; exact hlt)
        obtain ⟨b', off', rfl, hbl', hc'⟩ := g.out.at_ (k := k) (by rw [HY.out]; exact hlt)
        have hk0 : (0 : Int) ≤ (k : Int) := by omega
        have hkn : (k : Int) < (n : Int) := by omega
        by_cases hxy : xs.getD k 0 = ys.getD k 0
        · have hx : k < xs.length := by rw [HX.out]; exact hlt
          have hy : k < ys.length := by rw [HY.out]; exact hlt
          have ht2 : xs.take (k + 1) = ys.take (k + 1) := by
            have he : xs[k] = ys[k] := by simpa [hx, hy] using hxy
            rw [List.take_succ_eq_append_getElem hx, List.take_succ_eq_append_getElem hy, ht, he]
          have HT := Lib.hid ht2
          have hc2 := hc
          rw [hxy] at hc2
          clear hc ht ht2 hx hy hxy
          go_wp2
          go_quiet (fail)
          go_wp2
          go_roundw
          case rel => exact ⟨k + 1, _, by go_num, by omega, HT.out, rfl⟩
          case measure => simp [intOf]; omega
        · obtain ⟨x, hx⟩ : ∃ x, xs.getD k 0 = x := ⟨_, rfl⟩
          obtain ⟨y, hy⟩ : ∃ y, ys.getD k 0 = y := ⟨_, rfl⟩
          rw [hx] at hc hxy
          rw [hy] at hc' hxy
          have hb : (x != y) = true := bne_iff_ne.2 hxy
          clear hx hy ht hxy
          go_wp2
          go_quiet (fail)
          go_wp2
          go_ret
          exact ⟨rfl, _, (World.drewN_drewN _ _ _).symm⟩
      · exfalso
        have : k = n := by omega
        subst this
        rw [List.take_of_length_le (Nat.le_of_eq HX.out), List.take_of_length_le (Nat.le_of_eq HY.out)] at ht
        exact HN.out ht
  · exact equal_len A C _ _ cap dap w hl

end Go.Proofs.YtielfnjkfceliaaGreatDoor.C
