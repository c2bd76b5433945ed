/-
  The contracts of the law's own helpers on slices of structs: copy, comparison, marks.
-/
import Derived.Test.YtdodpcehmagdbaaMany
import Derived.Test.YtdodpcehmagdbaaHeld
import Derived.Test.YtdodpcehmagdbaaFnM
namespace Go.Proofs.Ytdodpcehmagdbaa.C
open Go.RowKit K M
set_option linter.unusedVariables false
set_option linter.unusedSimpArgs false

theorem szEdges_ok (A : Option Addr) (n cap : Nat) (left : Int) (w : World) (h : (n : Int) ≤ left) (hl : left ≤ 1048576) :
    Calls Try.prog 8 #[.slice A n cap, .int .i64 left] w fun e w' => e = .returned (.int .i64 (left - n)) ∧ w = w' := by
  go_enter Try.func8, Try.ntmps8
  go_wp2
  go_ret
  exact ⟨rfl, rfl⟩

theorem szEdges_over (A : Option Addr) (n cap : Nat) (left : Int) (w : World) (h : left < (n : Int)) (h0 : 0 ≤ left) (hn : n ≤ 9223372036854775807) :
    Calls Try.prog 8 #[.slice A n cap, .int .i64 left] w fun e w' => e = .returned (.int .i64 (-1)) ∧ w = w' := by
  go_enter Try.func8, Try.ntmps8
  go_wp2
  go_ret
  exact ⟨rfl, rfl⟩

set_option maxHeartbeats 800000 in
theorem toEdge_any (x y z : Int) (w : World) :
    Calls Try.prog 35 #[.agg #[.int .i64 x, .int .i64 y, .int .i64 z]] w (RetV w (.agg #[.int .i64 x, .int .i64 y, .int .i64 z])) := by
  have HW := Lib.hid (St.start w)
  go_enter Try.func35, Try.ntmps35
  go_wp2
  have hS := ((HW.out.alloc [.int .i64 x, .int .i64 y, .int .i64 z] 55).alloc [.int .i64 x, .int .i64 y, .int .i64 z] 52).alloc [.int .i64 x, .int .i64 y, .int .i64 z] 52
  exact bodyPost_ret (v := .agg #[.int .i64 x, .int .i64 y, .int .i64 z]) (by simp [results, Try.results35, go_sem]) rfl ⟨rfl, hS.base⟩

set_option maxRecDepth 100000 in
set_option maxHeartbeats 3200000 in
theorem toEdges_any (A : Option Addr) (xs : List Int) (n cap : Nat) (w : World) (hl : xs.length = n * 3) (h : Hid (Ints w w.heap.size A xs)) (hn : n ≤ 1048576) :
    Calls Try.prog 10 #[.slice A n cap] w (RetM 52 3 w n xs) := by
  have HX := Lib.hid hl
  clear hl
  have HW := Lib.hid (St.start w)
  obtain ⟨i0, hi, hz0, hz1, hz2⟩ := info_parts info_edge
  go_enter Try.func10, Try.ntmps10
  go_wp2_with (refine wpList_make_full _ rfl _ _ _ rfl w.heap.size 52 i0 _ 3 Try.underlying29 hi hz0 hz1 .i64 .i64 _ _ n rfl rfl rfl rfl (by rw [hz2]; omega) (by unfold maxLen; omega) (Nat.le_refl _) ?_; intro w1 hown1 hg1)
  rw [zeros3] at hown1
  have HS1 := Lib.hid (HW.out.newM ((Below.refl _ _).grown hg1 (Nat.le_refl _) (by simp)) hown1)
  clear hown1 hg1
  go_loopw [4] (fun i wr => ∃ (k : Nat) (ys : List Int), i = .int .i64 k ∧ k ≤ n ∧ ys.take (k * 3) = xs.take (k * 3) ∧ St w wr [mr 52 3 (.slice (some ⟨w.heap.size, 0, none⟩) n n) n ys]) (fun i _ => n - (intOf i).toNat)
  case atStart => exact ⟨0, _, rfl, Nat.zero_le _, by simp, HS1.out⟩
  case round =>
    obtain ⟨k, ys, rfl, hk, ht, hS⟩ := hrel
    have hy : ys.length = n * 3 := mr_len (hS.own (i := 0) rfl)
    have HS := Lib.hid hS
    by_cases hlt : k < n
    · obtain ⟨b, off, rfl, hbl, c0, c1, c2⟩ := (h.out.below hS.base).at3 HX.out hlt
      have hy0 := set_take ht (by omega) (by rw [HX.out]; omega)
      have hy1 := set_take hy0 (by rw [List.length_set]; omega) (by rw [HX.out]; omega)
      have hy2 := set_take hy1 (by rw [List.length_set, List.length_set]; omega) (by rw [HX.out]; omega)
      generalize xs.getD (k * 3) 0 = x at c0 hy0 hy1 hy2
      generalize xs.getD (k * 3 + 1) 0 = y at c1 hy1 hy2
      generalize xs.getD (k * 3 + 1 + 1) 0 = z at c2 hy2
      have HY := Lib.hid hy2
      clear hS hy ht hy0 hy1 hy2
      go_wp2_with (go_at_call 35; refine (toEdge_any x y z _).mono ?_; rintro e w2 ⟨rfl, hb⟩; have hS2 := HS.out.below hb; obtain ⟨e0, f0⟩ := hS2.cellM (i := 0) rfl (j := k * 3) (by omega); obtain ⟨e1, f1⟩ := hS2.cellM (i := 0) rfl (j := k * 3 + 1) (by omega); obtain ⟨e2, f2⟩ := hS2.cellM (i := 0) rfl (j := k * 3 + 2) (by omega); have HS2 := Lib.hid hS2; clear hb hS2)
      go_roundw
      case rel => exact ⟨k + 1, ((ys.set (k * 3) x).set (k * 3 + 1) y).set (k * 3 + 1 + 1) z, by go_num, by omega, by rw [show (k + 1) * 3 = k * 3 + 1 + 1 + 1 by omega]; exact HY.out, (((HS2.out.setM (i := 0) rfl (k * 3) x).setM (i := 0) rfl (k * 3 + 1) y).setM (i := 0) rfl (k * 3 + 2) z)⟩
      case measure => simp [intOf]; omega
    · obtain rfl : k = n := by omega
      have hyx : ys = xs := by
        rw [← List.take_of_length_le (Nat.le_of_eq hy), ht, List.take_of_length_le (Nat.le_of_eq HX.out)]
      subst hyx
      clear hS hy ht
      go_wp2
      go_ret
      exact ⟨_, _, rfl, HS.out.own (i := 0) rfl, HS.out.base⟩

set_option maxHeartbeats 800000 in
theorem eqEdge_same (x y z : Int) (w : World) :
    Calls Try.prog 41 #[.agg #[.int .i64 x, .int .i64 y, .int .i64 z], .agg #[.int .i64 x, .int .i64 y, .int .i64 z]] w (RetV w (.bool true)) := by
  have HW := Lib.hid (St.start w)
  go_enter Try.func41, Try.ntmps41
  go_wp2
  go_ret
  exact ⟨rfl, ((HW.out.alloc _ _).alloc _ _).base⟩

set_option maxRecDepth 100000 in
set_option maxHeartbeats 3200000 in
theorem eqEdges_same (A C : Option Addr) (xs : List Int) (n cap dap : Nat) (w : World) (hl : xs.length = n * 3) (h : Hid (Ints w w.heap.size A xs)) (g : Hid (Ints w w.heap.size C xs)) (hn : n ≤ 9223372036854775807) :
    Calls Try.prog 13 #[.slice A n cap, .slice C n dap] w (RetV w (.bool true)) := by
  have HX := Lib.hid hl
  clear hl
  have HW := Lib.hid (St.start w)
  go_enter Try.func13, Try.ntmps13
  go_wp2
  go_loopw [5] (fun i wr => ∃ (k : Nat), i = .int .i64 k ∧ k ≤ n ∧ St w wr []) (fun i _ => n - (intOf i).toNat)
  case atStart => exact ⟨0, rfl, Nat.zero_le _, HW.out⟩
  case round =>
    obtain ⟨k, rfl, hk, hS⟩ := hrel
    have HS := Lib.hid hS
    by_cases hlt : k < n
    · obtain ⟨b, off, rfl, hbl, c0, c1, c2⟩ := (h.out.below hS.base).at3 HX.out hlt
      obtain ⟨b', off', rfl, hbl', d0, d1, d2⟩ := (g.out.below hS.base).at3 HX.out hlt
      generalize xs.getD (k * 3) 0 = x at c0 d0
      generalize xs.getD (k * 3 + 1) 0 = y at c1 d1
      generalize xs.getD (k * 3 + 2) 0 = z at c2 d2
      have hk0 : (0 : Int) ≤ (k : Int) := by omega
      have hkn : (k : Int) < (n : Int) := by omega
      have L1 : b < wr.heap.size := Nat.lt_of_lt_of_le hbl hS.size
      have L2 : b' < wr.heap.size := Nat.lt_of_lt_of_le hbl' hS.size
      clear hS
      go_wp2
      go_region_held3 (fun w' => w'.cell? ⟨b, off + k * 3, none⟩ = some (.int .i64 x) ∧ w'.cell? ⟨b, off + k * 3 + 1, none⟩ = some (.int .i64 y) ∧ w'.cell? ⟨b, off + k * 3 + 2, none⟩ = some (.int .i64 z) ∧ w'.cell? ⟨b', off' + k * 3, none⟩ = some (.int .i64 x) ∧ w'.cell? ⟨b', off' + k * 3 + 1, none⟩ = some (.int .i64 y) ∧ w'.cell? ⟨b', off' + k * 3 + 2, none⟩ = some (.int .i64 z)) (first | (refine ⟨?_, ?_, ?_, ?_, ?_, ?_⟩ <;> assumption) | assumption | go_keep) ((go_at_call 41; refine (eqEdge_same x y z _).mono ?_; rintro e w2 ⟨rfl, hb⟩; have HS2 := Lib.hid (show St w w2 [] from by first | exact HS.out.below hb | exact HS.out.drew.below hb | exact (HS.out.drewN _).below hb); have c0' := (hb.cell (p := ⟨b, off + k * 3, none⟩) L1).trans c0; have c1' := (hb.cell (p := ⟨b, off + k * 3 + 1, none⟩) L1).trans c1; have c2' := (hb.cell (p := ⟨b, off + k * 3 + 2, none⟩) L1).trans c2; have d0' := (hb.cell (p := ⟨b', off' + k * 3, none⟩) L2).trans d0; have d1' := (hb.cell (p := ⟨b', off' + k * 3 + 1, none⟩) L2).trans d1; have d2' := (hb.cell (p := ⟨b', off' + k * 3 + 2, none⟩) L2).trans d2; clear hb))
      go_wp2
      go_roundw
      case rel => exact ⟨k + 1, by go_num, by omega, HS2.out⟩
      case measure => simp [intOf]; omega
    · go_wp2
      go_ret
      exact ⟨rfl, HS.out.base⟩

set_option maxRecDepth 100000 in
set_option maxHeartbeats 3200000 in
theorem markEdges_any (A : Option Addr) (xs : List Int) (n cap lo : Nat) (k : Int) (w : World) (h : Hid (w.ownsRow lo 52 3 (.slice A n cap) n (ints xs))) (h0 : 0 ≤ k) (hk : k ≤ 1073741824) (hn : n ≤ 1048576) :
    Calls Try.prog 14 #[.slice A n cap, .int .i64 k] w fun e w' => e = .returned (.int .i64 (k + n * 3)) ∧ (∃ ys, w'.ownsRow lo 52 3 (.slice A n cap) n (ints ys)) ∧ w.grownBy w' (Value.ownBlock (.slice A n cap)) := by
  go_enter Try.func14, Try.ntmps14
  go_wp2
  go_loopw [1, 5] (fun c i wr => ∃ (j : Nat) (ys : List Int), c = .int .i64 (k + j * 3) ∧ i = .int .i64 j ∧ j ≤ n ∧ wr.ownsRow lo 52 3 (.slice A n cap) n (ints ys) ∧ w.grownBy wr (Value.ownBlock (.slice A n cap))) (fun _ i _ => n - (intOf i).toNat)
  case atStart => exact ⟨0, xs, by simp, rfl, Nat.zero_le _, h.out, World.grownBy.refl _ _⟩
  case round =>
    obtain ⟨j, ys, rfl, rfl, hj, hown, hg⟩ := hrel
    by_cases hlt : j < n
    · obtain ⟨g, cap', hv, hbg, hgl⟩ := hown.form (by omega)
      obtain ⟨rfl, rfl⟩ : A = some ⟨g, 0, none⟩ ∧ cap = cap' := by injection hv with h1 h2 h3; exact ⟨h1, h3⟩
      clear hv
      have hl := mr_len hown
      have e0 := hown.cellAt (j * 3) (by omega)
      have f0 := hown.frozenAt (j * 3)
      have e1 := hown.cellAt (j * 3 + 1) (by omega)
      have f1 := hown.frozenAt (j * 3 + 1)
      have e2 := hown.cellAt (j * 3 + 2) (by omega)
      have f2 := hown.frozenAt (j * 3 + 2)
      rw [ints_at ys (by omega)] at e0 e1 e2
      obtain ⟨o1, g1⟩ := hown.stored (j * 3) (.int .i64 (k + j * 3))
      obtain ⟨o2, g2⟩ := o1.stored (j * 3 + 1) (.int .i64 (k + j * 3 + 1))
      obtain ⟨o3, g3⟩ := o2.stored (j * 3 + 2) (.int .i64 (k + j * 3 + 1 + 1))
      rw [ints_set, ints_set, ints_set] at o3
      have HO := Lib.hid o3
      have HG := Lib.hid (((hg.trans g1).trans g2).trans g3)
      have w1 : IntKind.i64.wrap (k + j * 3 + 1) = k + j * 3 + 1 := IntWalk.i64_in _ (by omega)
      have w2 : IntKind.i64.wrap (k + j * 3 + 1 + 1) = k + j * 3 + 1 + 1 := IntWalk.i64_in _ (by omega)
      have w3 : IntKind.i64.wrap (k + j * 3 + 1 + 1 + 1) = k + j * 3 + 1 + 1 + 1 := IntWalk.i64_in _ (by omega)
      clear hown o1 o2 o3 hg g1 g2 g3 hl
      go_wp2
      go_roundw
      case rel => exact ⟨j + 1, _, by go_num, by go_num, by omega, HO.out, HG.out⟩
      case measure => simp [intOf]; omega
    · obtain rfl : j = n := by omega
      have HO2 := Lib.hid hown
      have HG2 := Lib.hid hg
      clear hown hg
      go_wp2
      go_ret
      exact ⟨rfl, ⟨_, HO2.out⟩, HG2.out⟩

theorem szBlocks_ok (A : Option Addr) (n cap : Nat) (left : Int) (w : World) (h : (n : Int) ≤ left) (hl : left ≤ 1048576) :
    Calls Try.prog 19 #[.slice A n cap, .int .i64 left] w fun e w' => e = .returned (.int .i64 (left - n)) ∧ w = w' := by
  go_enter Try.func19, Try.ntmps19
  go_wp2
  go_ret
  exact ⟨rfl, rfl⟩

theorem szBlocks_over (A : Option Addr) (n cap : Nat) (left : Int) (w : World) (h : left < (n : Int)) (h0 : 0 ≤ left) (hn : n ≤ 9223372036854775807) :
    Calls Try.prog 19 #[.slice A n cap, .int .i64 left] w fun e w' => e = .returned (.int .i64 (-1)) ∧ w = w' := by
  go_enter Try.func19, Try.ntmps19
  go_wp2
  go_ret
  exact ⟨rfl, rfl⟩

set_option maxHeartbeats 800000 in
theorem toBlock_any (x y : Int) (w : World) :
    Calls Try.prog 45 #[.agg #[.int .i64 x, .int .i64 y]] w (RetV w (.agg #[.int .i64 x, .int .i64 y])) := by
  have HW := Lib.hid (St.start w)
  go_enter Try.func45, Try.ntmps45
  go_wp2
  have hS := ((HW.out.alloc [.int .i64 x, .int .i64 y] 67).alloc [.int .i64 x, .int .i64 y] 64).alloc [.int .i64 x, .int .i64 y] 64
  exact bodyPost_ret (v := .agg #[.int .i64 x, .int .i64 y]) (by simp [results, Try.results45, go_sem]) rfl ⟨rfl, hS.base⟩

set_option maxRecDepth 100000 in
set_option maxHeartbeats 3200000 in
theorem toBlocks_any (A : Option Addr) (xs : List Int) (n cap : Nat) (w : World) (hl : xs.length = n * 2) (h : Hid (Ints w w.heap.size A xs)) (hn : n ≤ 1048576) :
    Calls Try.prog 21 #[.slice A n cap] w (RetM 64 2 w n xs) := by
  have HX := Lib.hid hl
  clear hl
  have HW := Lib.hid (St.start w)
  obtain ⟨i0, hi, hz0, hz1, hz2⟩ := info_parts info_block
  go_enter Try.func21, Try.ntmps21
  go_wp2_with (refine wpList_make_full _ rfl _ _ _ rfl w.heap.size 64 i0 _ 2 Try.underlying39 hi hz0 hz1 .i64 .i64 _ _ n rfl rfl rfl rfl (by rw [hz2]; omega) (by unfold maxLen; omega) (Nat.le_refl _) ?_; intro w1 hown1 hg1)
  rw [zeros2] at hown1
  have HS1 := Lib.hid (HW.out.newM ((Below.refl _ _).grown hg1 (Nat.le_refl _) (by simp)) hown1)
  clear hown1 hg1
  go_loopw [4] (fun i wr => ∃ (k : Nat) (ys : List Int), i = .int .i64 k ∧ k ≤ n ∧ ys.take (k * 2) = xs.take (k * 2) ∧ St w wr [mr 64 2 (.slice (some ⟨w.heap.size, 0, none⟩) n n) n ys]) (fun i _ => n - (intOf i).toNat)
  case atStart => exact ⟨0, _, rfl, Nat.zero_le _, by simp, HS1.out⟩
  case round =>
    obtain ⟨k, ys, rfl, hk, ht, hS⟩ := hrel
    have hy : ys.length = n * 2 := mr_len (hS.own (i := 0) rfl)
    have HS := Lib.hid hS
    by_cases hlt : k < n
    · obtain ⟨b, off, rfl, hbl, c0, c1⟩ := (h.out.below hS.base).at2 HX.out hlt
      have hy0 := set_take ht (by omega) (by rw [HX.out]; omega)
      have hy1 := set_take hy0 (by rw [List.length_set]; omega) (by rw [HX.out]; omega)
      generalize xs.getD (k * 2) 0 = x at c0 hy0 hy1
      generalize xs.getD (k * 2 + 1) 0 = y at c1 hy1
      have HY := Lib.hid hy1
      clear hS hy ht hy0 hy1
      go_wp2_with (go_at_call 45; refine (toBlock_any x y _).mono ?_; rintro e w2 ⟨rfl, hb⟩; have hS2 := HS.out.below hb; obtain ⟨e0, f0⟩ := hS2.cellM (i := 0) rfl (j := k * 2) (by omega); obtain ⟨e1, f1⟩ := hS2.cellM (i := 0) rfl (j := k * 2 + 1) (by omega); have HS2 := Lib.hid hS2; clear hb hS2)
      go_roundw
      case rel => exact ⟨k + 1, (ys.set (k * 2) x).set (k * 2 + 1) y, by go_num, by omega, by rw [show (k + 1) * 2 = k * 2 + 1 + 1 by omega]; exact HY.out, ((HS2.out.setM (i := 0) rfl (k * 2) x).setM (i := 0) rfl (k * 2 + 1) y)⟩
      case measure => simp [intOf]; omega
    · obtain rfl : k = n := by omega
      have hyx : ys = xs := by
        rw [← List.take_of_length_le (Nat.le_of_eq hy), ht, List.take_of_length_le (Nat.le_of_eq HX.out)]
      subst hyx
      clear hS hy ht
      go_wp2
      go_ret
      exact ⟨_, _, rfl, HS.out.own (i := 0) rfl, HS.out.base⟩

set_option maxHeartbeats 800000 in
theorem eqBlock_same (x y : Int) (w : World) :
    Calls Try.prog 49 #[.agg #[.int .i64 x, .int .i64 y], .agg #[.int .i64 x, .int .i64 y]] w (RetV w (.bool true)) := by
  have HW := Lib.hid (St.start w)
  go_enter Try.func49, Try.ntmps49
  go_wp2
  go_ret
  exact ⟨rfl, ((HW.out.alloc _ _).alloc _ _).base⟩

set_option maxRecDepth 100000 in
set_option maxHeartbeats 3200000 in
theorem eqBlocks_same (A C : Option Addr) (xs : List Int) (n cap dap : Nat) (w : World) (hl : xs.length = n * 2) (h : Hid (Ints w w.heap.size A xs)) (g : Hid (Ints w w.heap.size C xs)) (hn : n ≤ 9223372036854775807) :
    Calls Try.prog 23 #[.slice A n cap, .slice C n dap] w (RetV w (.bool true)) := by
  have HX := Lib.hid hl
  clear hl
  have HW := Lib.hid (St.start w)
  go_enter Try.func23, Try.ntmps23
  go_wp2
  go_loopw [5] (fun i wr => ∃ (k : Nat), i = .int .i64 k ∧ k ≤ n ∧ St w wr []) (fun i _ => n - (intOf i).toNat)
  case atStart => exact ⟨0, rfl, Nat.zero_le _, HW.out⟩
  case round =>
    obtain ⟨k, rfl, hk, hS⟩ := hrel
    have HS := Lib.hid hS
    by_cases hlt : k < n
    · obtain ⟨b, off, rfl, hbl, c0, c1⟩ := (h.out.below hS.base).at2 HX.out hlt
      obtain ⟨b', off', rfl, hbl', d0, d1⟩ := (g.out.below hS.base).at2 HX.out hlt
      generalize xs.getD (k * 2) 0 = x at c0 d0
      generalize xs.getD (k * 2 + 1) 0 = y at c1 d1
      have hk0 : (0 : Int) ≤ (k : Int) := by omega
      have hkn : (k : Int) < (n : Int) := by omega
      have L1 : b < wr.heap.size := Nat.lt_of_lt_of_le hbl hS.size
      have L2 : b' < wr.heap.size := Nat.lt_of_lt_of_le hbl' hS.size
      clear hS
      go_wp2
      go_region_held3 (fun w' => w'.cell? ⟨b, off + k * 2, none⟩ = some (.int .i64 x) ∧ w'.cell? ⟨b, off + k * 2 + 1, none⟩ = some (.int .i64 y) ∧ w'.cell? ⟨b', off' + k * 2, none⟩ = some (.int .i64 x) ∧ w'.cell? ⟨b', off' + k * 2 + 1, none⟩ = some (.int .i64 y)) (first | (refine ⟨?_, ?_, ?_, ?_⟩ <;> assumption) | assumption | go_keep) ((go_at_call 49; refine (eqBlock_same x y _).mono ?_; rintro e w2 ⟨rfl, hb⟩; have HS2 := Lib.hid (show St w w2 [] from by first | exact HS.out.below hb | exact HS.out.drew.below hb | exact (HS.out.drewN _).below hb); have c0' := (hb.cell (p := ⟨b, off + k * 2, none⟩) L1).trans c0; have c1' := (hb.cell (p := ⟨b, off + k * 2 + 1, none⟩) L1).trans c1; have d0' := (hb.cell (p := ⟨b', off' + k * 2, none⟩) L2).trans d0; have d1' := (hb.cell (p := ⟨b', off' + k * 2 + 1, none⟩) L2).trans d1; clear hb))
      go_wp2
      go_roundw
      case rel => exact ⟨k + 1, by go_num, by omega, HS2.out⟩
      case measure => simp [intOf]; omega
    · go_wp2
      go_ret
      exact ⟨rfl, HS.out.base⟩

set_option maxRecDepth 100000 in
set_option maxHeartbeats 3200000 in
theorem markBlocks_any (A : Option Addr) (xs : List Int) (n cap lo : Nat) (k : Int) (w : World) (h : Hid (w.ownsRow lo 64 2 (.slice A n cap) n (ints xs))) (h0 : 0 ≤ k) (hk : k ≤ 1073741824) (hn : n ≤ 1048576) :
    Calls Try.prog 24 #[.slice A n cap, .int .i64 k] w fun e w' => e = .returned (.int .i64 (k + n * 2)) ∧ (∃ ys, w'.ownsRow lo 64 2 (.slice A n cap) n (ints ys)) ∧ w.grownBy w' (Value.ownBlock (.slice A n cap)) := by
  go_enter Try.func24, Try.ntmps24
  go_wp2
  go_loopw [1, 5] (fun c i wr => ∃ (j : Nat) (ys : List Int), c = .int .i64 (k + j * 2) ∧ i = .int .i64 j ∧ j ≤ n ∧ wr.ownsRow lo 64 2 (.slice A n cap) n (ints ys) ∧ w.grownBy wr (Value.ownBlock (.slice A n cap))) (fun _ i _ => n - (intOf i).toNat)
  case atStart => exact ⟨0, xs, by simp, rfl, Nat.zero_le _, h.out, World.grownBy.refl _ _⟩
  case round =>
    obtain ⟨j, ys, rfl, rfl, hj, hown, hg⟩ := hrel
    by_cases hlt : j < n
    · obtain ⟨g, cap', hv, hbg, hgl⟩ := hown.form (by omega)
      obtain ⟨rfl, rfl⟩ : A = some ⟨g, 0, none⟩ ∧ cap = cap' := by injection hv with h1 h2 h3; exact ⟨h1, h3⟩
      clear hv
      have hl := mr_len hown
      have e0 := hown.cellAt (j * 2) (by omega)
      have f0 := hown.frozenAt (j * 2)
      have e1 := hown.cellAt (j * 2 + 1) (by omega)
      have f1 := hown.frozenAt (j * 2 + 1)
      rw [ints_at ys (by omega)] at e0 e1
      obtain ⟨o1, g1⟩ := hown.stored (j * 2) (.int .i64 (k + j * 2))
      obtain ⟨o2, g2⟩ := o1.stored (j * 2 + 1) (.int .i64 (k + j * 2 + 1))
      rw [ints_set, ints_set] at o2
      have HO := Lib.hid o2
      have HG := Lib.hid ((hg.trans g1).trans g2)
      have w1 : IntKind.i64.wrap (k + j * 2 + 1) = k + j * 2 + 1 := IntWalk.i64_in _ (by omega)
      have w2 : IntKind.i64.wrap (k + j * 2 + 1 + 1) = k + j * 2 + 1 + 1 := IntWalk.i64_in _ (by omega)
      clear hown o1 o2 hg g1 g2 hl
      go_wp2
      go_roundw
      case rel => exact ⟨j + 1, _, by go_num, by go_num, by omega, HO.out, HG.out⟩
      case measure => simp [intOf]; omega
    · obtain rfl : j = n := by omega
      have HO2 := Lib.hid hown
      have HG2 := Lib.hid hg
      clear hown hg
      go_wp2
      go_ret
      exact ⟨rfl, ⟨_, HO2.out⟩, HG2.out⟩

end Go.Proofs.Ytdodpcehmagdbaa.C
