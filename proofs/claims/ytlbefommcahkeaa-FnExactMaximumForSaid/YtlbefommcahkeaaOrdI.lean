/-
  The contracts of impl.OrderFor and of what it calls of the library: a stable sort of few elements.
-/
import Derived.Test.YtlbefommcahkeaaOrdM
import Derived.Test.YtlbefommcahkeaaVxI
import Derived.Test.YtlbefommcahkeaaSt
import Derived.Shelf.SlSortCmp.Insertion
import Derived.Lib.OwnBridge
import Derived.Deep.QuietTactic
import Derived.Deep.RegionLaw
namespace Go.Proofs.Ytlbefommcahkeaa.C
open Go.RowKit K M Go.Sort
set_option linter.unusedVariables false
set_option linter.unusedSimpArgs false
set_option linter.unusedSectionVars false

theorem quiet_same {P : Program} {f : FuncId} {args : Array Value} {w : World} {n : Nat} {v : Value} (h : Calls P f args (w.drewN n) fun e w' => e = .returned v ∧ w.drewN n = w') :
    Calls P f args (w.drewN n) fun e w'' => e = .returned v ∧ ∃ m, w'' = w.drewN m :=
  h.mono fun _ _ ⟨he, hq⟩ => ⟨he, n, hq.symm⟩

theorem nanI (x : Int) (w : World) : Calls Try.prog 51 #[.int .i64 x] w fun e w' => e = .returned (.bool false) ∧ w = w' := by
  go_enter Try.func51, Try.ntmps51
  go_wp2
  go_ret
  exact ⟨by simp, rfl⟩

theorem cmpI (x y : Int) (w : World) : Calls Try.prog 43 #[.int .i64 x, .int .i64 y] w fun e w' => e = .returned (.int .i64 (Lib.compareInt x y)) ∧ w = w' := by
  go_enter Try.func43, Try.ntmps43
  go_wp2_with (go_at_call 51; refine (nanI _ _).mono ?_; rintro e w' ⟨rfl, rfl⟩)
  all_goals (go_ret; refine ⟨?_, rfl⟩; unfold Lib.compareInt; (repeat' split) <;> first | rfl | (exfalso; omega))

set_option maxHeartbeats 1600000 in
theorem byI (A : Option Addr) (ws : List Int) (cap B i k : Nat) (W : World) (hi : i < ws.length) (hk : k < ws.length) (h : Ints W W.heap.size A ws) (hB : W.cell? ⟨B, 0, none⟩ = some (.slice A ws.length cap)) :
    Calls Try.prog 42 #[.int .i64 i, .int .i64 k, .pointer (some ⟨B, 0, none⟩)] W fun e w' => e = .returned (.int .i64 (Lib.compareInt (ws.getD k 0) (ws.getD i 0))) ∧ ∃ q, w' = W.drewN q := by
  obtain ⟨b, off, rfl, hbl, hc⟩ := h.at_ hi
  obtain ⟨b', off', e', hbl', hc'⟩ := h.at_ hk
  cases e'
  have hcm := Lib.hid (fun W' => cmpI (ws.getD k 0) (ws.getD i 0) W')
  generalize Lib.compareInt (ws.getD k 0) (ws.getD i 0) = r at hcm ⊢
  generalize ws.getD k 0 = x at *
  generalize ws.getD i 0 = y at *
  obtain ⟨m, hm⟩ : ∃ m, ws.length = m := ⟨_, rfl⟩
  rw [hm] at hi hk hB
  have hi0 : (0 : Int) ≤ (i : Int) := by omega
  have hin : (i : Int) < (m : Int) := by omega
  have hk0 : (0 : Int) ≤ (k : Int) := by omega
  have hkn : (k : Int) < (m : Int) := by omega
  clear h hm
  go_enter Try.func42, Try.ntmps42
  go_wp2
  go_quiet ((go_at_call 43; exact quiet_same (hcm.out _)))
  go_wp2
  go_ret
  exact ⟨rfl, _, rfl⟩

section

variable {n : Nat} [Inhabited (El n)]
def encE (e : El n) : Value := .int .i64 (e.1 : Int)
theorem one_encE : OneCell (encE (n := n)) := fun _ => rfl

def insRen : Go.Shelf.Ren := ⟨fun | 20 => 54 | k => k, fun | 0 => 0 | 3 => 3 | 4 => 4 | 22 => 22 | 24 => 3 | 25 => 50 | k => k, fun k => k⟩
theorem insLay : SlLaysF.n20 Try.prog insRen := {
  mixed := by kernel_rfl
  f20 := ⟨Try.f54.name, by kernel_rfl, Try.func54.trans (congrArg some (by kernel_rfl))⟩
  t0 := Try.underlying0
  a0 := Try.isAgg0
  z0 := Try.sizeOf0
  v0 := Try.zeroValue0
  t3 := Try.underlying3
  a3 := Try.isAgg3
  z3 := Try.sizeOf3
  v3 := Try.zeroValue3
  t4 := Try.underlying4
  a4 := Try.isAgg4
  z4 := Try.sizeOf4
  v4 := Try.zeroValue4
  t22 := Try.underlying22
  a22 := Try.isAgg22
  z22 := Try.sizeOf22
  v22 := Try.zeroValue22
  a24 := Try.isAgg3
  z24 := Try.sizeOf3
  t25 := Try.underlying50
  a25 := Try.isAgg50
  z25 := Try.sizeOf50
  v25 := Try.zeroValue50 }



end


/-- A stable sort of fewer than twenty: one sort by insertion. -/
theorem stable_of (V F : Value) (n : Nat) (R : World → Prop) (w : World) (hn : n ≤ 19)
    (hc : Calls Try.prog 54 #[V, .int .i64 0, .int .i64 n, F] w fun e w' => e = .returned (.tuple #[]) ∧ R w') :
    Calls Try.prog 50 #[V, .int .i64 n, F] w fun e w' => e = .returned (.tuple #[]) ∧ R w' := by
  have HC := Lib.hid hc
  have hg : ¬ (20 : Int) ≤ (n : Int) := by omega
  have hg2 : ¬ (20 : Int) < (n : Int) := by omega
  clear hc
  go_enter Try.func50, Try.ntmps50
  go_wp2
  go_loop [7, 8] (fun u v => u = .int .i64 0 ∧ v = .int .i64 20) (fun _ _ => 0)
  case atStart => exact ⟨rfl, rfl⟩
  case round =>
    obtain ⟨rfl, rfl⟩ := hrel
    go_wp2_with (go_at_call 54; refine HC.out.mono ?_; rintro e w' ⟨rfl, hw⟩; have HQ : Hid (R w') := hw; clear hw)
    go_loop [6] (fun v => v = .int .i64 20) (fun _ => 0)
    case atStart => rfl
    case round =>
      obtain rfl := hrel
      go_wp2
      go_end0
      exact ⟨rfl, HQ.out⟩

theorem stableF_of (A : Option Addr) (F : Value) (n cap : Nat) (R : World → Prop) (w : World) (hn : n ≤ 19)
    (hc : Calls Try.prog 54 #[.slice A n cap, .int .i64 0, .int .i64 n, F] w fun e w' => e = .returned (.tuple #[]) ∧ R w') :
    Calls Try.prog 41 #[.slice A n cap, F] w fun e w' => e = .returned (.tuple #[]) ∧ R w' := by
  have HC := Lib.hid (stable_of (.slice A n cap) F n R w hn hc)
  clear hc
  go_enter Try.func41, Try.ntmps41
  go_wp2_with (go_at_call 50; refine HC.out.mono ?_; rintro e w' ⟨rfl, hw⟩; have HQ : Hid (R w') := hw; clear hw)
  go_end0
  exact ⟨rfl, HQ.out⟩

/-- Of no element there is nothing to sort. -/
theorem insI_zero (V F : Value) (w : World) : Calls Try.prog 54 #[V, .int .i64 0, .int .i64 0, F] w fun e w' => e = .returned (.tuple #[]) ∧ w = w' := by
  go_enter Try.func54, Try.ntmps54
  go_wp2
  go_loop [8] (fun v => v = .int .i64 1) (fun _ => 0)
  case atStart => rfl
  case round =>
    obtain rfl := hrel
    go_wp2
    go_end0
    exact ⟨rfl, rfl⟩


section

variable {n : Nat} [Inhabited (El n)]
theorem below_sorted {B g m : Nat} {w0 W : World} {d : Array (El n)} {os : Array Obj} (h : Below B w0 W) (hg : B ≤ g) (hB : B ≤ W.heap.size) : Below B w0 (sortWorld encE W g 0 m d os) := by
  refine (Lib.below_putRow (enc := encE) (q := m) (d := d) h hg).trans ⟨rfl, rfl, rfl, ?_, fun k hk => ?_⟩
  · unfold sortWorld
    rw [size_grow]
    exact Nat.le_add_right _ _
  · exact heap_grow_old _ _ (by rw [size_putRow]; exact Nat.lt_of_lt_of_le hk hB)
theorem grown_sorted {W : World} {g q : Nat} (d : Array (El n)) : W.grownBy ((putRow encE W g 0 d).drewN q) (some g) := by
  refine ⟨rfl, rfl, rfl, ?_, fun k hk hne => ?_⟩
  · show W.heap.size ≤ (putRow encE W g 0 d).heap.size
    rw [size_putRow]
    exact Nat.le_refl _
  · have : g ≠ k := fun e => hne (by rw [e])
    show (putRow encE W g 0 d).heap[k]? = _
    simp [putRow, mapBlock, Array.getElem?_modify, this]
theorem encE_ints (d : List (El n)) : d.map encE = K.ints (d.map fun e => (e.1 : Int)) := by
  unfold K.ints
  rw [List.map_map]
  rfl

end


/-- The elements themselves. -/
def selves (m : Nat) : List Int := nats (List.range m)
theorem selves_len (m : Nat) : (selves m).length = m := by rw [selves, nats_len, List.length_range]
theorem size_cells {w : World} {g k : Nat} {v : Value} (h : w.cell? ⟨g, k, none⟩ = some v) : g < w.heap.size := by
  obtain ⟨c, e, fr, hb, _⟩ := cells_of_cell? h
  exact (Array.getElem?_eq_some_iff.1 hb).1

set_option maxHeartbeats 1600000 in
theorem sortI (A : Option Addr) (ws : List Int) (cap g c B m : Nat) (t : TypeId) (w0 W : World) (hm : ws.length = m) (h5 : m ≤ 5) (h : Ints w0 w0.heap.size A ws)
    (hS : St w0 W [il (.slice (some ⟨g, 0, none⟩) m c) m (selves m), bx B t [.slice A m cap]]) :
    Calls Try.prog 41 #[.slice (some ⟨g, 0, none⟩) m c, .func (.func 42) #[] #[.pointer (some ⟨B, 0, none⟩)]] W fun e w' =>
      e = .returned (.tuple #[]) ∧ St w0 w' [il (.slice (some ⟨g, 0, none⟩) m c) m (nats (ordN ws m)), bx B t [.slice A m cap]] := by
  by_cases h0 : m = 0
  · subst h0
    have e1 : selves 0 = nats (ordN ws 0) := rfl
    rw [e1] at hS
    refine (stableF_of _ _ 0 c (fun w' => W = w') W (by omega) ?_).mono fun e w' ⟨he, hw⟩ => ⟨he, hw ▸ hS⟩
    exact insI_zero _ _ W
  · haveI : Inhabited (El m) := ⟨⟨0, by omega⟩⟩
    obtain ⟨d, hd, hdv⟩ : ∃ d : Array (El m), d.size = m ∧ ∀ q, q < m → (d[q]!).1 = q := by
      refine ⟨Array.ofFn fun i : Fin m => (⟨i.1, i.2⟩ : El m), Array.size_ofFn, fun q hq => ?_⟩
      rw [getElem!_pos _ _ (by rw [Array.size_ofFn]; exact hq), Array.getElem_ofFn]
    have hself : d.toList.map (fun e => (e.1 : Int)) = selves m := by
      refine List.ext_getElem? fun q => ?_
      unfold selves nats
      rw [List.getElem?_map, List.getElem?_map]
      by_cases hq : q < m
      · rw [Array.getElem?_toList, Array.getElem?_eq_getElem (by omega), List.getElem?_eq_getElem (by rw [List.length_range]; exact hq), List.getElem_range, Option.map_some, Option.map_some, ← getElem!_pos d q (by omega), hdv q hq]
      · rw [List.getElem?_eq_none (by rw [Array.length_toList]; omega), List.getElem?_eq_none (by rw [List.length_range]; omega)]
        rfl
    have hown : W.ownsRow w0.heap.size 3 1 (.slice (some ⟨g, 0, none⟩) m c) m (d.toList.map encE) := by
      rw [encE_ints, hself]
      exact hS.own (i := 0) rfl
    obtain ⟨g', c', hv, hg0, hg1, -, -, -, hH⟩ := Lib.holds_of_ownsRow hown (by intro e; cases e)
    cases hv
    rw [Array.toArray_toList] at hH
    have hBg : g ≠ B := hS.apart (i := 0) (j := 1) rfl rfl (by omega) rfl rfl
    obtain ⟨hB0, hB1⟩ := hS.lt (i := 1) rfl
    have hBc := (hS.box (i := 1) rfl).1 0 _ rfl
    have hcmp : CmpReads Try.prog 42 #[.pointer (some ⟨B, 0, none⟩)] encE (byNum ws (n := m)) g 0 d.size W := fun mm os dk hdk x y => by
      have hb : Below w0.heap.size w0 (sortWorld encE W g 0 mm dk os) := below_sorted hS.base hg0 hS.size
      refine byI A ws cap B x.1 y.1 _ (by rw [hm]; exact x.2) (by rw [hm]; exact y.2) ((h.below hb).mono hb.size) ?_
      rw [hm]
      unfold sortWorld
      rw [cell?_grow _ _ _ (by rw [size_putRow]; exact hB1), cell?_putRow_other encE _ g 0 dk _ (.inl fun e => hBg e.symm)]
      exact hBc
    have eg : ∀ args w, (callFunc 42 args).run Try.prog w = .ok (.enter 42 args) w := enters_of Try.func42 (by kernel_rfl) rfl
    have hc0 := Any.insertionSortCmpFunc_one insLay encE one_encE (byNum ws (n := m)) 42 #[.pointer (some ⟨B, 0, none⟩)] g 0 c 0 m d W eg hcmp hH (Nat.zero_le _) (by omega) (by omega)
    rw [hd] at hc0
    refine (stableF_of _ _ m c (fun w' => ∃ q, w' = (putRow encE W g 0 (insertionSort (ltOf (byNum ws (n := m))) d 0 m)).drewN q) W (by omega) hc0).mono fun e w' ⟨he, q, hw⟩ => ⟨he, ?_⟩
    subst hw
    have hso := sorted_all ws d (by omega) hd hdv
    have hls := sorted_list ws hm hso
    have hsz := hso.1
    refine hS.markI (i := 0) rfl (grown_sorted _) ?_
    have := Lib.ownsRow_putRow (q := q) (k := m) (ys := (insertionSort (ltOf (byNum ws (n := m))) d 0 m).toList) hown (by rw [Array.length_toList]; exact hsz) (Nat.le_refl _)
    rw [Array.toArray_toList, List.take_of_length_le (by rw [Array.length_toList]; omega), encE_ints, hls] at this
    exact this

end Go.Proofs.Ytlbefommcahkeaa.C
