/-
  A sort in place by insertion, over the elements themselves, and the order of a vector.
  The contracts of impl.areWithin, areWeights, isVector, areVectors.
  The contracts of impl.isVector, areVectors.
  The contracts of impl.OrderFor and of what it calls of the library: a stable sort of few elements.
  The contract of impl.OrderFor.
  The contract of impl.gainsAlong.
  The contracts of impl.productSum, PairingOf.
  'copy' onto a list of the call's own that is as long: what the memory of a call knows of it.
-/
import Derived.Test.YtlbefommcahkeaaDoorAllM
import Derived.Sort.WalkA
import Derived.Shelf.SlSortCmp.Insertion
import Derived.Lib.Small
import Derived.Test.YtlbefommcahkeaaDoorBase
import Derived.Lib.OwnBridge
import Derived.Deep.QuietTactic
import Derived.Deep.RegionLaw
import Derived.Test.YtlbefommcahkeaaDoorVal
import Derived.StillTailTactics
import Derived.Laws.CopyOwn
namespace Go.Proofs.YtlbefommcahkeaaDoor.M
open Go.Sort
set_option linter.unusedVariables false
set_option linter.unusedSimpArgs false
set_option linter.unusedSectionVars false


section

variable {α : Type} [Inhabited α] (lt : α → α → Bool)
/-- Where a value sinks to. -/
def sinks (v : α) (f : Nat → α) : Nat → Nat
  | 0 => 0
  | k + 1 => if lt v (f k) = true then sinks v f k else k + 1
theorem sinks_le (v : α) (f : Nat → α) : ∀ j, sinks lt v f j ≤ j
  | 0 => Nat.le_refl _
  | k + 1 => by
    unfold sinks
    split
    · exact Nat.le_succ_of_le (sinks_le v f k)
    · exact Nat.le_refl _
theorem sinks_congr (v : α) (f g : Nat → α) : ∀ j, (∀ k, k < j → f k = g k) → sinks lt v f j = sinks lt v g j
  | 0, _ => rfl
  | k + 1, h => by rw [sinks, sinks, h k (by omega), sinks_congr v f g k fun q hq => h q (by omega)]
theorem swp_size (d : Array α) (i j : Nat) : (swp d i j).size = d.size := by simp [swp]
theorem swp_get (d : Array α) {i j q : Nat} (hi : i < d.size) (hj : j < d.size) (hq : q < d.size) : (swp d i j)[q]! = if q = j then d[i]! else if q = i then d[j]! else d[q]! := by
  rw [swp]
  simp only [getElem!_def, Array.getElem?_setIfInBounds, Array.size_setIfInBounds]
  by_cases h1 : q = j
  · subst h1
    simp [hj]
  · rw [if_neg h1, if_neg (fun h => h1 h.symm)]
    by_cases h2 : q = i
    · subst h2
      simp [hi]
    · rw [if_neg h2, if_neg (fun h => h2 h.symm)]
theorem ins_get : ∀ (j : Nat) (d : Array α), j < d.size → (insInner lt 0 j d).size = d.size ∧ ∀ q, q < d.size →
    (insInner lt 0 j d)[q]! = if q < sinks lt d[j]! (fun k => d[k]!) j then d[q]! else if q = sinks lt d[j]! (fun k => d[k]!) j then d[j]! else if q ≤ j then d[q - 1]! else d[q]!
  | 0, d, hj => by
    refine ⟨rfl, fun q hq => ?_⟩
    show d[q]! = _
    rw [sinks, if_neg (by omega)]
    by_cases e : q = 0
    · rw [if_pos e, e]
    · rw [if_neg e, if_neg (by omega)]
  | j + 1, d, hj => by
    rw [insInner]
    by_cases hl : lt d[j + 1]! d[j]! = true
    · have hc : (decide (j + 1 > 0) && lt d[j + 1]! d[j]!) = true := by rw [hl]; simp
      rw [if_pos hc]
      obtain ⟨h1, h2⟩ := ins_get j (swp d (j + 1) j) (by rw [swp_size]; omega)
      rw [swp_size] at h1 h2
      refine ⟨h1, fun q hq => ?_⟩
      have hv : (swp d (j + 1) j)[j]! = d[j + 1]! := by rw [swp_get d hj (by omega) (by omega), if_pos rfl]
      have hs : sinks lt d[j + 1]! (fun k => (swp d (j + 1) j)[k]!) j = sinks lt d[j + 1]! (fun k => d[k]!) j :=
        sinks_congr _ _ _ _ j fun k hk => by
          show (swp d (j + 1) j)[k]! = d[k]!
          rw [swp_get d hj (by omega) (by omega), if_neg (by omega), if_neg (by omega)]
      have he : sinks lt d[j + 1]! (fun k => d[k]!) (j + 1) = sinks lt d[j + 1]! (fun k => d[k]!) j := by rw [sinks, if_pos hl]
      rw [h2 q hq, hv, hs, he]
      have hp := sinks_le lt d[j + 1]! (fun k => d[k]!) j
      generalize sinks lt d[j + 1]! (fun k => d[k]!) j = p at hp ⊢
      by_cases c1 : q < p
      · rw [if_pos c1, if_pos c1, swp_get d hj (by omega) hq, if_neg (by omega), if_neg (by omega)]
      · rw [if_neg c1, if_neg c1]
        by_cases c2 : q = p
        · rw [if_pos c2, if_pos c2]
        · rw [if_neg c2, if_neg c2]
          by_cases c3 : q ≤ j
          · rw [if_pos c3, if_pos (by omega), swp_get d hj (by omega) (by omega), if_neg (by omega), if_neg (by omega)]
          · rw [if_neg c3]
            by_cases c4 : q = j + 1
            · subst c4
              rw [if_pos (Nat.le_refl _), swp_get d hj (by omega) hq, if_neg (by omega), if_pos rfl, Nat.add_sub_cancel]
            · rw [if_neg (by omega), swp_get d hj (by omega) hq, if_neg (by omega), if_neg (by omega)]
    · have hc : ¬ (decide (j + 1 > 0) && lt d[j + 1]! d[j]!) = true := by
        rw [Bool.and_eq_true]
        exact fun h => hl h.2
      rw [if_neg hc]
      refine ⟨rfl, fun q hq => ?_⟩
      have he : sinks lt d[j + 1]! (fun k => d[k]!) (j + 1) = j + 1 := by rw [sinks, if_neg hl]
      rw [he]
      by_cases c1 : q < j + 1
      · rw [if_pos c1]
      · rw [if_neg c1]
        by_cases c2 : q = j + 1
        · rw [if_pos c2, c2]
        · rw [if_neg c2, if_neg (by omega)]

end


/-- The elements below n. -/
abbrev El (n : Nat) := { k : Nat // k < n }
/-- What the order asks of two elements. -/
def byNum (ws : List Int) {n : Nat} (a b : El n) : Int := Lib.compareInt (ws.getD b.1 0) (ws.getD a.1 0)
theorem byNum_lt (ws : List Int) {n : Nat} (a b : El n) : ltOf (byNum ws) a b = decide (ws.getD b.1 0 < ws.getD a.1 0) := by
  unfold ltOf byNum Lib.compareInt
  congr 1
  apply propext
  constructor
  · intro h
    split at h
    · assumption
    · split at h <;> omega
  · intro h
    rw [if_pos h]
    decide
theorem take_mid (l : List Nat) (i p : Nat) (hp : p ≤ l.length) (q : Nat) : (l.take p ++ i :: l.drop p).getD q 0 = if q < p then l.getD q 0 else if q = p then i else l.getD (q - 1) 0 := by
  have hl : (l.take p).length = p := by rw [List.length_take]; omega
  by_cases c1 : q < p
  · rw [if_pos c1, List.getD_eq_getElem?_getD, List.getElem?_append_left (by omega), List.getElem?_take, if_pos c1, List.getD_eq_getElem?_getD]
  · rw [if_neg c1, List.getD_eq_getElem?_getD, List.getElem?_append_right (by omega), hl]
    by_cases c2 : q = p
    · rw [if_pos c2, c2, Nat.sub_self]
      rfl
    · rw [if_neg c2]
      obtain ⟨r, rfl⟩ : ∃ r, q = p + 1 + r := ⟨q - (p + 1), by omega⟩
      rw [show p + 1 + r - p = r + 1 by omega, List.getElem?_cons_succ, List.getElem?_drop, List.getD_eq_getElem?_getD, show p + 1 + r - 1 = p + r by omega]

section

variable {n : Nat} [Inhabited (El n)] (ws : List Int)
/-- The first i elements are in order, the others where they were. -/
def sortedTo (i : Nat) (d : Array (El n)) : Prop := d.size = n ∧ ∀ q, q < n → (d[q]!).1 = if q < i then (ordN ws i).getD q 0 else q
theorem sorted_step {i : Nat} {d : Array (El n)} (hi : i < n) (h : sortedTo ws i d) : sortedTo ws (i + 1) (insInner (ltOf (byNum ws)) 0 i d) := by
  obtain ⟨hs, hv⟩ := h
  obtain ⟨h1, h2⟩ := ins_get (ltOf (byNum ws)) i d (by omega)
  rw [hs] at h1 h2
  refine ⟨h1, fun q hq => ?_⟩
  have hvi : (d[i]!).1 = i := by rw [hv i hi, if_neg (by omega)]
  have hpl : ∀ j, j ≤ i → sinks (ltOf (byNum ws)) d[i]! (fun k => d[k]!) j = place ws (ws.getD i 0) (ordN ws i) j := by
    intro j
    induction j with
    | zero => exact fun _ => rfl
    | succ j ih =>
      intro hj
      have hvj : (d[j]!).1 = (ordN ws i).getD j 0 := by rw [hv j (by omega), if_pos (by omega)]
      rw [sinks, place, byNum_lt, hvi, hvj, ih (by omega)]
      by_cases c : ws.getD ((ordN ws i).getD j 0) 0 < ws.getD i 0
      · rw [if_pos c, if_pos (by rw [decide_eq_true c])]
      · rw [if_neg c, if_neg (by rw [decide_eq_false c]; decide)]
  have hol := ordN_len ws i
  have hp := (place_is ws (ws.getD i 0) (ordN ws i) i).1
  rw [h2 q hq, hpl i (Nat.le_refl _)]
  have e : (if q < i + 1 then (ordN ws (i + 1)).getD q 0 else q) = if q < i + 1 then (if q < place ws (ws.getD i 0) (ordN ws i) i then (ordN ws i).getD q 0 else if q = place ws (ws.getD i 0) (ordN ws i) i then i else (ordN ws i).getD (q - 1) 0) else q := by
    rw [ordN, hol, take_mid _ _ _ (by omega)]
  rw [e]
  generalize place ws (ws.getD i 0) (ordN ws i) i = p at hp ⊢
  by_cases c1 : q < p
  · rw [if_pos c1, if_pos (by omega), if_pos c1, hv q hq, if_pos (by omega)]
  · rw [if_neg c1]
    by_cases c2 : q = p
    · rw [if_pos c2, if_pos (by omega), if_neg c1, if_pos c2, hvi]
    · rw [if_neg c2]
      by_cases c3 : q ≤ i
      · rw [if_pos c3, if_pos (by omega), if_neg c1, if_neg c2, hv (q - 1) (by omega), if_pos (by omega)]
      · rw [if_neg c3, if_neg (by omega), hv q hq, if_neg (by omega)]
theorem sorted_out : ∀ (k i : Nat) (d : Array (El n)), n - i = k → i ≤ n → sortedTo ws i d → sortedTo ws n (insOuter (ltOf (byNum ws)) 0 n i d)
  | 0, i, d, hk, hi, h => by
    obtain rfl : i = n := by omega
    rw [insOuter_stop _ _ _ _ _ (by omega)]
    exact h
  | k + 1, i, d, hk, hi, h => by
    rw [insOuter_go _ _ _ _ _ (by omega)]
    exact sorted_out k (i + 1) _ (by omega) (by omega) (sorted_step ws (by omega) h)
/-- The elements themselves, in their order. -/
theorem sorted_all (d : Array (El n)) (hn : 0 < n) (hs : d.size = n) (hd : ∀ q, q < n → (d[q]!).1 = q) : sortedTo ws n (insertionSort (ltOf (byNum ws)) d 0 n) := by
  refine sorted_out ws (n - 1) (0 + 1) d (by omega) (by omega) ⟨hs, fun q hq => ?_⟩
  rw [hd q hq]
  split
  · obtain rfl : q = 0 := by omega
    rfl
  · rfl
/-- What the sort leaves is the order. -/
theorem sorted_list {d : Array (El n)} (hl : ws.length = n) (h : sortedTo ws n d) : d.toList.map (fun e => (e.1 : Int)) = nats (ordN ws n) := by
  obtain ⟨hs, hv⟩ := h
  refine List.ext_getElem? fun q => ?_
  unfold nats
  rw [List.getElem?_map, List.getElem?_map]
  by_cases hq : q < n
  · have e1 : d.toList[q]? = some d[q]! := by
      rw [Array.getElem?_toList, getElem!_def]
      rw [Array.getElem?_eq_getElem (by omega)]
    have e2 : (ordN ws n)[q]? = some ((ordN ws n).getD q 0) := by
      rw [List.getD_eq_getElem?_getD, List.getElem?_eq_getElem (by rw [ordN_len]; omega)]
      rfl
    rw [e1, e2, Option.map_some, Option.map_some, hv q hq, if_pos hq]
  · rw [List.getElem?_eq_none (by rw [Array.length_toList]; omega), List.getElem?_eq_none (by rw [ordN_len]; omega)]
    rfl

end


end Go.Proofs.YtlbefommcahkeaaDoor.M

namespace Go.Proofs.YtlbefommcahkeaaDoor.C
open Go.RowKit K M
set_option linter.unusedVariables false
set_option linter.unusedSimpArgs false

theorem withinI_yes (L : Int) (A : Option Addr) (ws : List Int) (cap : Nat) (w : World) (h : Hid (Ints w w.heap.size A ws)) (h0 : 0 ≤ L) (h1 : L ≤ 1000000) (hl : ws.length ≤ 1048576) (hv : ∀ k, k < ws.length → -L ≤ ws.getD k 0 ∧ ws.getD k 0 ≤ L) :
    Calls Tryd.prog 52 #[.int .i64 L, .slice A ws.length cap] w fun e w' => e = .returned (.bool true) ∧ w = w' := by
  have HV := Lib.hid hv
  obtain ⟨m, hm⟩ : ∃ m, ws.length = m := ⟨_, rfl⟩
  have HX := Lib.hid hm
  have hng : IntKind.i64.wrap (-L) = -L := IntWalk.i64_in _ (by omega)
  rw [hm] at hl ⊢
  clear hv hm
  go_enter Tryd.func52, Tryd.ntmps52
  go_wp2
  go_loop [9] (fun i => ∃ k : Nat, k ≤ m ∧ i = .int .i64 k) (fun i => m - (intOf i).toNat)
  case atStart => exact ⟨0, Nat.zero_le _, rfl⟩
  case round =>
    obtain ⟨k, hk, rfl⟩ := hrel
    by_cases hlt : k < m
    · obtain ⟨b, off, rfl, hbl, hc⟩ := h.out.at_ (k := k) (by rw [HX.out]; omega)
      have hk0 : (0 : Int) ≤ (k : Int) := by omega
      have hkn : (k : Int) < (m : Int) := by omega
      obtain ⟨v1, v2⟩ := HV.out k (by rw [HX.out]; exact hlt)
      generalize ws.getD k 0 = x at hc v1 v2
      have v1' : ¬ x < -L := by omega
      have v2' : ¬ L < x := by omega
      go_wp2
      go_round
      case rel => exact ⟨k + 1, by omega, by go_num⟩
      case measure => simp [intOf]; omega
    · obtain rfl : k = m := by omega
      have hkn : ¬ (k : Int) < (k : Int) := by omega
      go_wp2
      go_ret
      exact ⟨rfl, rfl⟩

theorem withinI_no (L : Int) (A : Option Addr) (ws : List Int) (cap : Nat) (w : World) (h : Hid (Ints w w.heap.size A ws)) (h0 : 0 ≤ L) (h1 : L ≤ 1000000) (hl : ws.length ≤ 1048576) (j : Nat) (hj : j < ws.length) (hb : ws.getD j 0 < -L ∨ L < ws.getD j 0) (hv : ∀ k, k < j → -L ≤ ws.getD k 0 ∧ ws.getD k 0 ≤ L) :
    Calls Tryd.prog 52 #[.int .i64 L, .slice A ws.length cap] w fun e w' => e = .returned (.bool false) ∧ w = w' := by
  have HV := Lib.hid hv
  have HB := Lib.hid hb
  obtain ⟨m, hm⟩ : ∃ m, ws.length = m := ⟨_, rfl⟩
  have HX := Lib.hid hm
  have hng : IntKind.i64.wrap (-L) = -L := IntWalk.i64_in _ (by omega)
  rw [hm] at hj hl ⊢
  clear hv hm hb
  go_enter Tryd.func52, Tryd.ntmps52
  go_wp2
  go_loop [9] (fun i => ∃ k : Nat, k ≤ j ∧ i = .int .i64 k) (fun i => m - (intOf i).toNat)
  case atStart => exact ⟨0, Nat.zero_le _, rfl⟩
  case round =>
    obtain ⟨k, hk, rfl⟩ := hrel
    obtain ⟨b, off, rfl, hbl, hc⟩ := h.out.at_ (k := k) (by rw [HX.out]; omega)
    have hk0 : (0 : Int) ≤ (k : Int) := by omega
    have hkn : (k : Int) < (m : Int) := by omega
    by_cases hlt : k < j
    · obtain ⟨v1, v2⟩ := HV.out k hlt
      generalize ws.getD k 0 = x at hc v1 v2
      have v1' : ¬ x < -L := by omega
      have v2' : ¬ L < x := by omega
      go_wp2
      go_round
      case rel => exact ⟨k + 1, by omega, by go_num⟩
      case measure => simp [intOf]; omega
    · obtain rfl : k = j := by omega
      have hb := HB.out
      clear HB HV
      generalize ws.getD k 0 = x at hc hb
      by_cases c1 : x < -L
      · clear hb
        go_wp2
        go_ret
        exact ⟨rfl, rfl⟩
      · have c2 : L < x := by omega
        clear hb
        go_wp2
        go_ret
        exact ⟨rfl, rfl⟩

theorem areI_yes (A : Option Addr) (ws : List Int) (cap : Nat) (w : World) (h : Hid (Ints w w.heap.size A ws)) (hl : ws.length ≤ 1048576) (hv : weightsOk ws) :
    Calls Tryd.prog 49 #[.slice A ws.length cap] w fun e w' => e = .returned (.bool true) ∧ w = w' := by
  have HC := Lib.hid (withinI_yes 1000 A ws cap w h (by decide) (by decide) hl hv)
  clear hv h
  go_enter Tryd.func49, Tryd.ntmps49
  go_wp2_with (go_at_call 52; refine HC.out.mono ?_; rintro e w' ⟨rfl, rfl⟩)
  go_ret
  exact ⟨rfl, rfl⟩

theorem areI_no (A : Option Addr) (ws : List Int) (cap : Nat) (w : World) (h : Hid (Ints w w.heap.size A ws)) (hl : ws.length ≤ 1048576) (j : Nat) (hj : j < ws.length) (hb : ws.getD j 0 < -1000 ∨ 1000 < ws.getD j 0) (hv : ∀ k, k < j → -1000 ≤ ws.getD k 0 ∧ ws.getD k 0 ≤ 1000) :
    Calls Tryd.prog 49 #[.slice A ws.length cap] w fun e w' => e = .returned (.bool false) ∧ w = w' := by
  have HC := Lib.hid (withinI_no 1000 A ws cap w h (by decide) (by decide) hl j hj hb hv)
  clear hv h hb hj
  go_enter Tryd.func49, Tryd.ntmps49
  go_wp2_with (go_at_call 52; refine HC.out.mono ?_; rintro e w' ⟨rfl, rfl⟩)
  go_ret
  exact ⟨rfl, rfl⟩

end Go.Proofs.YtlbefommcahkeaaDoor.C

namespace Go.Proofs.YtlbefommcahkeaaDoor.C
open Go.RowKit K M
set_option linter.unusedVariables false
set_option linter.unusedSimpArgs false

theorem isVecI_any (A : Option Addr) (ws : List Int) (cap : Nat) (w : World) (h : Hid (Ints w w.heap.size A ws)) (hl : ws.length ≤ 1048576) :
    Calls Tryd.prog 40 #[.slice A ws.length cap] w fun e w' => e = .returned (.bool (isVec ws)) ∧ w = w' := by
  by_cases h5 : ws.length ≤ 5
  · have hg : (ws.length : Int) ≤ 5 := by omega
    by_cases hv : ∀ k, k < ws.length → -1000 ≤ ws.getD k 0 ∧ ws.getD k 0 ≤ 1000
    · have HC := Lib.hid (areI_yes A ws cap w h hl hv)
      rw [isVec_good hv, decide_eq_true h5]
      clear hv h
      go_enter Tryd.func40, Tryd.ntmps40
      go_wp2_with (go_at_call 49; refine HC.out.mono ?_; rintro e w' ⟨rfl, rfl⟩)
      go_ret
      exact ⟨rfl, rfl⟩
    · obtain ⟨j, hj, hb, hk⟩ := vec_bad hv
      have HC := Lib.hid (areI_no A ws cap w h hl j hj hb hk)
      rw [isVec_bad hj hb]
      clear hv h hb hk hj
      go_enter Tryd.func40, Tryd.ntmps40
      go_wp2_with (go_at_call 49; refine HC.out.mono ?_; rintro e w' ⟨rfl, rfl⟩)
      go_ret
      exact ⟨rfl, rfl⟩
  · have hg : ¬ (ws.length : Int) ≤ 5 := by omega
    have e : isVec ws = false := by unfold isVec; rw [decide_eq_false h5, Bool.false_and]
    rw [e]
    clear h e
    go_enter Tryd.func40, Tryd.ntmps40
    go_wp2
    go_ret
    exact ⟨rfl, rfl⟩


section

end


end Go.Proofs.YtlbefommcahkeaaDoor.C

namespace Go.Proofs.YtlbefommcahkeaaDoor.C
open Go.RowKit K M Go.Sort
set_option linter.unusedVariables false
set_option linter.unusedSimpArgs false
set_option linter.unusedSectionVars false

theorem quiet_same {P : Program} {f : FuncId} {args : Array Value} {w : World} {n : Nat} {v : Value} (h : Calls P f args (w.drewN n) fun e w' => e = .returned v ∧ w.drewN n = w') :
    Calls P f args (w.drewN n) fun e w'' => e = .returned v ∧ ∃ m, w'' = w.drewN m :=
  h.mono fun _ _ ⟨he, hq⟩ => ⟨he, n, hq.symm⟩

theorem nanI (x : Int) (w : World) : Calls Tryd.prog 51 #[.int .i64 x] w fun e w' => e = .returned (.bool false) ∧ w = w' := by
  go_enter Tryd.func51, Tryd.ntmps51
  go_wp2
  go_ret
  exact ⟨by simp, rfl⟩

theorem cmpI (x y : Int) (w : World) : Calls Tryd.prog 43 #[.int .i64 x, .int .i64 y] w fun e w' => e = .returned (.int .i64 (Lib.compareInt x y)) ∧ w = w' := by
  go_enter Tryd.func43, Tryd.ntmps43
  go_wp2_with (go_at_call 51; refine (nanI _ _).mono ?_; rintro e w' ⟨rfl, rfl⟩)
  all_goals (go_ret; refine ⟨?_, rfl⟩; unfold Lib.compareInt; (repeat' split) <;> first | rfl | (exfalso; omega))

set_option maxHeartbeats 1600000 in
theorem byI (A : Option Addr) (ws : List Int) (cap B i k : Nat) (W : World) (hi : i < ws.length) (hk : k < ws.length) (h : Ints W W.heap.size A ws) (hB : W.cell? ⟨B, 0, none⟩ = some (.slice A ws.length cap)) :
    Calls Tryd.prog 42 #[.int .i64 i, .int .i64 k, .pointer (some ⟨B, 0, none⟩)] W fun e w' => e = .returned (.int .i64 (Lib.compareInt (ws.getD k 0) (ws.getD i 0))) ∧ ∃ q, w' = W.drewN q := by
  obtain ⟨b, off, rfl, hbl, hc⟩ := h.at_ hi
  obtain ⟨b', off', e', hbl', hc'⟩ := h.at_ hk
  cases e'
  have hcm := Lib.hid (fun W' => cmpI (ws.getD k 0) (ws.getD i 0) W')
  generalize Lib.compareInt (ws.getD k 0) (ws.getD i 0) = r at hcm ⊢
  generalize ws.getD k 0 = x at *
  generalize ws.getD i 0 = y at *
  obtain ⟨m, hm⟩ : ∃ m, ws.length = m := ⟨_, rfl⟩
  rw [hm] at hi hk hB
  have hi0 : (0 : Int) ≤ (i : Int) := by omega
  have hin : (i : Int) < (m : Int) := by omega
  have hk0 : (0 : Int) ≤ (k : Int) := by omega
  have hkn : (k : Int) < (m : Int) := by omega
  clear h hm
  go_enter Tryd.func42, Tryd.ntmps42
  go_wp2
  go_quiet ((go_at_call 43; exact quiet_same (hcm.out _)))
  go_wp2
  go_ret
  exact ⟨rfl, _, rfl⟩

section

variable {n : Nat} [Inhabited (El n)]
def encE (e : El n) : Value := .int .i64 (e.1 : Int)
theorem one_encE : OneCell (encE (n := n)) := fun _ => rfl

def insRen : Go.Shelf.Ren := ⟨fun | 20 => 55 | k => k, fun | 0 => 0 | 3 => 3 | 4 => 4 | 22 => 22 | 24 => 3 | 25 => 53 | k => k, fun k => k⟩
theorem insLay : SlLaysF.n20 Tryd.prog insRen := {
  mixed := by kernel_rfl
  f20 := ⟨Tryd.f55.name, by kernel_rfl, Tryd.func55.trans (congrArg some (by kernel_rfl))⟩
  t0 := Tryd.underlying0
  a0 := Tryd.isAgg0
  z0 := Tryd.sizeOf0
  v0 := Tryd.zeroValue0
  t3 := Tryd.underlying3
  a3 := Tryd.isAgg3
  z3 := Tryd.sizeOf3
  v3 := Tryd.zeroValue3
  t4 := Tryd.underlying4
  a4 := Tryd.isAgg4
  z4 := Tryd.sizeOf4
  v4 := Tryd.zeroValue4
  t22 := Tryd.underlying22
  a22 := Tryd.isAgg22
  z22 := Tryd.sizeOf22
  v22 := Tryd.zeroValue22
  a24 := Tryd.isAgg3
  z24 := Tryd.sizeOf3
  t25 := Tryd.underlying53
  a25 := Tryd.isAgg53
  z25 := Tryd.sizeOf53
  v25 := Tryd.zeroValue53 }



end


/-- A stable sort of fewer than twenty: one sort by insertion. -/
theorem stable_of (V F : Value) (n : Nat) (R : World → Prop) (w : World) (hn : n ≤ 19)
    (hc : Calls Tryd.prog 55 #[V, .int .i64 0, .int .i64 n, F] w fun e w' => e = .returned (.tuple #[]) ∧ R w') :
    Calls Tryd.prog 50 #[V, .int .i64 n, F] w fun e w' => e = .returned (.tuple #[]) ∧ R w' := by
  have HC := Lib.hid hc
  have hg : ¬ (20 : Int) ≤ (n : Int) := by omega
  have hg2 : ¬ (20 : Int) < (n : Int) := by omega
  clear hc
  go_enter Tryd.func50, Tryd.ntmps50
  go_wp2
  go_loop [7, 8] (fun u v => u = .int .i64 0 ∧ v = .int .i64 20) (fun _ _ => 0)
  case atStart => exact ⟨rfl, rfl⟩
  case round =>
    obtain ⟨rfl, rfl⟩ := hrel
    go_wp2_with (go_at_call 55; refine HC.out.mono ?_; rintro e w' ⟨rfl, hw⟩; have HQ : Hid (R w') := hw; clear hw)
    go_loop [6] (fun v => v = .int .i64 20) (fun _ => 0)
    case atStart => rfl
    case round =>
      obtain rfl := hrel
      go_wp2
      go_end0
      exact ⟨rfl, HQ.out⟩

theorem stableF_of (A : Option Addr) (F : Value) (n cap : Nat) (R : World → Prop) (w : World) (hn : n ≤ 19)
    (hc : Calls Tryd.prog 55 #[.slice A n cap, .int .i64 0, .int .i64 n, F] w fun e w' => e = .returned (.tuple #[]) ∧ R w') :
    Calls Tryd.prog 41 #[.slice A n cap, F] w fun e w' => e = .returned (.tuple #[]) ∧ R w' := by
  have HC := Lib.hid (stable_of (.slice A n cap) F n R w hn hc)
  clear hc
  go_enter Tryd.func41, Tryd.ntmps41
  go_wp2_with (go_at_call 50; refine HC.out.mono ?_; rintro e w' ⟨rfl, hw⟩; have HQ : Hid (R w') := hw; clear hw)
  go_end0
  exact ⟨rfl, HQ.out⟩

/-- Of no element there is nothing to sort. -/
theorem insI_zero (V F : Value) (w : World) : Calls Tryd.prog 55 #[V, .int .i64 0, .int .i64 0, F] w fun e w' => e = .returned (.tuple #[]) ∧ w = w' := by
  go_enter Tryd.func55, Tryd.ntmps55
  go_wp2
  go_loop [8] (fun v => v = .int .i64 1) (fun _ => 0)
  case atStart => rfl
  case round =>
    obtain rfl := hrel
    go_wp2
    go_end0
    exact ⟨rfl, rfl⟩


section

variable {n : Nat} [Inhabited (El n)]
theorem below_sorted {B g m : Nat} {w0 W : World} {d : Array (El n)} {os : Array Obj} (h : Below B w0 W) (hg : B ≤ g) (hB : B ≤ W.heap.size) : Below B w0 (sortWorld encE W g 0 m d os) := by
  refine (Lib.below_putRow (enc := encE) (q := m) (d := d) h hg).trans ⟨rfl, rfl, rfl, ?_, fun k hk => ?_⟩
  · unfold sortWorld
    rw [size_grow]
    exact Nat.le_add_right _ _
  · exact heap_grow_old _ _ (by rw [size_putRow]; exact Nat.lt_of_lt_of_le hk hB)
theorem grown_sorted {W : World} {g q : Nat} (d : Array (El n)) : W.grownBy ((putRow encE W g 0 d).drewN q) (some g) := by
  refine ⟨rfl, rfl, rfl, ?_, fun k hk hne => ?_⟩
  · show W.heap.size ≤ (putRow encE W g 0 d).heap.size
    rw [size_putRow]
    exact Nat.le_refl _
  · have : g ≠ k := fun e => hne (by rw [e])
    show (putRow encE W g 0 d).heap[k]? = _
    simp [putRow, mapBlock, Array.getElem?_modify, this]
theorem encE_ints (d : List (El n)) : d.map encE = K.ints (d.map fun e => (e.1 : Int)) := by
  unfold K.ints
  rw [List.map_map]
  rfl

end


/-- The elements themselves. -/
def selves (m : Nat) : List Int := nats (List.range m)
theorem selves_len (m : Nat) : (selves m).length = m := by rw [selves, nats_len, List.length_range]
theorem size_cells {w : World} {g k : Nat} {v : Value} (h : w.cell? ⟨g, k, none⟩ = some v) : g < w.heap.size := by
  obtain ⟨c, e, fr, hb, _⟩ := cells_of_cell? h
  exact (Array.getElem?_eq_some_iff.1 hb).1

set_option maxHeartbeats 1600000 in
theorem sortI (A : Option Addr) (ws : List Int) (cap g c B m : Nat) (t : TypeId) (w0 W : World) (hm : ws.length = m) (h5 : m ≤ 5) (h : Ints w0 w0.heap.size A ws)
    (hS : St w0 W [il (.slice (some ⟨g, 0, none⟩) m c) m (selves m), bx B t [.slice A m cap]]) :
    Calls Tryd.prog 41 #[.slice (some ⟨g, 0, none⟩) m c, .func (.func 42) #[] #[.pointer (some ⟨B, 0, none⟩)]] W fun e w' =>
      e = .returned (.tuple #[]) ∧ St w0 w' [il (.slice (some ⟨g, 0, none⟩) m c) m (nats (ordN ws m)), bx B t [.slice A m cap]] := by
  by_cases h0 : m = 0
  · subst h0
    have e1 : selves 0 = nats (ordN ws 0) := rfl
    rw [e1] at hS
    refine (stableF_of _ _ 0 c (fun w' => W = w') W (by omega) ?_).mono fun e w' ⟨he, hw⟩ => ⟨he, hw ▸ hS⟩
    exact insI_zero _ _ W
  · haveI : Inhabited (El m) := ⟨⟨0, by omega⟩⟩
    obtain ⟨d, hd, hdv⟩ : ∃ d : Array (El m), d.size = m ∧ ∀ q, q < m → (d[q]!).1 = q := by
      refine ⟨Array.ofFn fun i : Fin m => (⟨i.1, i.2⟩ : El m), Array.size_ofFn, fun q hq => ?_⟩
      rw [getElem!_pos _ _ (by rw [Array.size_ofFn]; exact hq), Array.getElem_ofFn]
    have hself : d.toList.map (fun e => (e.1 : Int)) = selves m := by
      refine List.ext_getElem? fun q => ?_
      unfold selves nats
      rw [List.getElem?_map, List.getElem?_map]
      by_cases hq : q < m
      · rw [Array.getElem?_toList, Array.getElem?_eq_getElem (by omega), List.getElem?_eq_getElem (by rw [List.length_range]; exact hq), List.getElem_range, Option.map_some, Option.map_some, ← getElem!_pos d q (by omega), hdv q hq]
      · rw [List.getElem?_eq_none (by rw [Array.length_toList]; omega), List.getElem?_eq_none (by rw [List.length_range]; omega)]
        rfl
    have hown : W.ownsRow w0.heap.size 3 1 (.slice (some ⟨g, 0, none⟩) m c) m (d.toList.map encE) := by
      rw [encE_ints, hself]
      exact hS.own (i := 0) rfl
    obtain ⟨g', c', hv, hg0, hg1, -, -, -, hH⟩ := Lib.holds_of_ownsRow hown (by intro e; cases e)
    cases hv
    rw [Array.toArray_toList] at hH
    have hBg : g ≠ B := hS.apart (i := 0) (j := 1) rfl rfl (by omega) rfl rfl
    obtain ⟨hB0, hB1⟩ := hS.lt (i := 1) rfl
    have hBc := (hS.box (i := 1) rfl).1 0 _ rfl
    have hcmp : CmpReads Tryd.prog 42 #[.pointer (some ⟨B, 0, none⟩)] encE (byNum ws (n := m)) g 0 d.size W := fun mm os dk hdk x y => by
      have hb : Below w0.heap.size w0 (sortWorld encE W g 0 mm dk os) := below_sorted hS.base hg0 hS.size
      refine byI A ws cap B x.1 y.1 _ (by rw [hm]; exact x.2) (by rw [hm]; exact y.2) ((h.below hb).mono hb.size) ?_
      rw [hm]
      unfold sortWorld
      rw [cell?_grow _ _ _ (by rw [size_putRow]; exact hB1), cell?_putRow_other encE _ g 0 dk _ (.inl fun e => hBg e.symm)]
      exact hBc
    have eg : ∀ args w, (callFunc 42 args).run Tryd.prog w = .ok (.enter 42 args) w := enters_of Tryd.func42 (by kernel_rfl) rfl
    have hc0 := Any.insertionSortCmpFunc_one insLay encE one_encE (byNum ws (n := m)) 42 #[.pointer (some ⟨B, 0, none⟩)] g 0 c 0 m d W eg hcmp hH (Nat.zero_le _) (by omega) (by omega)
    rw [hd] at hc0
    refine (stableF_of _ _ m c (fun w' => ∃ q, w' = (putRow encE W g 0 (insertionSort (ltOf (byNum ws (n := m))) d 0 m)).drewN q) W (by omega) hc0).mono fun e w' ⟨he, q, hw⟩ => ⟨he, ?_⟩
    subst hw
    have hso := sorted_all ws d (by omega) hd hdv
    have hls := sorted_list ws hm hso
    have hsz := hso.1
    refine hS.markI (i := 0) rfl (grown_sorted _) ?_
    have := Lib.ownsRow_putRow (q := q) (k := m) (ys := (insertionSort (ltOf (byNum ws (n := m))) d 0 m).toList) hown (by rw [Array.length_toList]; exact hsz) (Nat.le_refl _)
    rw [Array.toArray_toList, List.take_of_length_le (by rw [Array.length_toList]; omega), encE_ints, hls] at this
    exact this

end Go.Proofs.YtlbefommcahkeaaDoor.C

namespace Go.Proofs.YtlbefommcahkeaaDoor.C
open Go.RowKit K M
set_option linter.unusedVariables false
set_option linter.unusedSimpArgs false


section

variable (A : Option Addr) (ws : List Int) (cap : Nat) (w : World) (h : Hid (Ints w w.heap.size A ws)) (hl : ws.length ≤ 1048576)
include h hl
theorem ordI_no (hf : isVec ws = false) : Calls Tryd.prog 29 #[.slice A ws.length cap] w (RetIB w [] false) := by
  have HW := Lib.hid (St.start w)
  have HF := Lib.hid (fun W h1 => isVecI_any A ws cap W (Lib.hid h1) hl)
  rw [hf] at HF
  clear hf
  have HS := Lib.hid (HW.out.alloc [.slice A ws.length cap] 22)
  go_enter Tryd.func29, Tryd.ntmps29
  go_wp2_with (go_at_call 40; refine (HF.out _ ((h.out.below HS.out.base).mono HS.out.size)).mono ?_; rintro e w' ⟨rfl, rfl⟩)
  go_ret2
  exact ⟨none, 0, rfl, K.Own.nil _ _, HS.out.base⟩

set_option maxRecDepth 100000 in
set_option maxHeartbeats 1600000 in
theorem ordI_yes (hf : isVec ws = true) : Calls Tryd.prog 29 #[.slice A ws.length cap] w (RetIB w (nats (ordN ws ws.length)) true) := by
  have HW := Lib.hid (St.start w)
  have HF := Lib.hid (fun W h1 => isVecI_any A ws cap W (Lib.hid h1) hl)
  rw [hf] at HF
  have hm5 := (isVec_yes hf).1
  obtain ⟨m, hm⟩ : ∃ m, ws.length = m := ⟨_, rfl⟩
  rw [hm] at HF hm5 ⊢
  have HSO := Lib.hid (fun W g c B t hS => sortI A ws cap g c B m t w W hm hm5 h.out hS)
  have hln : (nats (ordN ws m)).length = m := by rw [nats_len, ordN_len]
  generalize nats (ordN ws m) = os at HSO hln ⊢
  have HLN := Lib.hid hln
  clear hf hm hl hln
  have HS := Lib.hid (HW.out.alloc [.slice A m cap] 22)
  obtain ⟨i0, hi, hi0, hi1, hi2⟩ := info_parts info_int
  go_enter Tryd.func29, Tryd.ntmps29
  go_wp2_with (first
    | (go_at_call 40; refine (HF.out _ ((h.out.below HS.out.base).mono HS.out.size)).mono ?_; rintro e w' ⟨rfl, rfl⟩)
    | (refine wpList_make_full _ rfl _ _ _ rfl (w.heap.size + 1) 3 i0 (.int .i64 0) 1 Tryd.underlying22 hi hi0 hi1 .i64 .i64 _ _ m rfl rfl rfl rfl (by rw [hi2]; omega) (by unfold maxLen; omega) (by simp) ?_; intro w1 hown1 hg1))
  rw [zeros] at hown1
  simp only [World.size_alloc] at hown1
  have HS1 := Lib.hid (show St w _ [il (.slice (some ⟨w.heap.size + 1, 0, none⟩) m m) m (List.replicate m 0), bx w.heap.size 22 [.slice A m cap]] from ((HW.out.alloc _ _).new ((Below.refl _ _).grown hg1 (Nat.le_refl _) (by simp)) (by rw [World.size_alloc]; exact hown1)))
  clear hown1 hg1 hi hi0 hi1 hi2
  go_loopw [14] (fun i wr => ∃ (j : Nat) (ys : List Int), i = .int .i64 j ∧ j ≤ m ∧ ys.length = m ∧ ys.take j = tab j (fun k => (k : Int)) ∧ St w wr [il (.slice (some ⟨w.heap.size + 1, 0, none⟩) m m) m ys, bx w.heap.size 22 [.slice A m cap]]) (fun i _ => m - (intOf i).toNat)
  case atStart => exact ⟨0, _, rfl, Nat.zero_le _, by simp, by simp [tab], HS1.out⟩
  case round =>
    obtain ⟨j, ys, rfl, hj, hy, ht, hS⟩ := hrel
    have HL := Lib.hid hy
    have HT := Lib.hid ht
    have HR := Lib.hid hS
    by_cases hlt : j < m
    · obtain ⟨c1, c2⟩ := hS.cellI (i := 0) rfl hlt
      have hj0 : (0 : Int) ≤ (j : Int) := by omega
      have hjn : (j : Int) < (m : Int) := by omega
      clear hS hy ht
      go_wp2
      have hS2 := HR.out.setI (i := 0) rfl j (j : Int)
      have HS2 := Lib.hid hS2
      clear hS2
      go_roundw
      case rel => exact ⟨j + 1, ys.set j (j : Int), by go_num, by omega, by rw [List.length_set]; exact HL.out, tab_set (fun k => (k : Int)) HL.out HT.out hlt, HS2.out⟩
      case measure => simp [intOf]; omega
    · obtain rfl : j = m := by omega
      have hjn : ¬ (j : Int) < (j : Int) := by omega
      have e1 : ys = selves j := by
        rw [List.take_of_length_le (by omega)] at ht
        rw [ht]
        unfold tab selves nats
        rfl
      subst e1
      clear hS hy ht HL HT
      go_wp2_with (go_at_call 41; refine (HSO.out _ _ _ _ _ HR.out).mono ?_; rintro e w2 ⟨rfl, hS⟩; have HS2 := Lib.hid hS; clear hS)
      go_ret2
      exact ⟨some ⟨w.heap.size + 1, 0, none⟩, j, by rw [HLN.out]; rfl, by rw [HLN.out]; exact HS2.out.ownI (i := 0) rfl, HS2.out.base⟩

theorem ordI_any : Calls Tryd.prog 29 #[.slice A ws.length cap] w (RetIB w (orderFor ws).1 (orderFor ws).2) := by
  unfold orderFor
  cases hf : isVec ws
  · exact ordI_no A ws cap w h hl hf
  · exact ordI_yes A ws cap w h hl hf

end


end Go.Proofs.YtlbefommcahkeaaDoor.C

namespace Go.Proofs.YtlbefommcahkeaaDoor.C
open Go.RowKit K M
set_option linter.unusedVariables false
set_option linter.unusedSimpArgs false

end Go.Proofs.YtlbefommcahkeaaDoor.C

namespace Go.Proofs.YtlbefommcahkeaaDoor.C
open Go.RowKit K M
set_option linter.unusedVariables false
set_option linter.unusedSimpArgs false


section

end


end Go.Proofs.YtlbefommcahkeaaDoor.C

namespace Go.Proofs.YtlbefommcahkeaaDoor.K
open Go.RowKit
set_option linter.unusedVariables false


section

variable {w0 w : World} {L : List Cel}

theorem add_at (b off j : Nat) : (⟨b, off, none⟩ : Addr).add j = ⟨b, off + j, none⟩ := by unfold Addr.add; split <;> simp_all
theorem grown_setRow (w : World) (g : Nat) (cs : Array Value) : w.grownBy (w.setRow g cs) (some g) :=
  ⟨rfl, rfl, rfl, by simp [World.setRow], fun k hk hne => setRow_other w g k cs (by intro e; subst e; exact hne rfl)⟩

theorem wpList_copyI {ops : Array Oper} {rest : List Oper} {o' : Oper} {a : Act} {Q : Exit → Act → World → Prop} (hgd : o'.guard = none) (d s : Operand) (t : TypeId)
    (ho : o'.op = .call { callee := .builtin .copy, args := #[d, s], argTypes := #[t, t] }) {i g n c cap : Nat} {A : Option Addr} {xs ys : List Int} (hu : Tryd.prog.underlying t = some (.slice 3)) (hsz : (Tryd.prog.info? 3).map (·.size) = some 1)
    (h : St w0 w L) (hi : L[i]? = some (il (.slice (some ⟨g, 0, none⟩) n c) n ys)) (hs : Ints w w.heap.size A xs) (hx : xs.length = n) (hd : a.eval d = .slice (some ⟨g, 0, none⟩) n c) (hse : a.eval s = .slice A n cap)
    (hK : ∀ w', St w0 w' (L.set i (il (.slice (some ⟨g, 0, none⟩) n c) n xs)) → wpList Tryd.prog ops Q rest (a.put o'.dst (goInt n)) w') : wpList Tryd.prog ops Q (o' :: rest) a w := by
  have hown := h.own hi
  obtain ⟨hl, hcase⟩ := hown
  rcases hcase with ⟨hv, -⟩ | ⟨g', cap', cur, hv, hb, hg, hnc, hcm, hcs, htake⟩
  · injection hv with h1 _ _; cases h1
  · obtain ⟨rfl, rfl⟩ : g = g' ∧ c = cap' := by
      injection hv with h1 _ h3
      injection h1 with h1
      injection h1 with h1 _ _
      exact ⟨h1, h3⟩
    clear hv
    have hyl : ys.length = n := by simpa [il, K.ints] using hl
    by_cases h0 : n = 0
    · subst h0
      obtain rfl : xs = [] := List.eq_nil_of_length_eq_zero hx
      obtain rfl : ys = [] := List.eq_nil_of_length_eq_zero hyl
      refine wpList_copy_nothing hgd d s t t ho 3 hu hsz _ _ _ _ _ _ hd hse rfl ?_
      refine hK w ?_
      obtain ⟨hlt, he⟩ := List.getElem?_eq_some_iff.1 hi
      rw [← he, List.set_getElem_self]
      exact h
    · obtain ⟨b, off, rfl, hbl, hc⟩ := hs (by omega)
      have hcur : n ≤ cur.size := by
        have : cur.size = c * 1 := hcs
        have : n ≤ c := hnc
        omega
      have hlen : (K.ints xs).length = n := by simp [K.ints, hx]
      refine wpList_copy_own hgd d s t t ho 3 hu hsz g 0 n c ⟨b, off, none⟩ n cap hd hse cur _ hg (K.ints xs) (by rw [hlen]; simp) (fun j v hj => ?_) (by rw [hlen]; omega) (fun v hv => ?_) ?_
      · have hjl : j < xs.length := by
          have := (List.getElem?_eq_some_iff.1 hj).1
          simpa [K.ints] using this
        rw [add_at, hc j hjl, ← hj]
        exact (ints_at xs hjl).symm
      · obtain ⟨z, _, rfl⟩ := List.mem_map.1 hv
        rfl
      · rw [hlen]
        refine hK _ ?_
        refine h.mark hi (grown_setRow w g _) ⟨by simp [il, K.ints, hx], .inr ⟨g, c, _, rfl, hb, setRow_heap w g _ _ _ _ hg, hnc, hcm, ?_, ?_⟩⟩
        · show (List.toArray _).size = _
          have : cur.size = c * 1 := hcs
          simp [il]
          omega
        · show List.take (n * 1) _ = K.ints xs
          simp [hlen]

end


end Go.Proofs.YtlbefommcahkeaaDoor.K
