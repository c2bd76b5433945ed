/-
  A sort in place by insertion, over the elements themselves, and the order of a vector.
  The contracts of impl.areWithin, areWeights, isVector, areVectors.
  The contracts of impl.isVector, areVectors.
  The contracts of impl.OrderFor and of what it calls of the library: a stable sort of few elements.
  The contract of impl.OrderFor.
  The contract of impl.gainsAlong.
  The contracts of impl.productSum, PairingOf.
  The contract of impl.ExtensionAt.
  How long the results of chapter 7 can be.
  'copy' onto a list of the call's own that is as long: what the memory of a call knows of it.
-/
import Derived.Test.YtlbefommcahkeaaGreatDoorAllM
import Derived.Sort.WalkA
import Derived.Shelf.SlSortCmp.Insertion
import Derived.Lib.Small
import Derived.Test.YtlbefommcahkeaaGreatDoorBase
import Derived.Lib.OwnBridge
import Derived.Deep.QuietTactic
import Derived.Deep.RegionLaw
import Derived.Test.YtlbefommcahkeaaGreatDoorVal
import Derived.StillTailTactics
import Derived.Test.YtlbefommcahkeaaGreatDoorFnA
import Derived.Deep.RegionHeld3
import Derived.Laws.CopyOwn
namespace Go.Proofs.YtlbefommcahkeaaGreatDoor.M
open Go.Sort
set_option linter.unusedVariables false
set_option linter.unusedSimpArgs false
set_option linter.unusedSectionVars false


section

variable {α : Type} [Inhabited α] (lt : α → α → Bool)
/-- Where a value sinks to. -/
def sinks (v : α) (f : Nat → α) : Nat → Nat
  | 0 => 0
  | k + 1 => if lt v (f k) = true then sinks v f k else k + 1
theorem sinks_le (v : α) (f : Nat → α) : ∀ j, sinks lt v f j ≤ j
  | 0 => Nat.le_refl _
  | k + 1 => by
    unfold sinks
    split
    · exact Nat.le_succ_of_le (sinks_le v f k)
    · exact Nat.le_refl _
theorem sinks_congr (v : α) (f g : Nat → α) : ∀ j, (∀ k, k < j → f k = g k) → sinks lt v f j = sinks lt v g j
  | 0, _ => rfl
  | k + 1, h => by rw [sinks, sinks, h k (by omega), sinks_congr v f g k fun q hq => h q (by omega)]
theorem swp_size (d : Array α) (i j : Nat) : (swp d i j).size = d.size := by simp [swp]
theorem swp_get (d : Array α) {i j q : Nat} (hi : i < d.size) (hj : j < d.size) (hq : q < d.size) : (swp d i j)[q]! = if q = j then d[i]! else if q = i then d[j]! else d[q]! := by
  rw [swp]
  simp only [getElem!_def, Array.getElem?_setIfInBounds, Array.size_setIfInBounds]
  by_cases h1 : q = j
  · subst h1
    simp [hj]
  · rw [if_neg h1, if_neg (fun h => h1 h.symm)]
    by_cases h2 : q = i
    · subst h2
      simp [hi]
    · rw [if_neg h2, if_neg (fun h => h2 h.symm)]
theorem ins_get : ∀ (j : Nat) (d : Array α), j < d.size → (insInner lt 0 j d).size = d.size ∧ ∀ q, q < d.size →
    (insInner lt 0 j d)[q]! = if q < sinks lt d[j]! (fun k => d[k]!) j then d[q]! else if q = sinks lt d[j]! (fun k => d[k]!) j then d[j]! else if q ≤ j then d[q - 1]! else d[q]!
  | 0, d, hj => by
    refine ⟨rfl, fun q hq => ?_⟩
    show d[q]! = _
    rw [sinks, if_neg (by omega)]
    by_cases e : q = 0
    · rw [if_pos e, e]
    · rw [if_neg e, if_neg (by omega)]
  | j + 1, d, hj => by
    rw [insInner]
    by_cases hl : lt d[j + 1]! d[j]! = true
    · have hc : (decide (j + 1 > 0) && lt d[j + 1]! d[j]!) = true := by rw [hl]; simp
      rw [if_pos hc]
      obtain ⟨h1, h2⟩ := ins_get j (swp d (j + 1) j) (by rw [swp_size]; omega)
      rw [swp_size] at h1 h2
      refine ⟨h1, fun q hq => ?_⟩
      have hv : (swp d (j + 1) j)[j]! = d[j + 1]! := by rw [swp_get d hj (by omega) (by omega), if_pos rfl]
      have hs : sinks lt d[j + 1]! (fun k => (swp d (j + 1) j)[k]!) j = sinks lt d[j + 1]! (fun k => d[k]!) j :=
        sinks_congr _ _ _ _ j fun k hk => by
          show (swp d (j + 1) j)[k]! = d[k]!
          rw [swp_get d hj (by omega) (by omega), if_neg (by omega), if_neg (by omega)]
      have he : sinks lt d[j + 1]! (fun k => d[k]!) (j + 1) = sinks lt d[j + 1]! (fun k => d[k]!) j := by rw [sinks, if_pos hl]
      rw [h2 q hq, hv, hs, he]
      have hp := sinks_le lt d[j + 1]! (fun k => d[k]!) j
      generalize sinks lt d[j + 1]! (fun k => d[k]!) j = p at hp ⊢
      by_cases c1 : q < p
      · rw [if_pos c1, if_pos c1, swp_get d hj (by omega) hq, if_neg (by omega), if_neg (by omega)]
      · rw [if_neg c1, if_neg c1]
        by_cases c2 : q = p
        · rw [if_pos c2, if_pos c2]
        · rw [if_neg c2, if_neg c2]
          by_cases c3 : q ≤ j
          · rw [if_pos c3, if_pos (by omega), swp_get d hj (by omega) (by omega), if_neg (by omega), if_neg (by omega)]
          · rw [if_neg c3]
            by_cases c4 : q = j + 1
            · subst c4
              rw [if_pos (Nat.le_refl _), swp_get d hj (by omega) hq, if_neg (by omega), if_pos rfl, Nat.add_sub_cancel]
            · rw [if_neg (by omega), swp_get d hj (by omega) hq, if_neg (by omega), if_neg (by omega)]
    · have hc : ¬ (decide (j + 1 > 0) && lt d[j + 1]! d[j]!) = true := by
        rw [Bool.and_eq_true]
        exact fun h => hl h.2
      rw [if_neg hc]
      refine ⟨rfl, fun q hq => ?_⟩
      have he : sinks lt d[j + 1]! (fun k => d[k]!) (j + 1) = j + 1 := by rw [sinks, if_neg hl]
      rw [he]
      by_cases c1 : q < j + 1
      · rw [if_pos c1]
      · rw [if_neg c1]
        by_cases c2 : q = j + 1
        · rw [if_pos c2, c2]
        · rw [if_neg c2, if_neg (by omega)]

end


/-- The elements below n. -/
abbrev El (n : Nat) := { k : Nat // k < n }
/-- What the order asks of two elements. -/
def byNum (ws : List Int) {n : Nat} (a b : El n) : Int := Lib.compareInt (ws.getD b.1 0) (ws.getD a.1 0)
theorem byNum_lt (ws : List Int) {n : Nat} (a b : El n) : ltOf (byNum ws) a b = decide (ws.getD b.1 0 < ws.getD a.1 0) := by
  unfold ltOf byNum Lib.compareInt
  congr 1
  apply propext
  constructor
  · intro h
    split at h
    · assumption
    · split at h <;> omega
  · intro h
    rw [if_pos h]
    decide
theorem take_mid (l : List Nat) (i p : Nat) (hp : p ≤ l.length) (q : Nat) : (l.take p ++ i :: l.drop p).getD q 0 = if q < p then l.getD q 0 else if q = p then i else l.getD (q - 1) 0 := by
  have hl : (l.take p).length = p := by rw [List.length_take]; omega
  by_cases c1 : q < p
  · rw [if_pos c1, List.getD_eq_getElem?_getD, List.getElem?_append_left (by omega), List.getElem?_take, if_pos c1, List.getD_eq_getElem?_getD]
  · rw [if_neg c1, List.getD_eq_getElem?_getD, List.getElem?_append_right (by omega), hl]
    by_cases c2 : q = p
    · rw [if_pos c2, c2, Nat.sub_self]
      rfl
    · rw [if_neg c2]
      obtain ⟨r, rfl⟩ : ∃ r, q = p + 1 + r := ⟨q - (p + 1), by omega⟩
      rw [show p + 1 + r - p = r + 1 by omega, List.getElem?_cons_succ, List.getElem?_drop, List.getD_eq_getElem?_getD, show p + 1 + r - 1 = p + r by omega]

section

variable {n : Nat} [Inhabited (El n)] (ws : List Int)
/-- The first i elements are in order, the others where they were. -/
def sortedTo (i : Nat) (d : Array (El n)) : Prop := d.size = n ∧ ∀ q, q < n → (d[q]!).1 = if q < i then (ordN ws i).getD q 0 else q
theorem sorted_step {i : Nat} {d : Array (El n)} (hi : i < n) (h : sortedTo ws i d) : sortedTo ws (i + 1) (insInner (ltOf (byNum ws)) 0 i d) := by
  obtain ⟨hs, hv⟩ := h
  obtain ⟨h1, h2⟩ := ins_get (ltOf (byNum ws)) i d (by omega)
  rw [hs] at h1 h2
  refine ⟨h1, fun q hq => ?_⟩
  have hvi : (d[i]!).1 = i := by rw [hv i hi, if_neg (by omega)]
  have hpl : ∀ j, j ≤ i → sinks (ltOf (byNum ws)) d[i]! (fun k => d[k]!) j = place ws (ws.getD i 0) (ordN ws i) j := by
    intro j
    induction j with
    | zero => exact fun _ => rfl
    | succ j ih =>
      intro hj
      have hvj : (d[j]!).1 = (ordN ws i).getD j 0 := by rw [hv j (by omega), if_pos (by omega)]
      rw [sinks, place, byNum_lt, hvi, hvj, ih (by omega)]
      by_cases c : ws.getD ((ordN ws i).getD j 0) 0 < ws.getD i 0
      · rw [if_pos c, if_pos (by rw [decide_eq_true c])]
      · rw [if_neg c, if_neg (by rw [decide_eq_false c]; decide)]
  have hol := ordN_len ws i
  have hp := (place_is ws (ws.getD i 0) (ordN ws i) i).1
  rw [h2 q hq, hpl i (Nat.le_refl _)]
  have e : (if q < i + 1 then (ordN ws (i + 1)).getD q 0 else q) = if q < i + 1 then (if q < place ws (ws.getD i 0) (ordN ws i) i then (ordN ws i).getD q 0 else if q = place ws (ws.getD i 0) (ordN ws i) i then i else (ordN ws i).getD (q - 1) 0) else q := by
    rw [ordN, hol, take_mid _ _ _ (by omega)]
  rw [e]
  generalize place ws (ws.getD i 0) (ordN ws i) i = p at hp ⊢
  by_cases c1 : q < p
  · rw [if_pos c1, if_pos (by omega), if_pos c1, hv q hq, if_pos (by omega)]
  · rw [if_neg c1]
    by_cases c2 : q = p
    · rw [if_pos c2, if_pos (by omega), if_neg c1, if_pos c2, hvi]
    · rw [if_neg c2]
      by_cases c3 : q ≤ i
      · rw [if_pos c3, if_pos (by omega), if_neg c1, if_neg c2, hv (q - 1) (by omega), if_pos (by omega)]
      · rw [if_neg c3, if_neg (by omega), hv q hq, if_neg (by omega)]
theorem sorted_out : ∀ (k i : Nat) (d : Array (El n)), n - i = k → i ≤ n → sortedTo ws i d → sortedTo ws n (insOuter (ltOf (byNum ws)) 0 n i d)
  | 0, i, d, hk, hi, h => by
    obtain rfl : i = n := by omega
    rw [insOuter_stop _ _ _ _ _ (by omega)]
    exact h
  | k + 1, i, d, hk, hi, h => by
    rw [insOuter_go _ _ _ _ _ (by omega)]
    exact sorted_out k (i + 1) _ (by omega) (by omega) (sorted_step ws (by omega) h)
/-- The elements themselves, in their order. -/
theorem sorted_all (d : Array (El n)) (hn : 0 < n) (hs : d.size = n) (hd : ∀ q, q < n → (d[q]!).1 = q) : sortedTo ws n (insertionSort (ltOf (byNum ws)) d 0 n) := by
  refine sorted_out ws (n - 1) (0 + 1) d (by omega) (by omega) ⟨hs, fun q hq => ?_⟩
  rw [hd q hq]
  split
  · obtain rfl : q = 0 := by omega
    rfl
  · rfl
/-- What the sort leaves is the order. -/
theorem sorted_list {d : Array (El n)} (hl : ws.length = n) (h : sortedTo ws n d) : d.toList.map (fun e => (e.1 : Int)) = nats (ordN ws n) := by
  obtain ⟨hs, hv⟩ := h
  refine List.ext_getElem? fun q => ?_
  unfold nats
  rw [List.getElem?_map, List.getElem?_map]
  by_cases hq : q < n
  · have e1 : d.toList[q]? = some d[q]! := by
      rw [Array.getElem?_toList, getElem!_def]
      rw [Array.getElem?_eq_getElem (by omega)]
    have e2 : (ordN ws n)[q]? = some ((ordN ws n).getD q 0) := by
      rw [List.getD_eq_getElem?_getD, List.getElem?_eq_getElem (by rw [ordN_len]; omega)]
      rfl
    rw [e1, e2, Option.map_some, Option.map_some, hv q hq, if_pos hq]
  · rw [List.getElem?_eq_none (by rw [Array.length_toList]; omega), List.getElem?_eq_none (by rw [ordN_len]; omega)]
    rfl

end


end Go.Proofs.YtlbefommcahkeaaGreatDoor.M

namespace Go.Proofs.YtlbefommcahkeaaGreatDoor.C
open Go.RowKit K M
set_option linter.unusedVariables false
set_option linter.unusedSimpArgs false

theorem withinI_yes (L : Int) (A : Option Addr) (ws : List Int) (cap : Nat) (w : World) (h : Hid (Ints w w.heap.size A ws)) (h0 : 0 ≤ L) (h1 : L ≤ 1000000) (hl : ws.length ≤ 1048576) (hv : ∀ k, k < ws.length → -L ≤ ws.getD k 0 ∧ ws.getD k 0 ≤ L) :
    Calls Tryz.prog 46 #[.int .i64 L, .slice A ws.length cap] w fun e w' => e = .returned (.bool true) ∧ w = w' := by
  have HV := Lib.hid hv
  obtain ⟨m, hm⟩ : ∃ m, ws.length = m := ⟨_, rfl⟩
  have HX := Lib.hid hm
  have hng : IntKind.i64.wrap (-L) = -L := IntWalk.i64_in _ (by omega)
  rw [hm] at hl ⊢
  clear hv hm
  go_enter Tryz.func46, Tryz.ntmps46
  go_wp2
  go_loop [9] (fun i => ∃ k : Nat, k ≤ m ∧ i = .int .i64 k) (fun i => m - (intOf i).toNat)
  case atStart => exact ⟨0, Nat.zero_le _, rfl⟩
  case round =>
    obtain ⟨k, hk, rfl⟩ := hrel
    by_cases hlt : k < m
    · obtain ⟨b, off, rfl, hbl, hc⟩ := h.out.at_ (k := k) (by rw [HX.out]; omega)
      have hk0 : (0 : Int) ≤ (k : Int) := by omega
      have hkn : (k : Int) < (m : Int) := by omega
      obtain ⟨v1, v2⟩ := HV.out k (by rw [HX.out]; exact hlt)
      generalize ws.getD k 0 = x at hc v1 v2
      have v1' : ¬ x < -L := by omega
      have v2' : ¬ L < x := by omega
      go_wp2
      go_round
      case rel => exact ⟨k + 1, by omega, by go_num⟩
      case measure => simp [intOf]; omega
    · obtain rfl : k = m := by omega
      have hkn : ¬ (k : Int) < (k : Int) := by omega
      go_wp2
      go_ret
      exact ⟨rfl, rfl⟩

theorem withinI_no (L : Int) (A : Option Addr) (ws : List Int) (cap : Nat) (w : World) (h : Hid (Ints w w.heap.size A ws)) (h0 : 0 ≤ L) (h1 : L ≤ 1000000) (hl : ws.length ≤ 1048576) (j : Nat) (hj : j < ws.length) (hb : ws.getD j 0 < -L ∨ L < ws.getD j 0) (hv : ∀ k, k < j → -L ≤ ws.getD k 0 ∧ ws.getD k 0 ≤ L) :
    Calls Tryz.prog 46 #[.int .i64 L, .slice A ws.length cap] w fun e w' => e = .returned (.bool false) ∧ w = w' := by
  have HV := Lib.hid hv
  have HB := Lib.hid hb
  obtain ⟨m, hm⟩ : ∃ m, ws.length = m := ⟨_, rfl⟩
  have HX := Lib.hid hm
  have hng : IntKind.i64.wrap (-L) = -L := IntWalk.i64_in _ (by omega)
  rw [hm] at hj hl ⊢
  clear hv hm hb
  go_enter Tryz.func46, Tryz.ntmps46
  go_wp2
  go_loop [9] (fun i => ∃ k : Nat, k ≤ j ∧ i = .int .i64 k) (fun i => m - (intOf i).toNat)
  case atStart => exact ⟨0, Nat.zero_le _, rfl⟩
  case round =>
    obtain ⟨k, hk, rfl⟩ := hrel
    obtain ⟨b, off, rfl, hbl, hc⟩ := h.out.at_ (k := k) (by rw [HX.out]; omega)
    have hk0 : (0 : Int) ≤ (k : Int) := by omega
    have hkn : (k : Int) < (m : Int) := by omega
    by_cases hlt : k < j
    · obtain ⟨v1, v2⟩ := HV.out k hlt
      generalize ws.getD k 0 = x at hc v1 v2
      have v1' : ¬ x < -L := by omega
      have v2' : ¬ L < x := by omega
      go_wp2
      go_round
      case rel => exact ⟨k + 1, by omega, by go_num⟩
      case measure => simp [intOf]; omega
    · obtain rfl : k = j := by omega
      have hb := HB.out
      clear HB HV
      generalize ws.getD k 0 = x at hc hb
      by_cases c1 : x < -L
      · clear hb
        go_wp2
        go_ret
        exact ⟨rfl, rfl⟩
      · have c2 : L < x := by omega
        clear hb
        go_wp2
        go_ret
        exact ⟨rfl, rfl⟩

theorem areI_yes (A : Option Addr) (ws : List Int) (cap : Nat) (w : World) (h : Hid (Ints w w.heap.size A ws)) (hl : ws.length ≤ 1048576) (hv : weightsOk ws) :
    Calls Tryz.prog 85 #[.slice A ws.length cap] w fun e w' => e = .returned (.bool true) ∧ w = w' := by
  have HC := Lib.hid (withinI_yes 1000 A ws cap w h (by decide) (by decide) hl hv)
  clear hv h
  go_enter Tryz.func85, Tryz.ntmps85
  go_wp2_with (go_at_call 46; refine HC.out.mono ?_; rintro e w' ⟨rfl, rfl⟩)
  go_ret
  exact ⟨rfl, rfl⟩

theorem areI_no (A : Option Addr) (ws : List Int) (cap : Nat) (w : World) (h : Hid (Ints w w.heap.size A ws)) (hl : ws.length ≤ 1048576) (j : Nat) (hj : j < ws.length) (hb : ws.getD j 0 < -1000 ∨ 1000 < ws.getD j 0) (hv : ∀ k, k < j → -1000 ≤ ws.getD k 0 ∧ ws.getD k 0 ≤ 1000) :
    Calls Tryz.prog 85 #[.slice A ws.length cap] w fun e w' => e = .returned (.bool false) ∧ w = w' := by
  have HC := Lib.hid (withinI_no 1000 A ws cap w h (by decide) (by decide) hl j hj hb hv)
  clear hv h hb hj
  go_enter Tryz.func85, Tryz.ntmps85
  go_wp2_with (go_at_call 46; refine HC.out.mono ?_; rintro e w' ⟨rfl, rfl⟩)
  go_ret
  exact ⟨rfl, rfl⟩

end Go.Proofs.YtlbefommcahkeaaGreatDoor.C

namespace Go.Proofs.YtlbefommcahkeaaGreatDoor.C
open Go.RowKit K M
set_option linter.unusedVariables false
set_option linter.unusedSimpArgs false

theorem isVecI_any (A : Option Addr) (ws : List Int) (cap : Nat) (w : World) (h : Hid (Ints w w.heap.size A ws)) (hl : ws.length ≤ 1048576) :
    Calls Tryz.prog 67 #[.slice A ws.length cap] w fun e w' => e = .returned (.bool (isVec ws)) ∧ w = w' := by
  by_cases h5 : ws.length ≤ 5
  · have hg : (ws.length : Int) ≤ 5 := by omega
    by_cases hv : ∀ k, k < ws.length → -1000 ≤ ws.getD k 0 ∧ ws.getD k 0 ≤ 1000
    · have HC := Lib.hid (areI_yes A ws cap w h hl hv)
      rw [isVec_good hv, decide_eq_true h5]
      clear hv h
      go_enter Tryz.func67, Tryz.ntmps67
      go_wp2_with (go_at_call 85; refine HC.out.mono ?_; rintro e w' ⟨rfl, rfl⟩)
      go_ret
      exact ⟨rfl, rfl⟩
    · obtain ⟨j, hj, hb, hk⟩ := vec_bad hv
      have HC := Lib.hid (areI_no A ws cap w h hl j hj hb hk)
      rw [isVec_bad hj hb]
      clear hv h hb hk hj
      go_enter Tryz.func67, Tryz.ntmps67
      go_wp2_with (go_at_call 85; refine HC.out.mono ?_; rintro e w' ⟨rfl, rfl⟩)
      go_ret
      exact ⟨rfl, rfl⟩
  · have hg : ¬ (ws.length : Int) ≤ 5 := by omega
    have e : isVec ws = false := by unfold isVec; rw [decide_eq_false h5, Bool.false_and]
    rw [e]
    clear h e
    go_enter Tryz.func67, Tryz.ntmps67
    go_wp2
    go_ret
    exact ⟨rfl, rfl⟩


section

variable (A : Option Addr) (xs : List Int) (cap : Nat) (D : Option Addr) (ys : List Int) (dap : Nat) (w : World) (h : Hid (Ints w w.heap.size A xs)) (g : Hid (Ints w w.heap.size D ys)) (hx : xs.length ≤ 1048576) (hy : ys.length ≤ 1048576)
include h g hx hy
theorem areVecI_any : Calls Tryz.prog 56 #[.slice A xs.length cap, .slice D ys.length dap] w fun e w' => e = .returned (.bool (fitV xs ys)) ∧ w = w' := by
  have HA := Lib.hid (isVecI_any A xs cap w h hx)
  have HD := Lib.hid (isVecI_any D ys dap w g hy)
  unfold fitV
  by_cases hl : xs.length = ys.length
  · have hli : ((xs.length : Int) == (ys.length : Int)) = true := beq_iff_eq.2 (by omega)
    have hd : decide (xs.length = ys.length) = true := decide_eq_true hl
    rw [hd]
    clear hl hd
    cases e1 : isVec xs
    · rw [e1] at HA
      go_enter Tryz.func56, Tryz.ntmps56
      go_wp2_with (go_at_call_of 67 (Value.slice A xs.length cap); refine HA.out.mono ?_; rintro e w' ⟨rfl, rfl⟩)
      go_ret
      exact ⟨rfl, rfl⟩
    · rw [e1] at HA
      cases e2 : isVec ys
      all_goals rw [e2] at HD
      all_goals go_enter Tryz.func56, Tryz.ntmps56
      all_goals go_wp2_with (first | (go_at_call_of 67 (Value.slice A xs.length cap); refine HA.out.mono ?_; rintro e w' ⟨rfl, rfl⟩) | (go_at_call_of 67 (Value.slice D ys.length dap); refine HD.out.mono ?_; rintro e w' ⟨rfl, rfl⟩))
      all_goals go_ret
      all_goals exact ⟨rfl, rfl⟩
  · have hli : ((xs.length : Int) == (ys.length : Int)) = false := beq_eq_false_iff_ne.2 (by omega)
    have hd : decide (xs.length = ys.length) = false := decide_eq_false hl
    rw [hd, Bool.and_false, Bool.and_false]
    clear hl hd
    go_enter Tryz.func56, Tryz.ntmps56
    go_wp2
    go_ret
    exact ⟨rfl, rfl⟩

end


end Go.Proofs.YtlbefommcahkeaaGreatDoor.C

namespace Go.Proofs.YtlbefommcahkeaaGreatDoor.C
open Go.RowKit K M Go.Sort
set_option linter.unusedVariables false
set_option linter.unusedSimpArgs false
set_option linter.unusedSectionVars false

theorem quiet_same {P : Program} {f : FuncId} {args : Array Value} {w : World} {n : Nat} {v : Value} (h : Calls P f args (w.drewN n) fun e w' => e = .returned v ∧ w.drewN n = w') :
    Calls P f args (w.drewN n) fun e w'' => e = .returned v ∧ ∃ m, w'' = w.drewN m :=
  h.mono fun _ _ ⟨he, hq⟩ => ⟨he, n, hq.symm⟩

theorem nanI (x : Int) (w : World) : Calls Tryz.prog 87 #[.int .i64 x] w fun e w' => e = .returned (.bool false) ∧ w = w' := by
  go_enter Tryz.func87, Tryz.ntmps87
  go_wp2
  go_ret
  exact ⟨by simp, rfl⟩

theorem cmpI (x y : Int) (w : World) : Calls Tryz.prog 70 #[.int .i64 x, .int .i64 y] w fun e w' => e = .returned (.int .i64 (Lib.compareInt x y)) ∧ w = w' := by
  go_enter Tryz.func70, Tryz.ntmps70
  go_wp2_with (go_at_call 87; refine (nanI _ _).mono ?_; rintro e w' ⟨rfl, rfl⟩)
  all_goals (go_ret; refine ⟨?_, rfl⟩; unfold Lib.compareInt; (repeat' split) <;> first | rfl | (exfalso; omega))

set_option maxHeartbeats 1600000 in
theorem byI (A : Option Addr) (ws : List Int) (cap B i k : Nat) (W : World) (hi : i < ws.length) (hk : k < ws.length) (h : Ints W W.heap.size A ws) (hB : W.cell? ⟨B, 0, none⟩ = some (.slice A ws.length cap)) :
    Calls Tryz.prog 69 #[.int .i64 i, .int .i64 k, .pointer (some ⟨B, 0, none⟩)] W fun e w' => e = .returned (.int .i64 (Lib.compareInt (ws.getD k 0) (ws.getD i 0))) ∧ ∃ q, w' = W.drewN q := by
  obtain ⟨b, off, rfl, hbl, hc⟩ := h.at_ hi
  obtain ⟨b', off', e', hbl', hc'⟩ := h.at_ hk
  cases e'
  have hcm := Lib.hid (fun W' => cmpI (ws.getD k 0) (ws.getD i 0) W')
  generalize Lib.compareInt (ws.getD k 0) (ws.getD i 0) = r at hcm ⊢
  generalize ws.getD k 0 = x at *
  generalize ws.getD i 0 = y at *
  obtain ⟨m, hm⟩ : ∃ m, ws.length = m := ⟨_, rfl⟩
  rw [hm] at hi hk hB
  have hi0 : (0 : Int) ≤ (i : Int) := by omega
  have hin : (i : Int) < (m : Int) := by omega
  have hk0 : (0 : Int) ≤ (k : Int) := by omega
  have hkn : (k : Int) < (m : Int) := by omega
  clear h hm
  go_enter Tryz.func69, Tryz.ntmps69
  go_wp2
  go_quiet ((go_at_call 70; exact quiet_same (hcm.out _)))
  go_wp2
  go_ret
  exact ⟨rfl, _, rfl⟩

section

variable {n : Nat} [Inhabited (El n)]
def encE (e : El n) : Value := .int .i64 (e.1 : Int)
theorem one_encE : OneCell (encE (n := n)) := fun _ => rfl

def insRen : Go.Shelf.Ren := ⟨fun | 20 => 100 | k => k, fun | 0 => 0 | 3 => 3 | 4 => 4 | 22 => 24 | 24 => 3 | 25 => 62 | k => k, fun k => k⟩
theorem insLay : SlLaysF.n20 Tryz.prog insRen := {
  mixed := by kernel_rfl
  f20 := ⟨Tryz.f100.name, by kernel_rfl, Tryz.func100.trans (congrArg some (by kernel_rfl))⟩
  t0 := Tryz.underlying0
  a0 := Tryz.isAgg0
  z0 := Tryz.sizeOf0
  v0 := Tryz.zeroValue0
  t3 := Tryz.underlying3
  a3 := Tryz.isAgg3
  z3 := Tryz.sizeOf3
  v3 := Tryz.zeroValue3
  t4 := Tryz.underlying4
  a4 := Tryz.isAgg4
  z4 := Tryz.sizeOf4
  v4 := Tryz.zeroValue4
  t22 := Tryz.underlying24
  a22 := Tryz.isAgg24
  z22 := Tryz.sizeOf24
  v22 := Tryz.zeroValue24
  a24 := Tryz.isAgg3
  z24 := Tryz.sizeOf3
  t25 := Tryz.underlying62
  a25 := Tryz.isAgg62
  z25 := Tryz.sizeOf62
  v25 := Tryz.zeroValue62 }



end


/-- A stable sort of fewer than twenty: one sort by insertion. -/
theorem stable_of (V F : Value) (n : Nat) (R : World → Prop) (w : World) (hn : n ≤ 19)
    (hc : Calls Tryz.prog 100 #[V, .int .i64 0, .int .i64 n, F] w fun e w' => e = .returned (.tuple #[]) ∧ R w') :
    Calls Tryz.prog 86 #[V, .int .i64 n, F] w fun e w' => e = .returned (.tuple #[]) ∧ R w' := by
  have HC := Lib.hid hc
  have hg : ¬ (20 : Int) ≤ (n : Int) := by omega
  have hg2 : ¬ (20 : Int) < (n : Int) := by omega
  clear hc
  go_enter Tryz.func86, Tryz.ntmps86
  go_wp2
  go_loop [7, 8] (fun u v => u = .int .i64 0 ∧ v = .int .i64 20) (fun _ _ => 0)
  case atStart => exact ⟨rfl, rfl⟩
  case round =>
    obtain ⟨rfl, rfl⟩ := hrel
    go_wp2_with (go_at_call 100; refine HC.out.mono ?_; rintro e w' ⟨rfl, hw⟩; have HQ : Hid (R w') := hw; clear hw)
    go_loop [6] (fun v => v = .int .i64 20) (fun _ => 0)
    case atStart => rfl
    case round =>
      obtain rfl := hrel
      go_wp2
      go_end0
      exact ⟨rfl, HQ.out⟩

theorem stableF_of (A : Option Addr) (F : Value) (n cap : Nat) (R : World → Prop) (w : World) (hn : n ≤ 19)
    (hc : Calls Tryz.prog 100 #[.slice A n cap, .int .i64 0, .int .i64 n, F] w fun e w' => e = .returned (.tuple #[]) ∧ R w') :
    Calls Tryz.prog 68 #[.slice A n cap, F] w fun e w' => e = .returned (.tuple #[]) ∧ R w' := by
  have HC := Lib.hid (stable_of (.slice A n cap) F n R w hn hc)
  clear hc
  go_enter Tryz.func68, Tryz.ntmps68
  go_wp2_with (go_at_call 86; refine HC.out.mono ?_; rintro e w' ⟨rfl, hw⟩; have HQ : Hid (R w') := hw; clear hw)
  go_end0
  exact ⟨rfl, HQ.out⟩

/-- Of no element there is nothing to sort. -/
theorem insI_zero (V F : Value) (w : World) : Calls Tryz.prog 100 #[V, .int .i64 0, .int .i64 0, F] w fun e w' => e = .returned (.tuple #[]) ∧ w = w' := by
  go_enter Tryz.func100, Tryz.ntmps100
  go_wp2
  go_loop [8] (fun v => v = .int .i64 1) (fun _ => 0)
  case atStart => rfl
  case round =>
    obtain rfl := hrel
    go_wp2
    go_end0
    exact ⟨rfl, rfl⟩


section

variable {n : Nat} [Inhabited (El n)]
theorem below_sorted {B g m : Nat} {w0 W : World} {d : Array (El n)} {os : Array Obj} (h : Below B w0 W) (hg : B ≤ g) (hB : B ≤ W.heap.size) : Below B w0 (sortWorld encE W g 0 m d os) := by
  refine (Lib.below_putRow (enc := encE) (q := m) (d := d) h hg).trans ⟨rfl, rfl, rfl, ?_, fun k hk => ?_⟩
  · unfold sortWorld
    rw [size_grow]
    exact Nat.le_add_right _ _
  · exact heap_grow_old _ _ (by rw [size_putRow]; exact Nat.lt_of_lt_of_le hk hB)
theorem grown_sorted {W : World} {g q : Nat} (d : Array (El n)) : W.grownBy ((putRow encE W g 0 d).drewN q) (some g) := by
  refine ⟨rfl, rfl, rfl, ?_, fun k hk hne => ?_⟩
  · show W.heap.size ≤ (putRow encE W g 0 d).heap.size
    rw [size_putRow]
    exact Nat.le_refl _
  · have : g ≠ k := fun e => hne (by rw [e])
    show (putRow encE W g 0 d).heap[k]? = _
    simp [putRow, mapBlock, Array.getElem?_modify, this]
theorem encE_ints (d : List (El n)) : d.map encE = K.ints (d.map fun e => (e.1 : Int)) := by
  unfold K.ints
  rw [List.map_map]
  rfl

end


/-- The elements themselves. -/
def selves (m : Nat) : List Int := nats (List.range m)
theorem selves_len (m : Nat) : (selves m).length = m := by rw [selves, nats_len, List.length_range]
theorem size_cells {w : World} {g k : Nat} {v : Value} (h : w.cell? ⟨g, k, none⟩ = some v) : g < w.heap.size := by
  obtain ⟨c, e, fr, hb, _⟩ := cells_of_cell? h
  exact (Array.getElem?_eq_some_iff.1 hb).1

set_option maxHeartbeats 1600000 in
theorem sortI (A : Option Addr) (ws : List Int) (cap g c B m : Nat) (t : TypeId) (w0 W : World) (hm : ws.length = m) (h5 : m ≤ 5) (h : Ints w0 w0.heap.size A ws)
    (hS : St w0 W [il (.slice (some ⟨g, 0, none⟩) m c) m (selves m), bx B t [.slice A m cap]]) :
    Calls Tryz.prog 68 #[.slice (some ⟨g, 0, none⟩) m c, .func (.func 69) #[] #[.pointer (some ⟨B, 0, none⟩)]] W fun e w' =>
      e = .returned (.tuple #[]) ∧ St w0 w' [il (.slice (some ⟨g, 0, none⟩) m c) m (nats (ordN ws m)), bx B t [.slice A m cap]] := by
  by_cases h0 : m = 0
  · subst h0
    have e1 : selves 0 = nats (ordN ws 0) := rfl
    rw [e1] at hS
    refine (stableF_of _ _ 0 c (fun w' => W = w') W (by omega) ?_).mono fun e w' ⟨he, hw⟩ => ⟨he, hw ▸ hS⟩
    exact insI_zero _ _ W
  · haveI : Inhabited (El m) := ⟨⟨0, by omega⟩⟩
    obtain ⟨d, hd, hdv⟩ : ∃ d : Array (El m), d.size = m ∧ ∀ q, q < m → (d[q]!).1 = q := by
      refine ⟨Array.ofFn fun i : Fin m => (⟨i.1, i.2⟩ : El m), Array.size_ofFn, fun q hq => ?_⟩
      rw [getElem!_pos _ _ (by rw [Array.size_ofFn]; exact hq), Array.getElem_ofFn]
    have hself : d.toList.map (fun e => (e.1 : Int)) = selves m := by
      refine List.ext_getElem? fun q => ?_
      unfold selves nats
      rw [List.getElem?_map, List.getElem?_map]
      by_cases hq : q < m
      · rw [Array.getElem?_toList, Array.getElem?_eq_getElem (by omega), List.getElem?_eq_getElem (by rw [List.length_range]; exact hq), List.getElem_range, Option.map_some, Option.map_some, ← getElem!_pos d q (by omega), hdv q hq]
      · rw [List.getElem?_eq_none (by rw [Array.length_toList]; omega), List.getElem?_eq_none (by rw [List.length_range]; omega)]
        rfl
    have hown : W.ownsRow w0.heap.size 3 1 (.slice (some ⟨g, 0, none⟩) m c) m (d.toList.map encE) := by
      rw [encE_ints, hself]
      exact hS.own (i := 0) rfl
    obtain ⟨g', c', hv, hg0, hg1, -, -, -, hH⟩ := Lib.holds_of_ownsRow hown (by intro e; cases e)
    cases hv
    rw [Array.toArray_toList] at hH
    have hBg : g ≠ B := hS.apart (i := 0) (j := 1) rfl rfl (by omega) rfl rfl
    obtain ⟨hB0, hB1⟩ := hS.lt (i := 1) rfl
    have hBc := (hS.box (i := 1) rfl).1 0 _ rfl
    have hcmp : CmpReads Tryz.prog 69 #[.pointer (some ⟨B, 0, none⟩)] encE (byNum ws (n := m)) g 0 d.size W := fun mm os dk hdk x y => by
      have hb : Below w0.heap.size w0 (sortWorld encE W g 0 mm dk os) := below_sorted hS.base hg0 hS.size
      refine byI A ws cap B x.1 y.1 _ (by rw [hm]; exact x.2) (by rw [hm]; exact y.2) ((h.below hb).mono hb.size) ?_
      rw [hm]
      unfold sortWorld
      rw [cell?_grow _ _ _ (by rw [size_putRow]; exact hB1), cell?_putRow_other encE _ g 0 dk _ (.inl fun e => hBg e.symm)]
      exact hBc
    have eg : ∀ args w, (callFunc 69 args).run Tryz.prog w = .ok (.enter 69 args) w := enters_of Tryz.func69 (by kernel_rfl) rfl
    have hc0 := Any.insertionSortCmpFunc_one insLay encE one_encE (byNum ws (n := m)) 69 #[.pointer (some ⟨B, 0, none⟩)] g 0 c 0 m d W eg hcmp hH (Nat.zero_le _) (by omega) (by omega)
    rw [hd] at hc0
    refine (stableF_of _ _ m c (fun w' => ∃ q, w' = (putRow encE W g 0 (insertionSort (ltOf (byNum ws (n := m))) d 0 m)).drewN q) W (by omega) hc0).mono fun e w' ⟨he, q, hw⟩ => ⟨he, ?_⟩
    subst hw
    have hso := sorted_all ws d (by omega) hd hdv
    have hls := sorted_list ws hm hso
    have hsz := hso.1
    refine hS.markI (i := 0) rfl (grown_sorted _) ?_
    have := Lib.ownsRow_putRow (q := q) (k := m) (ys := (insertionSort (ltOf (byNum ws (n := m))) d 0 m).toList) hown (by rw [Array.length_toList]; exact hsz) (Nat.le_refl _)
    rw [Array.toArray_toList, List.take_of_length_le (by rw [Array.length_toList]; omega), encE_ints, hls] at this
    exact this

end Go.Proofs.YtlbefommcahkeaaGreatDoor.C

namespace Go.Proofs.YtlbefommcahkeaaGreatDoor.C
open Go.RowKit K M
set_option linter.unusedVariables false
set_option linter.unusedSimpArgs false


section

variable (A : Option Addr) (ws : List Int) (cap : Nat) (w : World) (h : Hid (Ints w w.heap.size A ws)) (hl : ws.length ≤ 1048576)
include h hl
theorem ordI_no (hf : isVec ws = false) : Calls Tryz.prog 29 #[.slice A ws.length cap] w (RetIB w [] false) := by
  have HW := Lib.hid (St.start w)
  have HF := Lib.hid (fun W h1 => isVecI_any A ws cap W (Lib.hid h1) hl)
  rw [hf] at HF
  clear hf
  have HS := Lib.hid (HW.out.alloc [.slice A ws.length cap] 24)
  go_enter Tryz.func29, Tryz.ntmps29
  go_wp2_with (go_at_call 67; refine (HF.out _ ((h.out.below HS.out.base).mono HS.out.size)).mono ?_; rintro e w' ⟨rfl, rfl⟩)
  go_ret2
  exact ⟨none, 0, rfl, K.Own.nil _ _, HS.out.base⟩

set_option maxRecDepth 100000 in
set_option maxHeartbeats 1600000 in
theorem ordI_yes (hf : isVec ws = true) : Calls Tryz.prog 29 #[.slice A ws.length cap] w (RetIB w (nats (ordN ws ws.length)) true) := by
  have HW := Lib.hid (St.start w)
  have HF := Lib.hid (fun W h1 => isVecI_any A ws cap W (Lib.hid h1) hl)
  rw [hf] at HF
  have hm5 := (isVec_yes hf).1
  obtain ⟨m, hm⟩ : ∃ m, ws.length = m := ⟨_, rfl⟩
  rw [hm] at HF hm5 ⊢
  have HSO := Lib.hid (fun W g c B t hS => sortI A ws cap g c B m t w W hm hm5 h.out hS)
  have hln : (nats (ordN ws m)).length = m := by rw [nats_len, ordN_len]
  generalize nats (ordN ws m) = os at HSO hln ⊢
  have HLN := Lib.hid hln
  clear hf hm hl hln
  have HS := Lib.hid (HW.out.alloc [.slice A m cap] 24)
  obtain ⟨i0, hi, hi0, hi1, hi2⟩ := info_parts info_int
  go_enter Tryz.func29, Tryz.ntmps29
  go_wp2_with (first
    | (go_at_call 67; refine (HF.out _ ((h.out.below HS.out.base).mono HS.out.size)).mono ?_; rintro e w' ⟨rfl, rfl⟩)
    | (refine wpList_make_full _ rfl _ _ _ rfl (w.heap.size + 1) 3 i0 (.int .i64 0) 1 Tryz.underlying24 hi hi0 hi1 .i64 .i64 _ _ m rfl rfl rfl rfl (by rw [hi2]; omega) (by unfold maxLen; omega) (by simp) ?_; intro w1 hown1 hg1))
  rw [zeros] at hown1
  simp only [World.size_alloc] at hown1
  have HS1 := Lib.hid (show St w _ [il (.slice (some ⟨w.heap.size + 1, 0, none⟩) m m) m (List.replicate m 0), bx w.heap.size 24 [.slice A m cap]] from ((HW.out.alloc _ _).new ((Below.refl _ _).grown hg1 (Nat.le_refl _) (by simp)) (by rw [World.size_alloc]; exact hown1)))
  clear hown1 hg1 hi hi0 hi1 hi2
  go_loopw [14] (fun i wr => ∃ (j : Nat) (ys : List Int), i = .int .i64 j ∧ j ≤ m ∧ ys.length = m ∧ ys.take j = tab j (fun k => (k : Int)) ∧ St w wr [il (.slice (some ⟨w.heap.size + 1, 0, none⟩) m m) m ys, bx w.heap.size 24 [.slice A m cap]]) (fun i _ => m - (intOf i).toNat)
  case atStart => exact ⟨0, _, rfl, Nat.zero_le _, by simp, by simp [tab], HS1.out⟩
  case round =>
    obtain ⟨j, ys, rfl, hj, hy, ht, hS⟩ := hrel
    have HL := Lib.hid hy
    have HT := Lib.hid ht
    have HR := Lib.hid hS
    by_cases hlt : j < m
    · obtain ⟨c1, c2⟩ := hS.cellI (i := 0) rfl hlt
      have hj0 : (0 : Int) ≤ (j : Int) := by omega
      have hjn : (j : Int) < (m : Int) := by omega
      clear hS hy ht
      go_wp2
      have hS2 := HR.out.setI (i := 0) rfl j (j : Int)
      have HS2 := Lib.hid hS2
      clear hS2
      go_roundw
      case rel => exact ⟨j + 1, ys.set j (j : Int), by go_num, by omega, by rw [List.length_set]; exact HL.out, tab_set (fun k => (k : Int)) HL.out HT.out hlt, HS2.out⟩
      case measure => simp [intOf]; omega
    · obtain rfl : j = m := by omega
      have hjn : ¬ (j : Int) < (j : Int) := by omega
      have e1 : ys = selves j := by
        rw [List.take_of_length_le (by omega)] at ht
        rw [ht]
        unfold tab selves nats
        rfl
      subst e1
      clear hS hy ht HL HT
      go_wp2_with (go_at_call 68; refine (HSO.out _ _ _ _ _ HR.out).mono ?_; rintro e w2 ⟨rfl, hS⟩; have HS2 := Lib.hid hS; clear hS)
      go_ret2
      exact ⟨some ⟨w.heap.size + 1, 0, none⟩, j, by rw [HLN.out]; rfl, by rw [HLN.out]; exact HS2.out.ownI (i := 0) rfl, HS2.out.base⟩

theorem ordI_any : Calls Tryz.prog 29 #[.slice A ws.length cap] w (RetIB w (orderFor ws).1 (orderFor ws).2) := by
  unfold orderFor
  cases hf : isVec ws
  · exact ordI_no A ws cap w h hl hf
  · exact ordI_yes A ws cap w h hl hf

end


end Go.Proofs.YtlbefommcahkeaaGreatDoor.C

namespace Go.Proofs.YtlbefommcahkeaaGreatDoor.C
open Go.RowKit K M
set_option linter.unusedVariables false
set_option linter.unusedSimpArgs false

set_option maxRecDepth 100000 in
set_option maxHeartbeats 4000000 in
theorem gainsI_any (n : Int) (A : Option Addr) (xs : List Int) (cap : Nat) (D : Option Addr) (os : List Int) (dap : Nat) (w : World) (h : Hid (Ints w w.heap.size A xs)) (g : Hid (Ints w w.heap.size D os)) (m : Nat) (o : Nat → Nat)
    (hm : os.length = m) (h5 : m ≤ 5) (hx : xs.length = 2 ^ m) (hv : ∀ k, k < xs.length → -1000 ≤ xs.getD k 0 ∧ xs.getD k 0 ≤ 1000) (ho : ∀ i, i < m → os.getD i 0 = (o i : Int)) (hlt : ∀ i, i < m → o i < m) :
    Calls Tryz.prog 41 #[.agg #[.int .i64 n, .slice A xs.length cap], .slice D os.length dap] w (RetI w (gain xs o m m)) := by
  have HW := Lib.hid (St.start w)
  have h32 : 2 ^ m ≤ 32 := Nat.le_trans (Nat.pow_le_pow_right (by decide) h5) (by decide)
  have hpl := Lib.hid (fun i (hi : i ≤ m) => show pre o i < xs.length by rw [hx]; exact pre_lt i fun k hk => hlt k (by omega))
  have HPS := Lib.hid (fun i => show pre o (i + 1) = pre o i ||| 2 ^ o i from rfl)
  have HGL := Lib.hid (fun k => gain_len xs o m k)
  have HG := Lib.hid (fun k => show gain xs o m (k + 1) = (gain xs o m k).set (o k) (xs.getD (pre o (k + 1)) 0 - xs.getD (pre o k) 0) from rfl)
  have HG0 := Lib.hid (show gain xs o m 0 = List.replicate m 0 from rfl)
  have HO := Lib.hid ho
  have HLT := Lib.hid hlt
  have HXV := Lib.hid hv
  obtain ⟨p, hp⟩ : ∃ p, xs.length = p := ⟨_, rfl⟩
  have HX := Lib.hid hp
  have HM := Lib.hid hm
  rw [hp] at hpl hx ⊢
  rw [hm]
  have hp32 : p ≤ 32 := by omega
  have hgm := HGL.out m
  generalize gain xs o m = G at *
  clear ho hlt hv hp hm hx h32
  obtain ⟨i0, hi, hi0, hi1, hi2⟩ := info_parts info_int
  go_enter Tryz.func41, Tryz.ntmps41
  go_wp2_with (refine wpList_make_full _ rfl _ _ _ rfl (w.heap.size + 1) 3 i0 (.int .i64 0) 1 Tryz.underlying24 hi hi0 hi1 .i64 .i64 _ _ m rfl rfl rfl rfl (by rw [hi2]; omega) (by unfold maxLen; omega) (by simp) ?_; intro w1 hown1 hg1)
  rw [zeros] at hown1
  simp only [World.size_alloc] at hown1
  have HS1 := Lib.hid (show St w _ [il (.slice (some ⟨w.heap.size + 1, 0, none⟩) m m) m (List.replicate m 0), bx w.heap.size 26 [.int .i64 n, .slice A p cap]] from ((HW.out.alloc _ _).new ((Below.refl _ _).grown hg1 (Nat.le_refl _) (by simp)) (by rw [World.size_alloc]; exact hown1)))
  clear hown1 hg1 hi hi0 hi1 hi2
  go_loopw [6, 15] (fun b i wr => ∃ k : Nat, i = .int .i64 k ∧ k ≤ m ∧ b = .int .i64 (pre o k) ∧ St w wr [il (.slice (some ⟨w.heap.size + 1, 0, none⟩) m m) m (G k), bx w.heap.size 26 [.int .i64 n, .slice A p cap]]) (fun _ i _ => m - (intOf i).toNat)
  case atStart => exact ⟨0, rfl, Nat.zero_le _, rfl, by rw [HG0.out]; exact HS1.out⟩
  case round =>
    obtain ⟨k, rfl, hk, rfl, hS⟩ := hrel
    by_cases hlt : k < m
    · obtain ⟨b, off, rfl, hbl, hco⟩ := (g.out.below hS.base).at_ (k := k) (by rw [HM.out]; exact hlt)
      rw [HO.out k hlt] at hco
      have hek := HLT.out k hlt
      have hs1 := hpl.out k (by omega)
      have hs2 := hpl.out (k + 1) (by omega)
      have hst := HPS.out k
      have hG := HG.out k
      obtain ⟨b', off', rfl, hbl', hc1⟩ := (h.out.below hS.base).at_ (k := pre o k) (by rw [HX.out]; exact hs1)
      obtain ⟨b'', off'', e'', hbl'', hc2⟩ := (h.out.below hS.base).at_ (k := pre o (k + 1)) (by rw [HX.out]; exact hs2)
      obtain ⟨rfl, rfl⟩ : b' = b'' ∧ off' = off'' := by cases e''; exact ⟨rfl, rfl⟩
      have v1 := HXV.out _ (by rw [HX.out]; exact hs1)
      have v2 := HXV.out _ (by rw [HX.out]; exact hs2)
      obtain ⟨b0, -⟩ := hS.box (i := 1) rfl
      have b00 := b0 0 _ rfl
      have b01 := b0 1 _ rfl
      generalize hE : o k = E at *
      obtain ⟨c1, c2⟩ := hS.cellI (i := 0) rfl hek
      have hwe : withE (pre o k : Int) (E : Int) = pre o (k + 1) := by
        rw [hst]
        unfold withE
        rw [Int.toNat_natCast, Int.toNat_natCast]
      generalize hT : pre o (k + 1) = T at *
      generalize pre o k = S at *
      generalize xs.getD T 0 = u at *
      generalize xs.getD S 0 = v at *
      have hcw := Lib.hid (fun W => with_any (S : Int) (E : Int) W (by omega) (by omega) (by omega) (by omega))
      rw [hwe] at hcw
      have hw1 : IntKind.i64.wrap (u - v) = u - v := IntWalk.i64_in _ (by omega)
      have hE0 : (0 : Int) ≤ (E : Int) := by omega
      have hEm : (E : Int) < (m : Int) := by omega
      have hk0 : (0 : Int) ≤ (k : Int) := by omega
      have hkm : (k : Int) < (m : Int) := by omega
      have hS0 : (0 : Int) ≤ (S : Int) := by omega
      have hSp : (S : Int) < (p : Int) := by omega
      have hT0 : (0 : Int) ≤ (T : Int) := by omega
      have hTp : (T : Int) < (p : Int) := by omega
      have HGK := Lib.hid hG
      have HT := Lib.hid hT
      have HR := Lib.hid hS
      clear hS hst e'' hT hG b0 hE hwe
      go_wp2_with (go_at_call 76; refine (hcw.out _).mono ?_; rintro e w' ⟨rfl, rfl⟩)
      go_still_tail 14, (by kernel_rfl)
      change wpList _ _ _ _ _ wr.drew
      generalize hwd : wr.drew = wd
      have k1 : wd.cell? ⟨w.heap.size + 1, E, none⟩ = some (.int .i64 ((G k).getD E 0)) := by rw [← hwd]; exact c1
      have k2 : wd.frozen? ⟨w.heap.size + 1, E, none⟩ = false := by rw [← hwd]; exact c2
      have HR2 := Lib.hid (show St w wd _ from hwd ▸ HR.out.drew)
      clear hwd
      go_wp2
      go_roundw
      case rel => exact ⟨k + 1, by go_num, by omega, by rw [HT.out], by rw [HGK.out]; exact HR2.out.setI (i := 0) rfl E _⟩
      case measure => simp [intOf]; omega
    · obtain rfl : k = m := by omega
      have hkn : ¬ (k : Int) < (k : Int) := by omega
      have HR := Lib.hid hS
      clear hS
      go_wp2
      go_ret
      exact ⟨_, _, by rw [hgm]; rfl, by rw [hgm]; exact HR.out.ownI (i := 0) rfl, HR.out.base⟩

end Go.Proofs.YtlbefommcahkeaaGreatDoor.C

namespace Go.Proofs.YtlbefommcahkeaaGreatDoor.C
open Go.RowKit K M
set_option linter.unusedVariables false
set_option linter.unusedSimpArgs false


section

variable (A : Option Addr) (xs : List Int) (cap : Nat) (D : Option Addr) (ys : List Int) (dap : Nat) (w : World) (h : Hid (Ints w w.heap.size A xs)) (g : Hid (Ints w w.heap.size D ys))
include h g
theorem productI_any (h5 : xs.length ≤ 5) (hl : ys.length = xs.length) (hx : ∀ k, k < xs.length → -1000 ≤ xs.getD k 0 ∧ xs.getD k 0 ≤ 1000) (hy : ∀ k, k < xs.length → -2000 ≤ ys.getD k 0 ∧ ys.getD k 0 ≤ 2000) :
    Calls Tryz.prog 40 #[.slice A xs.length cap, .slice D ys.length dap] w fun e w' => e = .returned (.int .i64 (sm (fun k => xs.getD k 0 * ys.getD k 0) xs.length)) ∧ w = w' := by
  obtain ⟨f, hf⟩ : ∃ f : Nat → Int, f = fun k => xs.getD k 0 * ys.getD k 0 := ⟨_, rfl⟩
  have HF := Lib.hid (fun k => show f k = xs.getD k 0 * ys.getD k 0 by rw [hf])
  have HB := Lib.hid (sm_bd (f := f) (b := 2000000) xs.length fun i hi => by
    have a1 := hx i hi
    have a2 := hy i hi
    rw [HF.out]
    exact mul_bd2 a1.1 a1.2 a2.1 a2.2)
  rw [← hf]
  obtain ⟨m, hm⟩ : ∃ m, xs.length = m := ⟨_, rfl⟩
  rw [hm] at hl h5 HB ⊢
  rw [hl]
  have HX := Lib.hid hm
  have HY := Lib.hid hl
  clear hx hy hf hm hl
  go_enter Tryz.func40, Tryz.ntmps40
  go_wp2
  go_loop [5, 10] (fun s i => ∃ k : Nat, k ≤ m ∧ i = .int .i64 k ∧ s = .int .i64 (sm f k)) (fun _ i => m - (intOf i).toNat)
  case atStart => exact ⟨0, Nat.zero_le _, rfl, rfl⟩
  case round =>
    obtain ⟨k, hk, rfl, rfl⟩ := hrel
    by_cases hlt : k < m
    · obtain ⟨b, off, rfl, hbl, hc⟩ := h.out.at_ (k := k) (by rw [HX.out]; omega)
      obtain ⟨b', off', rfl, hbl', hc'⟩ := g.out.at_ (k := k) (by rw [HY.out]; omega)
      have hk0 : (0 : Int) ≤ (k : Int) := by omega
      have hkn : (k : Int) < (m : Int) := by omega
      have hfk := HF.out k
      have b1 := HB.out k hk
      have b2 := HB.out (k + 1) (by omega)
      have hs : sm f (k + 1) = sm f k + f k := rfl
      rw [hs] at b2
      have HS := Lib.hid hs
      have hfb : -20000000 ≤ f k ∧ f k ≤ 20000000 := by omega
      have hsb : -20000000 ≤ sm f k ∧ sm f k ≤ 20000000 := by omega
      generalize xs.getD k 0 = x at hc hfk
      generalize ys.getD k 0 = y at hc' hfk
      have hw1 : IntKind.i64.wrap (x * y) = f k := by rw [← hfk]; exact IntWalk.i64_in _ (by omega)
      generalize f k = z at *
      generalize sm f k = s at *
      have hw2 : IntKind.i64.wrap (s + z) = s + z := IntWalk.i64_in _ (by omega)
      clear hfk hs b1 b2 hfb hsb
      go_wp2
      go_round
      case rel => exact ⟨k + 1, by omega, by go_num, by rw [HS.out]⟩
      case measure => simp [intOf]; omega
    · obtain rfl : k = m := by omega
      have hkn : ¬ (k : Int) < (k : Int) := by omega
      go_wp2
      go_ret
      exact ⟨rfl, rfl⟩

theorem pairI_any (hx : xs.length ≤ 1048576) (hy : ys.length ≤ 1048576) : Calls Tryz.prog 20 #[.slice A xs.length cap, .slice D ys.length dap] w (RetV w (.tuple #[.int .i64 (pairV xs ys).1, .bool (pairV xs ys).2])) := by
  have HA := Lib.hid (areVecI_any A xs cap D ys dap w h g hx hy)
  unfold pairV
  cases hf : fitV xs ys
  · rw [hf] at HA
    go_enter Tryz.func20, Tryz.ntmps20
    go_wp2_with (go_at_call 56; refine HA.out.mono ?_; rintro e w' ⟨rfl, rfl⟩)
    go_ret2
    exact ⟨rfl, Below.refl _ _⟩
  · rw [hf] at HA
    obtain ⟨f1, f2, f3⟩ := fitV_yes hf
    obtain ⟨h5, v1⟩ := isVec_yes f1
    obtain ⟨-, v2⟩ := isVec_yes f2
    have HP := Lib.hid (productI_any A xs cap D ys dap w h g h5 f3.symm v1 fun k hk => by have := v2 k (by omega); omega)
    clear hf f1 f2 f3 v1 v2 h5
    rw [if_pos rfl]
    generalize sm (fun k => xs.getD k 0 * ys.getD k 0) xs.length = s at *
    go_enter Tryz.func20, Tryz.ntmps20
    go_wp2_with (first | (go_at_call 56; refine HA.out.mono ?_; rintro e w' ⟨rfl, rfl⟩) | (go_at_call 40; refine HP.out.mono ?_; rintro e w' ⟨rfl, rfl⟩))
    go_ret2
    exact ⟨rfl, Below.refl _ _⟩

end


end Go.Proofs.YtlbefommcahkeaaGreatDoor.C

namespace Go.Proofs.YtlbefommcahkeaaGreatDoor.C
open Go.RowKit K M
set_option linter.unusedVariables false
set_option linter.unusedSimpArgs false
set_option linter.unusedSectionVars false


section

variable (n : Int) (A : Option Addr) (xs : List Int) (cap : Nat) (D : Option Addr) (ws : List Int) (dap : Nat) (w : World) (h : Hid (Ints w w.heap.size A xs)) (g : Hid (Ints w w.heap.size D ws)) (hl : ws.length ≤ 1048576)
include h g hl
set_option maxRecDepth 100000 in
set_option maxHeartbeats 1600000 in
theorem extI_vec (hv : isVec ws = false) : Calls Tryz.prog 6 #[.agg #[.int .i64 n, .slice A xs.length cap], .slice D ws.length dap] w (RetV w (.tuple #[.int .i64 0, .bool false])) := by
  have HW := Lib.hid (St.start w)
  have HO := Lib.hid (fun W h1 => ordI_any D ws dap W (Lib.hid h1) hl)
  have e : orderFor ws = ([], false) := by unfold orderFor; rw [hv]; rfl
  rw [e] at HO
  clear hv e
  go_enter Tryz.func6, Tryz.ntmps6
  go_wp2_with (go_at_call 29; refine St.use (w0 := w) (by exact HW.out.alloc _ _) ?_; intro hS; (try simp only [World.size_alloc] at hS); refine (HO.out _ ((g.out.below hS.base).mono hS.size)).mono ?_; rintro e w2 ⟨V, c, rfl, ho, hb⟩; have HS := Lib.hid (hS.newI hb ho); clear hS ho hb)
  go_ret2
  exact ⟨rfl, HS.out.base⟩

set_option maxRecDepth 100000 in
set_option maxHeartbeats 1600000 in
theorem extI_fn (hv : isVec ws = true) (hf : isFn n xs = false) : Calls Tryz.prog 6 #[.agg #[.int .i64 n, .slice A xs.length cap], .slice D ws.length dap] w (RetV w (.tuple #[.int .i64 0, .bool false])) := by
  have HW := Lib.hid (St.start w)
  have HO := Lib.hid (fun W h1 => ordI_any D ws dap W (Lib.hid h1) hl)
  have e : (orderFor ws).2 = true := by unfold orderFor; rw [hv]; rfl
  rw [e] at HO
  have HF := Lib.hid hf
  clear hv e hf
  generalize (orderFor ws).1 = os at HO
  go_enter Tryz.func6, Tryz.ntmps6
  go_wp2_with (first
    | (go_at_call 29; refine St.use (w0 := w) (by exact HW.out.alloc _ _) ?_; intro hS; (try simp only [World.size_alloc] at hS); refine (HO.out _ ((g.out.below hS.base).mono hS.size)).mono ?_; rintro e w2 ⟨V, c, rfl, ho, hb⟩; have hS1 := hS.newI hb ho; obtain ⟨b0, -⟩ := hS1.box (i := 1) rfl; have b00 := b0 0 _ rfl; have b01 := b0 1 _ rfl; have HS := Lib.hid hS1; clear hS ho hb hS1 b0)
    | (go_at_call 39; refine (isFnI_no n A xs cap _ (Lib.hid ((h.out.below HS.out.base).mono HS.out.size)) HF.out).mono ?_; rintro e w3 ⟨rfl, hb⟩; have HS2 := Lib.hid (HS.out.below hb); clear hb))
  go_ret2
  exact ⟨rfl, HS2.out.base⟩

set_option maxRecDepth 100000 in
set_option maxHeartbeats 1600000 in
theorem extI_len (hv : isVec ws = true) (hf : isFn n xs = true) (hn : (ws.length : Int) ≠ n) : Calls Tryz.prog 6 #[.agg #[.int .i64 n, .slice A xs.length cap], .slice D ws.length dap] w (RetV w (.tuple #[.int .i64 0, .bool false])) := by
  have HW := Lib.hid (St.start w)
  have HO := Lib.hid (fun W h1 => ordI_any D ws dap W (Lib.hid h1) hl)
  have e : (orderFor ws).2 = true := by unfold orderFor; rw [hv]; rfl
  rw [e] at HO
  have HF := Lib.hid hf
  have hne : ((ws.length : Int) != n) = true := bne_iff_ne.2 hn
  clear hv e hf hn
  generalize (orderFor ws).1 = os at HO
  go_enter Tryz.func6, Tryz.ntmps6
  go_wp2_with (first
    | (go_at_call 29; refine St.use (w0 := w) (by exact HW.out.alloc _ _) ?_; intro hS; (try simp only [World.size_alloc] at hS); refine (HO.out _ ((g.out.below hS.base).mono hS.size)).mono ?_; rintro e w2 ⟨V, c, rfl, ho, hb⟩; have hS1 := hS.newI hb ho; obtain ⟨b0, -⟩ := hS1.box (i := 1) rfl; have b00 := b0 0 _ rfl; have b01 := b0 1 _ rfl; have HS := Lib.hid hS1; clear hS ho hb hS1 b0)
    | (go_at_call 39; refine (isFnI_yes n A xs cap _ (Lib.hid ((h.out.below HS.out.base).mono HS.out.size)) HF.out).mono ?_; rintro e w3 ⟨rfl, hb⟩; have hS1 := HS.out.below hb; obtain ⟨b0, -⟩ := hS1.box (i := 1) rfl; have c00 := b0 0 _ rfl; have c01 := b0 1 _ rfl; have HS2 := Lib.hid hS1; clear hb hS1 b0 b00 b01))
  go_ret2
  exact ⟨rfl, HS2.out.base⟩

set_option maxRecDepth 100000 in
set_option maxHeartbeats 4000000 in
theorem extI_good (ok : extOk n xs ws = true) : Calls Tryz.prog 6 #[.agg #[.int .i64 n, .slice A xs.length cap], .slice D ws.length dap] w (RetV w (.tuple #[.int .i64 (extV xs ws), .bool true])) := by
  obtain ⟨hv, hf, hn⟩ := extOk_yes ok
  obtain ⟨-, -, hxl, hxv⟩ := isFn_yes hf
  obtain ⟨h5, hwv⟩ := isVec_yes hv
  have HW := Lib.hid (St.start w)
  have e : orderFor ws = (nats (ordN ws ws.length), true) := by unfold orderFor; rw [hv]; rfl
  have HF := Lib.hid hf
  have hne : ((ws.length : Int) != n) = false := bne_eq_false_iff_eq.2 hn
  have hxp : xs.length = 2 ^ ws.length := by rw [hxl, ← hn, Int.toNat_natCast]
  have hpm := ordF_pm ws
  have hol : (nats (ordN ws ws.length)).length = ws.length := by rw [nats_len, ordN_len]
  have hgl := gain_len xs (ordF ws) ws.length ws.length
  have HO := Lib.hid (fun W h1 => ordI_any D ws dap W (Lib.hid h1) hl)
  rw [e] at HO
  have hgb := Lib.hid (fun k => gain_bd (xs := xs) (o := ordF ws) (m := ws.length) hpm.lt (fun i hi => by
    have a2 := hxv _ (show pre (ordF ws) i < xs.length by rw [hxp]; exact pre_lt i fun k hk => hpm.lt k (by omega))
    have a3 := hxv _ (show pre (ordF ws) (i + 1) < xs.length by rw [hxp]; exact pre_lt (i + 1) fun k hk => hpm.lt k (by omega))
    unfold dl
    omega) k ws.length (Nat.le_refl _))
  have hev : extV xs ws = xs.getD 0 0 + sm (fun k => ws.getD k 0 * (gain xs (ordF ws) ws.length ws.length).getD k 0) ws.length := by
    rw [gain_sum xs hpm (fun k => ws.getD k 0) ws.length (Nat.le_refl _)]
    rfl
  have heb := ext_bd ok
  rw [hev] at heb ⊢
  have HGA := Lib.hid (fun W V c (h1 : Ints W W.heap.size A xs) (h2 : Ints W W.heap.size V (nats (ordN ws ws.length))) => (gainsI_any n A xs cap V (nats (ordN ws ws.length)) c W (Lib.hid h1) (Lib.hid h2) ws.length (ordF ws) hol h5 hxp hxv (fun i hi => by rw [nats_at (by rw [ordN_len]; exact hi)]; rfl) hpm.lt).mono fun e w' ⟨V', c', he, ho, hb⟩ => (show ∃ V' c', e = Ending.returned (.slice V' ws.length c') ∧ K.Own w' W.heap.size (.slice V' ws.length c') _ ∧ Below W.heap.size W w' from ⟨V', c', by rw [he, hgl], by rw [hgl] at ho; exact ho, hb⟩))
  have HPR := Lib.hid (fun W V c (h1 : Ints W W.heap.size D ws) (h2 : Ints W W.heap.size V (gain xs (ordF ws) ws.length ws.length)) => productI_any D ws dap V _ c W (Lib.hid h1) (Lib.hid h2) h5 hgl hwv fun k _ => hgb.out k)
  rw [hol] at HGA
  rw [hgl] at HPR
  generalize sm (fun k => ws.getD k 0 * (gain xs (ordF ws) ws.length ws.length).getD k 0) ws.length = y at *
  generalize gain xs (ordF ws) ws.length ws.length = gs at *
  generalize nats (ordN ws ws.length) = os at *
  obtain ⟨m, hm⟩ : ∃ m, ws.length = m := ⟨_, rfl⟩
  obtain ⟨p, hp⟩ : ∃ p, xs.length = p := ⟨_, rfl⟩
  have hp0' : 0 < p := by rw [← hp, hxp]; exact Nat.two_pow_pos _
  rw [hm] at HO hne hol h5 HGA HPR hgl ⊢
  rw [hp] at HGA ⊢
  have hx0b := hxv 0 (by omega)
  have HX := Lib.hid hm
  have HY := Lib.hid hp
  have HL := Lib.hid hol
  have HGL := Lib.hid hgl
  clear e hv hf hn hxl hxv hwv hpm hev hm hp hol hgl hgb ok hl hxp
  go_enter Tryz.func6, Tryz.ntmps6
  have hp0 : (0 : Int) < (p : Int) := by omega
  obtain ⟨b, off, rfl, hbl, hc0⟩ := h.out.at_ (k := 0) (by rw [HY.out]; omega)
  have HC0 := Lib.hid hc0
  obtain ⟨x0, hx0⟩ : ∃ x0, xs.getD 0 0 = x0 := ⟨_, rfl⟩
  rw [hx0] at HC0 hx0b heb ⊢
  have hw0 : IntKind.i64.wrap (x0 + y) = x0 + y := IntWalk.i64_in _ (by omega)
  clear hc0 heb hx0b
  go_wp2_with (first
    | (go_at_call 29; refine St.use (w0 := w) (by exact HW.out.alloc _ _) ?_; intro hS; (try simp only [World.size_alloc] at hS); refine (HO.out _ ((g.out.below hS.base).mono hS.size)).mono ?_; rintro e w2 ⟨V, c, rfl, ho, hb⟩; rw [HL.out] at ho ⊢; have hS1 := hS.newI hb ho; rw [HL.out] at hS1; obtain ⟨b0, -⟩ := hS1.box (i := 1) rfl; have b00 := b0 0 _ rfl; have b01 := b0 1 _ rfl; have HS := Lib.hid hS1; clear hS ho hb hS1 b0)
    | (go_at_call 39; rw [← HY.out]; refine (isFnI_yes n _ xs cap _ (Lib.hid ((h.out.below HS.out.base).mono HS.out.size)) HF.out).mono ?_; rintro e w3 ⟨rfl, hb⟩; have hS1 := HS.out.below hb; obtain ⟨b0, -⟩ := hS1.box (i := 1) rfl; have c00 := b0 0 _ rfl; have c01 := b0 1 _ rfl; have hcc := (hS1.base.cell (p := ⟨b, off + 0, none⟩) hbl).trans HC0.out; rw [Nat.add_zero] at hcc; have HS2 := Lib.hid hS1; clear hb hS1 b0 b00 b01))
  go_region_held3 (fun w' => w'.cell? ⟨w.heap.size, 0, none⟩ = some (.int .i64 n) ∧ w'.cell? ⟨w.heap.size, 1, none⟩ = some (.slice (some ⟨b, off, none⟩) p cap) ∧ w'.cell? ⟨b, off, none⟩ = some (.int .i64 x0)) (first | assumption | go_keep) (first
    | (go_at_call 41; refine (HGA.out _ _ _ ?_ ?_).mono ?_; (exact (h.out.below HS2.out.drew.base).mono HS2.out.drew.size); (exact HS2.out.drew.ints (i := 0) rfl); rintro e w4 ⟨V', c', rfl, ho, hb⟩; have hS3 := HS2.out.drew.newI hb ho; rw [HGL.out] at hS3; obtain ⟨b0, -⟩ := hS3.box (i := 2) rfl; have e00 := b0 0 _ rfl; have e01 := b0 1 _ rfl; have ecc := (hS3.base.cell (p := ⟨b, off + 0, none⟩) hbl).trans HC0.out; rw [Nat.add_zero] at ecc; have HS3 := Lib.hid hS3; clear ho hb hS3 b0)
    | (go_at_call 40; refine (HPR.out _ _ _ ?_ ?_).mono ?_; (exact (g.out.below HS3.out.base).mono HS3.out.size); (exact HS3.out.ints (i := 0) rfl); rintro e w5 ⟨rfl, rfl⟩))
  go_wp2
  go_ret2
  exact ⟨rfl, HS3.out.base⟩

theorem extI_any : Calls Tryz.prog 6 #[.agg #[.int .i64 n, .slice A xs.length cap], .slice D ws.length dap] w (RetV w (.tuple #[.int .i64 (extAt n xs ws).1, .bool (extAt n xs ws).2])) := by
  unfold extAt
  cases ok : extOk n xs ws
  · cases hv : isVec ws
    · exact extI_vec n A xs cap D ws dap w h g hl hv
    · cases hf : isFn n xs
      · exact extI_fn n A xs cap D ws dap w h g hl hv hf
      · refine extI_len n A xs cap D ws dap w h g hl hv hf fun hn => ?_
        unfold extOk at ok
        rw [hv, hf, decide_eq_true hn] at ok
        exact absurd ok (by decide)
  · exact extI_good n A xs cap D ws dap w h g hl ok

end


end Go.Proofs.YtlbefommcahkeaaGreatDoor.C

namespace Go.Proofs.YtlbefommcahkeaaGreatDoor.M
theorem order_le (ws : List Int) : (orderFor ws).1.length ≤ 1048576 := by
  unfold orderFor
  split
  · rename_i h
    rw [nats_len, ordN_len]
    have := (isVec_yes h).1
    omega
  · exact Nat.zero_le _
theorem least_le (xs ys : List Int) : (leastV xs ys).1.length ≤ 1048576 := by
  unfold leastV
  split
  · rename_i h
    have := (isVec_yes (fitV_yes h).1).1
    show (minV xs ys).length ≤ _
    unfold minV
    rw [tab_length]
    omega
  · exact Nat.zero_le _
theorem great_le (xs ys : List Int) : (greatV xs ys).1.length ≤ 1048576 := by
  unfold greatV
  split
  · rename_i h
    have := (isVec_yes (fitV_yes h).1).1
    show (maxV xs ys).length ≤ _
    unfold maxV
    rw [tab_length]
    omega
  · exact Nat.zero_le _
theorem ind_le (n s : Int) : (indOf n s).1.length ≤ 1048576 := by
  unfold indOf
  split
  · rename_i h
    rw [tab_length]
    omega
  · exact Nat.zero_le _

end Go.Proofs.YtlbefommcahkeaaGreatDoor.M

namespace Go.Proofs.YtlbefommcahkeaaGreatDoor.K
open Go.RowKit
set_option linter.unusedVariables false


section

variable {w0 w : World} {L : List Cel}

theorem add_at (b off j : Nat) : (⟨b, off, none⟩ : Addr).add j = ⟨b, off + j, none⟩ := by unfold Addr.add; split <;> simp_all
theorem grown_setRow (w : World) (g : Nat) (cs : Array Value) : w.grownBy (w.setRow g cs) (some g) :=
  ⟨rfl, rfl, rfl, by simp [World.setRow], fun k hk hne => setRow_other w g k cs (by intro e; subst e; exact hne rfl)⟩

theorem wpList_copyI {ops : Array Oper} {rest : List Oper} {o' : Oper} {a : Act} {Q : Exit → Act → World → Prop} (hgd : o'.guard = none) (d s : Operand) (t : TypeId)
    (ho : o'.op = .call { callee := .builtin .copy, args := #[d, s], argTypes := #[t, t] }) {i g n c cap : Nat} {A : Option Addr} {xs ys : List Int} (hu : Tryz.prog.underlying t = some (.slice 3)) (hsz : (Tryz.prog.info? 3).map (·.size) = some 1)
    (h : St w0 w L) (hi : L[i]? = some (il (.slice (some ⟨g, 0, none⟩) n c) n ys)) (hs : Ints w w.heap.size A xs) (hx : xs.length = n) (hd : a.eval d = .slice (some ⟨g, 0, none⟩) n c) (hse : a.eval s = .slice A n cap)
    (hK : ∀ w', St w0 w' (L.set i (il (.slice (some ⟨g, 0, none⟩) n c) n xs)) → wpList Tryz.prog ops Q rest (a.put o'.dst (goInt n)) w') : wpList Tryz.prog ops Q (o' :: rest) a w := by
  have hown := h.own hi
  obtain ⟨hl, hcase⟩ := hown
  rcases hcase with ⟨hv, -⟩ | ⟨g', cap', cur, hv, hb, hg, hnc, hcm, hcs, htake⟩
  · injection hv with h1 _ _; cases h1
  · obtain ⟨rfl, rfl⟩ : g = g' ∧ c = cap' := by
      injection hv with h1 _ h3
      injection h1 with h1
      injection h1 with h1 _ _
      exact ⟨h1, h3⟩
    clear hv
    have hyl : ys.length = n := by simpa [il, K.ints] using hl
    by_cases h0 : n = 0
    · subst h0
      obtain rfl : xs = [] := List.eq_nil_of_length_eq_zero hx
      obtain rfl : ys = [] := List.eq_nil_of_length_eq_zero hyl
      refine wpList_copy_nothing hgd d s t t ho 3 hu hsz _ _ _ _ _ _ hd hse rfl ?_
      refine hK w ?_
      obtain ⟨hlt, he⟩ := List.getElem?_eq_some_iff.1 hi
      rw [← he, List.set_getElem_self]
      exact h
    · obtain ⟨b, off, rfl, hbl, hc⟩ := hs (by omega)
      have hcur : n ≤ cur.size := by
        have : cur.size = c * 1 := hcs
        have : n ≤ c := hnc
        omega
      have hlen : (K.ints xs).length = n := by simp [K.ints, hx]
      refine wpList_copy_own hgd d s t t ho 3 hu hsz g 0 n c ⟨b, off, none⟩ n cap hd hse cur _ hg (K.ints xs) (by rw [hlen]; simp) (fun j v hj => ?_) (by rw [hlen]; omega) (fun v hv => ?_) ?_
      · have hjl : j < xs.length := by
          have := (List.getElem?_eq_some_iff.1 hj).1
          simpa [K.ints] using this
        rw [add_at, hc j hjl, ← hj]
        exact (ints_at xs hjl).symm
      · obtain ⟨z, _, rfl⟩ := List.mem_map.1 hv
        rfl
      · rw [hlen]
        refine hK _ ?_
        refine h.mark hi (grown_setRow w g _) ⟨by simp [il, K.ints, hx], .inr ⟨g, c, _, rfl, hb, setRow_heap w g _ _ _ _ hg, hnc, hcm, ?_, ?_⟩⟩
        · show (List.toArray _).size = _
          have : cur.size = c * 1 := hcs
          simp [il]
          omega
        · show List.take (n * 1) _ = K.ints xs
          simp [hlen]

end


end Go.Proofs.YtlbefommcahkeaaGreatDoor.K
