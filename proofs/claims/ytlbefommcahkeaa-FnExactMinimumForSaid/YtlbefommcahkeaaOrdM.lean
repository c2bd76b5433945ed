/-
  A sort in place by insertion, over the elements themselves, and the order of a vector.
-/
import Derived.Test.YtlbefommcahkeaaExM
import Derived.Sort.WalkA
import Derived.Shelf.SlSortCmp.Insertion
import Derived.Lib.Small
namespace Go.Proofs.Ytlbefommcahkeaa.M
open Go.Sort
set_option linter.unusedVariables false
set_option linter.unusedSimpArgs false
set_option linter.unusedSectionVars false


section

variable {α : Type} [Inhabited α] (lt : α → α → Bool)
/-- Where a value sinks to. -/
def sinks (v : α) (f : Nat → α) : Nat → Nat
  | 0 => 0
  | k + 1 => if lt v (f k) = true then sinks v f k else k + 1
theorem sinks_le (v : α) (f : Nat → α) : ∀ j, sinks lt v f j ≤ j
  | 0 => Nat.le_refl _
  | k + 1 => by
    unfold sinks
    split
    · exact Nat.le_succ_of_le (sinks_le v f k)
    · exact Nat.le_refl _
theorem sinks_congr (v : α) (f g : Nat → α) : ∀ j, (∀ k, k < j → f k = g k) → sinks lt v f j = sinks lt v g j
  | 0, _ => rfl
  | k + 1, h => by rw [sinks, sinks, h k (by omega), sinks_congr v f g k fun q hq => h q (by omega)]
theorem swp_size (d : Array α) (i j : Nat) : (swp d i j).size = d.size := by simp [swp]
theorem swp_get (d : Array α) {i j q : Nat} (hi : i < d.size) (hj : j < d.size) (hq : q < d.size) : (swp d i j)[q]! = if q = j then d[i]! else if q = i then d[j]! else d[q]! := by
  rw [swp]
  simp only [getElem!_def, Array.getElem?_setIfInBounds, Array.size_setIfInBounds]
  by_cases h1 : q = j
  · subst h1
    simp [hj]
  · rw [if_neg h1, if_neg (fun h => h1 h.symm)]
    by_cases h2 : q = i
    · subst h2
      simp [hi]
    · rw [if_neg h2, if_neg (fun h => h2 h.symm)]
theorem ins_get : ∀ (j : Nat) (d : Array α), j < d.size → (insInner lt 0 j d).size = d.size ∧ ∀ q, q < d.size →
    (insInner lt 0 j d)[q]! = if q < sinks lt d[j]! (fun k => d[k]!) j then d[q]! else if q = sinks lt d[j]! (fun k => d[k]!) j then d[j]! else if q ≤ j then d[q - 1]! else d[q]!
  | 0, d, hj => by
    refine ⟨rfl, fun q hq => ?_⟩
    show d[q]! = _
    rw [sinks, if_neg (by omega)]
    by_cases e : q = 0
    · rw [if_pos e, e]
    · rw [if_neg e, if_neg (by omega)]
  | j + 1, d, hj => by
    rw [insInner]
    by_cases hl : lt d[j + 1]! d[j]! = true
    · have hc : (decide (j + 1 > 0) && lt d[j + 1]! d[j]!) = true := by rw [hl]; simp
      rw [if_pos hc]
      obtain ⟨h1, h2⟩ := ins_get j (swp d (j + 1) j) (by rw [swp_size]; omega)
      rw [swp_size] at h1 h2
      refine ⟨h1, fun q hq => ?_⟩
      have hv : (swp d (j + 1) j)[j]! = d[j + 1]! := by rw [swp_get d hj (by omega) (by omega), if_pos rfl]
      have hs : sinks lt d[j + 1]! (fun k => (swp d (j + 1) j)[k]!) j = sinks lt d[j + 1]! (fun k => d[k]!) j :=
        sinks_congr _ _ _ _ j fun k hk => by
          show (swp d (j + 1) j)[k]! = d[k]!
          rw [swp_get d hj (by omega) (by omega), if_neg (by omega), if_neg (by omega)]
      have he : sinks lt d[j + 1]! (fun k => d[k]!) (j + 1) = sinks lt d[j + 1]! (fun k => d[k]!) j := by rw [sinks, if_pos hl]
      rw [h2 q hq, hv, hs, he]
      have hp := sinks_le lt d[j + 1]! (fun k => d[k]!) j
      generalize sinks lt d[j + 1]! (fun k => d[k]!) j = p at hp ⊢
      by_cases c1 : q < p
      · rw [if_pos c1, if_pos c1, swp_get d hj (by omega) hq, if_neg (by omega), if_neg (by omega)]
      · rw [if_neg c1, if_neg c1]
        by_cases c2 : q = p
        · rw [if_pos c2, if_pos c2]
        · rw [if_neg c2, if_neg c2]
          by_cases c3 : q ≤ j
          · rw [if_pos c3, if_pos (by omega), swp_get d hj (by omega) (by omega), if_neg (by omega), if_neg (by omega)]
          · rw [if_neg c3]
            by_cases c4 : q = j + 1
            · subst c4
              rw [if_pos (Nat.le_refl _), swp_get d hj (by omega) hq, if_neg (by omega), if_pos rfl, Nat.add_sub_cancel]
            · rw [if_neg (by omega), swp_get d hj (by omega) hq, if_neg (by omega), if_neg (by omega)]
    · have hc : ¬ (decide (j + 1 > 0) && lt d[j + 1]! d[j]!) = true := by
        rw [Bool.and_eq_true]
        exact fun h => hl h.2
      rw [if_neg hc]
      refine ⟨rfl, fun q hq => ?_⟩
      have he : sinks lt d[j + 1]! (fun k => d[k]!) (j + 1) = j + 1 := by rw [sinks, if_neg hl]
      rw [he]
      by_cases c1 : q < j + 1
      · rw [if_pos c1]
      · rw [if_neg c1]
        by_cases c2 : q = j + 1
        · rw [if_pos c2, c2]
        · rw [if_neg c2, if_neg (by omega)]

end


/-- The elements below n. -/
abbrev El (n : Nat) := { k : Nat // k < n }
/-- What the order asks of two elements. -/
def byNum (ws : List Int) {n : Nat} (a b : El n) : Int := Lib.compareInt (ws.getD b.1 0) (ws.getD a.1 0)
theorem byNum_lt (ws : List Int) {n : Nat} (a b : El n) : ltOf (byNum ws) a b = decide (ws.getD b.1 0 < ws.getD a.1 0) := by
  unfold ltOf byNum Lib.compareInt
  congr 1
  apply propext
  constructor
  · intro h
    split at h
    · assumption
    · split at h <;> omega
  · intro h
    rw [if_pos h]
    decide
theorem take_mid (l : List Nat) (i p : Nat) (hp : p ≤ l.length) (q : Nat) : (l.take p ++ i :: l.drop p).getD q 0 = if q < p then l.getD q 0 else if q = p then i else l.getD (q - 1) 0 := by
  have hl : (l.take p).length = p := by rw [List.length_take]; omega
  by_cases c1 : q < p
  · rw [if_pos c1, List.getD_eq_getElem?_getD, List.getElem?_append_left (by omega), List.getElem?_take, if_pos c1, List.getD_eq_getElem?_getD]
  · rw [if_neg c1, List.getD_eq_getElem?_getD, List.getElem?_append_right (by omega), hl]
    by_cases c2 : q = p
    · rw [if_pos c2, c2, Nat.sub_self]
      rfl
    · rw [if_neg c2]
      obtain ⟨r, rfl⟩ : ∃ r, q = p + 1 + r := ⟨q - (p + 1), by omega⟩
      rw [show p + 1 + r - p = r + 1 by omega, List.getElem?_cons_succ, List.getElem?_drop, List.getD_eq_getElem?_getD, show p + 1 + r - 1 = p + r by omega]

section

variable {n : Nat} [Inhabited (El n)] (ws : List Int)
/-- The first i elements are in order, the others where they were. -/
def sortedTo (i : Nat) (d : Array (El n)) : Prop := d.size = n ∧ ∀ q, q < n → (d[q]!).1 = if q < i then (ordN ws i).getD q 0 else q
theorem sorted_step {i : Nat} {d : Array (El n)} (hi : i < n) (h : sortedTo ws i d) : sortedTo ws (i + 1) (insInner (ltOf (byNum ws)) 0 i d) := by
  obtain ⟨hs, hv⟩ := h
  obtain ⟨h1, h2⟩ := ins_get (ltOf (byNum ws)) i d (by omega)
  rw [hs] at h1 h2
  refine ⟨h1, fun q hq => ?_⟩
  have hvi : (d[i]!).1 = i := by rw [hv i hi, if_neg (by omega)]
  have hpl : ∀ j, j ≤ i → sinks (ltOf (byNum ws)) d[i]! (fun k => d[k]!) j = place ws (ws.getD i 0) (ordN ws i) j := by
    intro j
    induction j with
    | zero => exact fun _ => rfl
    | succ j ih =>
      intro hj
      have hvj : (d[j]!).1 = (ordN ws i).getD j 0 := by rw [hv j (by omega), if_pos (by omega)]
      rw [sinks, place, byNum_lt, hvi, hvj, ih (by omega)]
      by_cases c : ws.getD ((ordN ws i).getD j 0) 0 < ws.getD i 0
      · rw [if_pos c, if_pos (by rw [decide_eq_true c])]
      · rw [if_neg c, if_neg (by rw [decide_eq_false c]; decide)]
  have hol := ordN_len ws i
  have hp := (place_is ws (ws.getD i 0) (ordN ws i) i).1
  rw [h2 q hq, hpl i (Nat.le_refl _)]
  have e : (if q < i + 1 then (ordN ws (i + 1)).getD q 0 else q) = if q < i + 1 then (if q < place ws (ws.getD i 0) (ordN ws i) i then (ordN ws i).getD q 0 else if q = place ws (ws.getD i 0) (ordN ws i) i then i else (ordN ws i).getD (q - 1) 0) else q := by
    rw [ordN, hol, take_mid _ _ _ (by omega)]
  rw [e]
  generalize place ws (ws.getD i 0) (ordN ws i) i = p at hp ⊢
  by_cases c1 : q < p
  · rw [if_pos c1, if_pos (by omega), if_pos c1, hv q hq, if_pos (by omega)]
  · rw [if_neg c1]
    by_cases c2 : q = p
    · rw [if_pos c2, if_pos (by omega), if_neg c1, if_pos c2, hvi]
    · rw [if_neg c2]
      by_cases c3 : q ≤ i
      · rw [if_pos c3, if_pos (by omega), if_neg c1, if_neg c2, hv (q - 1) (by omega), if_pos (by omega)]
      · rw [if_neg c3, if_neg (by omega), hv q hq, if_neg (by omega)]
theorem sorted_out : ∀ (k i : Nat) (d : Array (El n)), n - i = k → i ≤ n → sortedTo ws i d → sortedTo ws n (insOuter (ltOf (byNum ws)) 0 n i d)
  | 0, i, d, hk, hi, h => by
    obtain rfl : i = n := by omega
    rw [insOuter_stop _ _ _ _ _ (by omega)]
    exact h
  | k + 1, i, d, hk, hi, h => by
    rw [insOuter_go _ _ _ _ _ (by omega)]
    exact sorted_out k (i + 1) _ (by omega) (by omega) (sorted_step ws (by omega) h)
/-- The elements themselves, in their order. -/
theorem sorted_all (d : Array (El n)) (hn : 0 < n) (hs : d.size = n) (hd : ∀ q, q < n → (d[q]!).1 = q) : sortedTo ws n (insertionSort (ltOf (byNum ws)) d 0 n) := by
  refine sorted_out ws (n - 1) (0 + 1) d (by omega) (by omega) ⟨hs, fun q hq => ?_⟩
  rw [hd q hq]
  split
  · obtain rfl : q = 0 := by omega
    rfl
  · rfl
/-- What the sort leaves is the order. -/
theorem sorted_list {d : Array (El n)} (hl : ws.length = n) (h : sortedTo ws n d) : d.toList.map (fun e => (e.1 : Int)) = nats (ordN ws n) := by
  obtain ⟨hs, hv⟩ := h
  refine List.ext_getElem? fun q => ?_
  unfold nats
  rw [List.getElem?_map, List.getElem?_map]
  by_cases hq : q < n
  · have e1 : d.toList[q]? = some d[q]! := by
      rw [Array.getElem?_toList, getElem!_def]
      rw [Array.getElem?_eq_getElem (by omega)]
    have e2 : (ordN ws n)[q]? = some ((ordN ws n).getD q 0) := by
      rw [List.getD_eq_getElem?_getD, List.getElem?_eq_getElem (by rw [ordN_len]; omega)]
      rfl
    rw [e1, e2, Option.map_some, Option.map_some, hv q hq, if_pos hq]
  · rw [List.getElem?_eq_none (by rw [Array.length_toList]; omega), List.getElem?_eq_none (by rw [ordN_len]; omega)]
    rfl

end


end Go.Proofs.Ytlbefommcahkeaa.M
