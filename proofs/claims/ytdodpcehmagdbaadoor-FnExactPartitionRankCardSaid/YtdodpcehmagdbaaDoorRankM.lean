/-
  Ranks of partitions as plain mathematics: group by group, and counted down element by element.
-/
import Derived.Test.YtdodpcehmagdbaaDoorMkM
import Derived.Test.YtdodpcehmagdbaaDoorWsM
namespace Go.Proofs.YtdodpcehmagdbaaDoor.M
set_option linter.unusedVariables false

/-- Which elements lie in group k. -/
def indic (g : List Int) (k : Nat) : List Int := g.map fun x => if x = (k : Int) then 1 else 0
theorem indic_at {g : List Int} {k i : Nat} (hi : i < g.length) : (indic g k).getD i 0 = if g.getD i 0 = (k : Int) then 1 else 0 := by
  simp [indic, List.getD_eq_getElem?_getD, List.getElem?_map, List.getElem?_eq_getElem hi]
theorem indic_bd (g : List Int) (k i : Nat) : 0 ≤ (indic g k).getD i 0 ∧ (indic g k).getD i 0 ≤ 1 := by
  by_cases hi : i < g.length
  · rw [indic_at hi]; split <;> omega
  · have e : (indic g k).getD i 0 = 0 := by
      rw [List.getD_eq_getElem?_getD, List.getElem?_eq_none (by simp [indic]; omega)]; rfl
    omega
/-- How many of the first i elements lie in a set and in group k. -/
def cntV (g : List Int) (s k i : Nat) : Int := weigh (indic g k) s i
theorem cntV_bd (g : List Int) (s k : Nat) : ∀ i : Nat, 0 ≤ cntV g s k i ∧ cntV g s k i ≤ (i : Int)
  | 0 => by simp [cntV, weigh]
  | i + 1 => by
    have h1 := cntV_bd g s k i
    have h2 := indic_bd g k i
    unfold cntV at *
    unfold weigh
    split <;> omega
theorem cntV_yes {g : List Int} {s k i : Nat} (hi : i < g.length) (ht : s.testBit i = true) (hg : g.getD i 0 = (k : Int)) : cntV g s k (i + 1) = cntV g s k i + 1 := by
  show (if s.testBit i = true then weigh (indic g k) s i + (indic g k).getD i 0 else weigh (indic g k) s i) = _
  rw [if_pos ht, indic_at hi, if_pos hg]; rfl
theorem cntV_no {g : List Int} {s k i : Nat} (hi : i < g.length) (h : s.testBit i = false ∨ g.getD i 0 ≠ (k : Int)) : cntV g s k (i + 1) = cntV g s k i := by
  show (if s.testBit i = true then weigh (indic g k) s i + (indic g k).getD i 0 else weigh (indic g k) s i) = _
  rcases h with h | h
  · rw [if_neg (by rw [h]; decide)]; rfl
  · rw [indic_at hi, if_neg h]; simp [cntV]
def fsum (h : Nat → Int) : Nat → Int
  | 0 => 0
  | k + 1 => fsum h k + h k
theorem fsum_succ (h : Nat → Int) (k : Nat) : fsum h (k + 1) = fsum h k + h k := rfl
theorem fsum_bd {h : Nat → Int} {m : Nat} (hb : ∀ k, k < m → 0 ≤ h k ∧ h k ≤ 5) : ∀ k : Nat, k ≤ m → 0 ≤ fsum h k ∧ fsum h k ≤ 5 * (k : Int)
  | 0, _ => by simp [fsum]
  | k + 1, hk => by
    have h1 := fsum_bd hb k (by omega)
    have h2 := hb k (by omega)
    rw [fsum_succ]
    omega
theorem fsum_congr {h h' : Nat → Int} : ∀ m : Nat, (∀ k, k < m → h k = h' k) → fsum h m = fsum h' m
  | 0, _ => rfl
  | m + 1, hb => by rw [fsum_succ, fsum_succ, fsum_congr m fun k hk => hb k (by omega), hb m (by omega)]
theorem fsum_one {h h' : Nat → Int} {a : Nat} : ∀ m : Nat, a < m → h a = h' a + 1 → (∀ k, k < m → k ≠ a → h k = h' k) → fsum h m = fsum h' m + 1
  | 0, ha, _, _ => absurd ha (by omega)
  | m + 1, ha, h1, h2 => by
    rw [fsum_succ, fsum_succ]
    by_cases e : a = m
    · subst e
      rw [fsum_congr a fun k hk => h2 k (by omega) (by omega), h1]; omega
    · rw [fsum_one m (by omega) h1 fun k hk => h2 k (by omega), h2 m (by omega) (by omega)]; omega
/-- The rank of a set: group by group, at most as many as the group allows. -/
def grpV (g ms : List Int) (s k : Nat) : Int := min (cntV g s k g.length) (ms.getD k 0)
def rankV (g ms : List Int) (s : Nat) : Int := fsum (grpV g ms s) ms.length
def partOk (g ms : List Int) : Prop := g.length ≤ 5 ∧ ms.length ≤ 5 ∧ (∀ i, i < g.length → 0 ≤ g.getD i 0 ∧ g.getD i 0 < (ms.length : Int)) ∧ ∀ k, k < ms.length → 0 ≤ ms.getD k 0 ∧ ms.getD k 0 ≤ 5
instance (g ms : List Int) : Decidable (partOk g ms) := by unfold partOk; infer_instance
def rankFn (g ms : List Int) : Int × List Int × Bool := if partOk g ms then made (g.length : Int) (tab (2 ^ g.length) (rankV g ms)) else (0, [], false)
theorem rankFn_len (g ms : List Int) : (rankFn g ms).2.1.length ≤ 32 := by
  unfold rankFn; split <;> first | exact made_len _ _ | exact Nat.zero_le _
theorem grpV_bd {g ms : List Int} (h : partOk g ms) (s : Nat) : ∀ k, k < ms.length → 0 ≤ grpV g ms s k ∧ grpV g ms s k ≤ 5 := fun k hk => by
  have h1 := cntV_bd g s k g.length
  have h2 := h.2.2.2 k hk
  unfold grpV
  omega
/-- Counted down: an element counts where its group still has room. -/
def rk (g : List Int) : List Int → List Int → Int
  | _, [] => 0
  | fr, e :: l => if 0 < fr.getD (g.getD e.toNat 0).toNat 0 then 1 + rk g (fr.set (g.getD e.toNat 0).toNat (fr.getD (g.getD e.toNat 0).toNat 0 - 1)) l else rk g fr l
theorem wsum_nonneg (g : List Int) (j : Nat) : ∀ l, 0 ≤ wsum (indic g j) l
  | [] => by simp [wsum]
  | e :: l => by
    have h1 := wsum_nonneg g j l
    have h2 := indic_bd g j e.toNat
    show 0 ≤ (indic g j).getD e.toNat 0 + wsum (indic g j) l
    omega
theorem getD_set (l : List Int) (a j : Nat) (x : Int) : (l.set a x).getD j 0 = if a = j ∧ a < l.length then x else l.getD j 0 := by
  simp only [List.getD_eq_getElem?_getD, List.getElem?_set]
  by_cases e : a = j
  · subst e
    by_cases h : a < l.length
    · simp [h]
    · simp [h]
  · simp [e]
theorem rk_sum (g : List Int) : ∀ (l fr : List Int), (∀ e ∈ l, 0 ≤ e ∧ e.toNat < g.length ∧ 0 ≤ g.getD e.toNat 0 ∧ g.getD e.toNat 0 < (fr.length : Int)) → (∀ j, j < fr.length → 0 ≤ fr.getD j 0) → rk g fr l = fsum (fun j => min (wsum (indic g j) l) (fr.getD j 0)) fr.length
  | [], fr, _, hf => by
    have : fsum (fun j => min (wsum (indic g j) []) (fr.getD j 0)) fr.length = fsum (fun _ => 0) fr.length := fsum_congr _ fun j hj => by
      have := hf j hj
      simp only [wsum]; omega
    rw [this]
    show (0 : Int) = _
    have z : ∀ m : Nat, fsum (fun _ => 0) m = 0 := fun m => by
      induction m with
      | zero => rfl
      | succ m ih => rw [fsum_succ, ih]; rfl
    exact (z _).symm
  | e :: l, fr, he, hf => by
    obtain ⟨e0, e1, e2, e3⟩ := he e (List.mem_cons_self ..)
    have hl := fun x hx => he x (List.mem_cons_of_mem _ hx)
    obtain ⟨G, hG⟩ : ∃ G : Nat, g.getD e.toNat 0 = (G : Int) := ⟨_, (Int.toNat_of_nonneg e2).symm⟩
    have hGl : G < fr.length := by omega
    have hw : ∀ j, wsum (indic g j) (e :: l) = (if G = j then 1 else 0) + wsum (indic g j) l := fun j => by
      show (indic g j).getD e.toNat 0 + _ = _
      rw [indic_at e1, hG]
      by_cases c : G = j
      · subst c; simp
      · rw [if_neg (by omega), if_neg c]
    unfold rk
    rw [hG, Int.toNat_natCast]
    by_cases h0 : 0 < fr.getD G 0
    · rw [if_pos h0, rk_sum g l (fr.set G (fr.getD G 0 - 1)) (by simpa using hl) (fun j hj => by
        rw [getD_set]
        have := hf j (by simpa using hj)
        split <;> omega), List.length_set]
      have := fsum_one (h := fun j => min (wsum (indic g j) (e :: l)) (fr.getD j 0)) (h' := fun j => min (wsum (indic g j) l) ((fr.set G (fr.getD G 0 - 1)).getD j 0)) fr.length hGl (by
        show min (wsum (indic g G) (e :: l)) (fr.getD G 0) = min (wsum (indic g G) l) ((fr.set G (fr.getD G 0 - 1)).getD G 0) + 1
        rw [hw, if_pos rfl, getD_set, if_pos ⟨rfl, hGl⟩]
        omega) (fun j hj hne => by
        show min (wsum (indic g j) (e :: l)) (fr.getD j 0) = min (wsum (indic g j) l) ((fr.set G (fr.getD G 0 - 1)).getD j 0)
        rw [hw, if_neg (by omega), getD_set, if_neg (by omega)]
        omega)
      omega
    · rw [if_neg h0, rk_sum g l fr hl hf]
      refine fsum_congr _ fun j hj => ?_
      show min (wsum (indic g j) l) (fr.getD j 0) = min (wsum (indic g j) (e :: l)) (fr.getD j 0)
      have h1 := wsum_nonneg g j l
      have h2 := hf j hj
      rw [hw]
      by_cases c : G = j
      · subst c; rw [if_pos rfl]; omega
      · rw [if_neg c]; omega
theorem rank_els {g ms : List Int} (h : partOk g ms) {S : Nat} (hS : S < 2 ^ g.length) : rk g ms (els S) = rankV g ms S := by
  rw [rk_sum g (els S) ms (fun e he => by
    have h1 := elsF_mem 10 0 S g.length hS e he
    have h2 := h.2.2.1 e.toNat (by omega)
    exact ⟨by omega, by omega, h2.1, h2.2⟩) fun j hj => (h.2.2.2 j hj).1]
  refine fsum_congr _ fun j hj => ?_
  show min (wsum (indic g j) (els S)) (ms.getD j 0) = grpV g ms S j
  rw [weigh_els (indic g j) S g.length hS (by have := h.1; omega)]
  rfl
theorem rk_drop (g fr es : List Int) {k : Nat} (hk : k < es.length) : rk g fr (es.drop k) = if 0 < fr.getD (g.getD (es.getD k 0).toNat 0).toNat 0 then 1 + rk g (fr.set (g.getD (es.getD k 0).toNat 0).toNat (fr.getD (g.getD (es.getD k 0).toNat 0).toNat 0 - 1)) (es.drop (k + 1)) else rk g fr (es.drop (k + 1)) := by
  have e : es.getD k 0 = es[k] := by rw [List.getD_eq_getElem?_getD, List.getElem?_eq_getElem hk]; rfl
  rw [List.drop_eq_getElem_cons hk, e]
  rfl

end Go.Proofs.YtdodpcehmagdbaaDoor.M
