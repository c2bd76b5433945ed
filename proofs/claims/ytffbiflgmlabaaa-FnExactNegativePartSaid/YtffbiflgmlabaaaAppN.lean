/-
  'append(v, other...)' of lists of integers, for a row that the call owns.
-/
import Derived.Test.YtffbiflgmlabaaaSt
namespace Go.Proofs.Ytffbiflgmlabaaa.K
open Go.RowKit
set_option linter.unusedVariables false


section

variable {w0 w w' : World} {L : List Cel}
theorem run_appN {i n b off m c : Nat} {v : Value} {xs ys : List Int} {t ty : TypeId} {o : TypeInfo} (ht : Try.prog.underlying t = some (.slice 3)) (hio : Try.prog.info? 3 = some o) (hz : o.zero = some (.int .i64 0)) (hs : o.size = 1) (hy : o.bytes = 8)
    (h : St w0 w L) (hi : L[i]? = some (il v n xs)) (hl : ys.length = m) (hc : ∀ j, j < m → w.cell? ⟨b, off + j, none⟩ = some (.int .i64 (ys.getD j 0))) (hv : v ≠ .slice none 0 0) (hn : n ≤ 1048576) (hm : m ≤ 1048576) {N : Nat} (hN : n + m = N) :
    ∃ g' c' w', (Builtin.append_ #[t, t] ty #[v, .slice (some ⟨b, off, none⟩) m c]).run Try.prog w = .ok (.slice (some ⟨g', 0, none⟩) N c') w' ∧ St w0 w' (L.set i (il (.slice (some ⟨g', 0, none⟩) N c') N (xs ++ ys))) := by
  subst hN
  obtain ⟨v', w', hr, h2, h3, h4, h5⟩ := run_append_own_at (P := Try.prog) w w0.heap.size t ty 3 o (.int .i64 0) 1 8 ht hio hz hs hy rfl (by decide) v n (ints xs) (h.own hi) ⟨b, off, none⟩ m c (ints ys) (by rw [ints_length, hl, Nat.mul_one]) (fun j u hu => by
      have hj : j < ys.length := by
        have := (List.getElem?_eq_some_iff.1 hu).1
        rwa [ints_length] at this
      rw [ints_at ys hj] at hu
      cases hu
      rw [show (⟨b, off, none⟩ : Addr).add j = ⟨b, off + j, none⟩ by
        by_cases h0 : j = 0
        · subst h0; simp [Addr.add]
        · simp [Addr.add, h0]]
      exact hc j (by omega)) (ints_one ys) (by unfold maxLen; omega) (by omega) h.size
  obtain ⟨g', cap, hv'⟩ : ∃ g' cap, v' = .slice (some ⟨g', 0, none⟩) (n + m) cap := by
    rcases h2.2 with ⟨e, _⟩ | ⟨g', cap, _, e, _⟩
    · exact absurd (h4.1 e).1 hv
    · exact ⟨g', cap, e⟩
  subst hv'
  refine ⟨g', cap, w', hr, ?_⟩
  have := h.app hi h3 h2 h5
  rw [show ints xs ++ ints ys = ints (xs ++ ys) from (ints_append xs ys).symm] at this
  exact this

theorem wp_appN {o' : Oper} {a : Act} {K : Act → World → Prop} {Q : Exit → Act → World → Prop} (s x : Operand) (t : TypeId)
    (ho : o'.op = .call { callee := .builtin .append, args := #[s, x], argTypes := #[t, t] })
    {i n b off m c : Nat} {v : Value} {xs : List Int} (ys : List Int) {o : TypeInfo} (ht : Try.prog.underlying t = some (.slice 3)) (hio : Try.prog.info? 3 = some o) (hz : o.zero = some (.int .i64 0)) (hsz : o.size = 1) (hy : o.bytes = 8)
    (h : St w0 w L) (hi : L[i]? = some (il v n xs)) (hl : ys.length = m) (hs : a.eval s = v) (hx : a.eval x = .slice (some ⟨b, off, none⟩) m c) (hc : ∀ j, j < m → w.cell? ⟨b, off + j, none⟩ = some (.int .i64 (ys.getD j 0))) (hv : v ≠ .slice none 0 0) (hn : n ≤ 1048576) (hm : m ≤ 1048576) {N : Nat} (hN : n + m = N)
    (hK : ∀ g' c' w', St w0 w' (L.set i (il (.slice (some ⟨g', 0, none⟩) N c') N (xs ++ ys))) → K (a.put o'.dst (.slice (some ⟨g', 0, none⟩) N c')) w') : o'.wp Try.prog a w K Q := by
  obtain ⟨A', c', w', hr, h2⟩ := run_appN (ty := o'.type) (c := c) ht hio hz hsz hy h hi hl hc hv hn hm hN
  unfold Oper.wp execOp
  simp only [ho, resolve, invoke, builtin, Sem.run_bind, Sem.run_pure, Result.andThen_ok, List.map_toArray, List.map_cons, List.map_nil, hs, hx, hr]
  exact hK _ _ _ h2

theorem wpList_appN {ops : Array Oper} {rest : List Oper} {o' : Oper} {a : Act} {Q : Exit → Act → World → Prop} (hgd : o'.guard = none) (s x : Operand) (t : TypeId)
    (ho : o'.op = .call { callee := .builtin .append, args := #[s, x], argTypes := #[t, t] })
    {i n b off m c : Nat} {v : Value} {xs : List Int} (ys : List Int) {o : TypeInfo} (ht : Try.prog.underlying t = some (.slice 3)) (hio : Try.prog.info? 3 = some o) (hz : o.zero = some (.int .i64 0)) (hsz : o.size = 1) (hy : o.bytes = 8)
    (h : St w0 w L) (hi : L[i]? = some (il v n xs)) (hl : ys.length = m) (hs : a.eval s = v) (hx : a.eval x = .slice (some ⟨b, off, none⟩) m c) (hc : ∀ j, j < m → w.cell? ⟨b, off + j, none⟩ = some (.int .i64 (ys.getD j 0))) (hv : v ≠ .slice none 0 0) (hn : n ≤ 1048576) (hm : m ≤ 1048576) {N : Nat} (hN : n + m = N)
    (hK : ∀ g' c' w', St w0 w' (L.set i (il (.slice (some ⟨g', 0, none⟩) N c') N (xs ++ ys))) → wpList Try.prog ops Q rest (a.put o'.dst (.slice (some ⟨g', 0, none⟩) N c')) w') : wpList Try.prog ops Q (o' :: rest) a w :=
  wpList_plain hgd fun _ hk => wp_appN s x t ho ys ht hio hz hsz hy h hi hl hs hx hc hv hn hm hN fun A' c' w' h2 => hk _ _ (hK A' c' w' h2)

theorem step_appN {ops : Array Oper} {o' : Oper} {a : Act} {K : Act → World → Prop} {Q : Exit → Act → World → Prop} {E : Prop} (hgd : o'.guard = none) (s x : Operand) (t : TypeId)
    (ho : o'.op = .call { callee := .builtin .append, args := #[s, x], argTypes := #[t, t] })
    {i n b off m c : Nat} {v : Value} {xs : List Int} (ys : List Int) {o : TypeInfo} (ht : Try.prog.underlying t = some (.slice 3)) (hio : Try.prog.info? 3 = some o) (hz : o.zero = some (.int .i64 0)) (hsz : o.size = 1) (hy : o.bytes = 8)
    (h : St w0 w L) (hi : L[i]? = some (il v n xs)) (hl : ys.length = m) (hs : a.eval s = v) (hx : a.eval x = .slice (some ⟨b, off, none⟩) m c) (hc : ∀ j, j < m → w.cell? ⟨b, off + j, none⟩ = some (.int .i64 (ys.getD j 0))) (hv : v ≠ .slice none 0 0) (hn : n ≤ 1048576) (hm : m ≤ 1048576) {N : Nat} (hN : n + m = N)
    (hK : ∀ g' c' w', St w0 w' (L.set i (il (.slice (some ⟨g', 0, none⟩) N c') N (xs ++ ys))) → K (a.put o'.dst (.slice (some ⟨g', 0, none⟩) N c')) w') :
    if Region.wanted o' (yielded ops a.tmps) = true then Oper.wp Try.prog o' a w K Q else E := by
  have hw : Region.wanted o' (yielded ops a.tmps) = true := by simp [Region.wanted, hgd]
  rw [if_pos hw]
  exact wp_appN s x t ho ys ht hio hz hsz hy h hi hl hs hx hc hv hn hm hN hK

theorem St.capI {i g c n : Nat} {xs : List Int} (h : St w0 w L) (hi : L[i]? = some (il (.slice (some ⟨g, 0, none⟩) n c) n xs)) : n ≤ c := by
  rcases (h.own hi).2 with ⟨e, _⟩ | ⟨g', cap, _, e, _, _, hn, _⟩
  · cases e
  · injection e with _ _ e
    subst e
    exact hn
/-- A first part of a list of the call's own, and the rest. -/
theorem St.cellsTake {i g c n k : Nat} {xs : List Int} (h : St w0 w L) (hi : L[i]? = some (il (.slice (some ⟨g, 0, none⟩) n c) n xs)) (hk : k ≤ n) : ∀ j, j < k → w.cell? ⟨g, 0 + j, none⟩ = some (.int .i64 ((xs.take k).getD j 0)) := fun j hj => by
  rw [Nat.zero_add, getD_take hj]
  exact (h.cellI hi (by omega)).1
theorem St.cellsDrop {i g c n k : Nat} {xs : List Int} (h : St w0 w L) (hi : L[i]? = some (il (.slice (some ⟨g, 0, none⟩) n c) n xs)) (hk : k ≤ n) : ∀ j, j < n - k → w.cell? ⟨g, k + j, none⟩ = some (.int .i64 ((xs.drop k).getD j 0)) := fun j hj => by
  rw [show (xs.drop k).getD j 0 = xs.getD (k + j) 0 by simp [List.getD_eq_getElem?_getD, List.getElem?_drop]]
  exact (h.cellI hi (by omega)).1
/-- 'xs[k:]' of a list of the call's own: where it has no room behind, it lies at the list's first place. -/
theorem St.cellsRest {i g c n k o2 : Nat} {xs : List Int} (h : St w0 w L) (hi : L[i]? = some (il (.slice (some ⟨g, 0, none⟩) n c) n xs)) (hk : k ≤ n) (ho : c = k ∨ o2 = k) : ∀ j, j < n - k → w.cell? ⟨g, o2 + j, none⟩ = some (.int .i64 ((xs.drop k).getD j 0)) := fun j hj => by
  have hc := h.capI hi
  rcases ho with e | e
  · omega
  · subst e; exact h.cellsDrop hi hk j hj

end


end Go.Proofs.Ytffbiflgmlabaaa.K
