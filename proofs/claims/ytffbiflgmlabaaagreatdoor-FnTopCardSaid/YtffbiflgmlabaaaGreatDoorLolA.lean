/-
  'append(v, other...)' of lists of integers, for a row that the call owns.
  Lists of lists of integers: an outer row of slices, and a row for each of them, all apart.
  The contracts of the law's own helpers on lists of lists: comparison, marks.
  Lists of lists as results, in a law: joined to the law's memory, and moved about in it.
-/
import Derived.Test.YtffbiflgmlabaaaGreatDoorBase
namespace Go.Proofs.YtffbiflgmlabaaaGreatDoor.K
open Go.RowKit
set_option linter.unusedVariables false


section

variable {w0 w w' : World} {L : List Cel}
theorem run_appN {i n b off m c : Nat} {v : Value} {xs ys : List Int} {t ty : TypeId} {o : TypeInfo} (ht : Tryz.prog.underlying t = some (.slice 3)) (hio : Tryz.prog.info? 3 = some o) (hz : o.zero = some (.int .i64 0)) (hs : o.size = 1) (hy : o.bytes = 8)
    (h : St w0 w L) (hi : L[i]? = some (il v n xs)) (hl : ys.length = m) (hc : ∀ j, j < m → w.cell? ⟨b, off + j, none⟩ = some (.int .i64 (ys.getD j 0))) (hv : v ≠ .slice none 0 0) (hn : n ≤ 1048576) (hm : m ≤ 1048576) {N : Nat} (hN : n + m = N) :
    ∃ g' c' w', (Builtin.append_ #[t, t] ty #[v, .slice (some ⟨b, off, none⟩) m c]).run Tryz.prog w = .ok (.slice (some ⟨g', 0, none⟩) N c') w' ∧ St w0 w' (L.set i (il (.slice (some ⟨g', 0, none⟩) N c') N (xs ++ ys))) := by
  subst hN
  obtain ⟨v', w', hr, h2, h3, h4, h5⟩ := run_append_own_at (P := Tryz.prog) w w0.heap.size t ty 3 o (.int .i64 0) 1 8 ht hio hz hs hy rfl (by decide) v n (ints xs) (h.own hi) ⟨b, off, none⟩ m c (ints ys) (by rw [ints_length, hl, Nat.mul_one]) (fun j u hu => by
      have hj : j < ys.length := by
        have := (List.getElem?_eq_some_iff.1 hu).1
        rwa [ints_length] at this
      rw [ints_at ys hj] at hu
      cases hu
      rw [show (⟨b, off, none⟩ : Addr).add j = ⟨b, off + j, none⟩ by
        by_cases h0 : j = 0
        · subst h0; simp [Addr.add]
        · simp [Addr.add, h0]]
      exact hc j (by omega)) (ints_one ys) (by unfold maxLen; omega) (by omega) h.size
  obtain ⟨g', cap, hv'⟩ : ∃ g' cap, v' = .slice (some ⟨g', 0, none⟩) (n + m) cap := by
    rcases h2.2 with ⟨e, _⟩ | ⟨g', cap, _, e, _⟩
    · exact absurd (h4.1 e).1 hv
    · exact ⟨g', cap, e⟩
  subst hv'
  refine ⟨g', cap, w', hr, ?_⟩
  have := h.app hi h3 h2 h5
  rw [show ints xs ++ ints ys = ints (xs ++ ys) from (ints_append xs ys).symm] at this
  exact this

theorem wp_appN {o' : Oper} {a : Act} {K : Act → World → Prop} {Q : Exit → Act → World → Prop} (s x : Operand) (t : TypeId)
    (ho : o'.op = .call { callee := .builtin .append, args := #[s, x], argTypes := #[t, t] })
    {i n b off m c : Nat} {v : Value} {xs : List Int} (ys : List Int) {o : TypeInfo} (ht : Tryz.prog.underlying t = some (.slice 3)) (hio : Tryz.prog.info? 3 = some o) (hz : o.zero = some (.int .i64 0)) (hsz : o.size = 1) (hy : o.bytes = 8)
    (h : St w0 w L) (hi : L[i]? = some (il v n xs)) (hl : ys.length = m) (hs : a.eval s = v) (hx : a.eval x = .slice (some ⟨b, off, none⟩) m c) (hc : ∀ j, j < m → w.cell? ⟨b, off + j, none⟩ = some (.int .i64 (ys.getD j 0))) (hv : v ≠ .slice none 0 0) (hn : n ≤ 1048576) (hm : m ≤ 1048576) {N : Nat} (hN : n + m = N)
    (hK : ∀ g' c' w', St w0 w' (L.set i (il (.slice (some ⟨g', 0, none⟩) N c') N (xs ++ ys))) → K (a.put o'.dst (.slice (some ⟨g', 0, none⟩) N c')) w') : o'.wp Tryz.prog a w K Q := by
  obtain ⟨A', c', w', hr, h2⟩ := run_appN (ty := o'.type) (c := c) ht hio hz hsz hy h hi hl hc hv hn hm hN
  unfold Oper.wp execOp
  simp only [ho, resolve, invoke, builtin, Sem.run_bind, Sem.run_pure, Result.andThen_ok, List.map_toArray, List.map_cons, List.map_nil, hs, hx, hr]
  exact hK _ _ _ h2

theorem wpList_appN {ops : Array Oper} {rest : List Oper} {o' : Oper} {a : Act} {Q : Exit → Act → World → Prop} (hgd : o'.guard = none) (s x : Operand) (t : TypeId)
    (ho : o'.op = .call { callee := .builtin .append, args := #[s, x], argTypes := #[t, t] })
    {i n b off m c : Nat} {v : Value} {xs : List Int} (ys : List Int) {o : TypeInfo} (ht : Tryz.prog.underlying t = some (.slice 3)) (hio : Tryz.prog.info? 3 = some o) (hz : o.zero = some (.int .i64 0)) (hsz : o.size = 1) (hy : o.bytes = 8)
    (h : St w0 w L) (hi : L[i]? = some (il v n xs)) (hl : ys.length = m) (hs : a.eval s = v) (hx : a.eval x = .slice (some ⟨b, off, none⟩) m c) (hc : ∀ j, j < m → w.cell? ⟨b, off + j, none⟩ = some (.int .i64 (ys.getD j 0))) (hv : v ≠ .slice none 0 0) (hn : n ≤ 1048576) (hm : m ≤ 1048576) {N : Nat} (hN : n + m = N)
    (hK : ∀ g' c' w', St w0 w' (L.set i (il (.slice (some ⟨g', 0, none⟩) N c') N (xs ++ ys))) → wpList Tryz.prog ops Q rest (a.put o'.dst (.slice (some ⟨g', 0, none⟩) N c')) w') : wpList Tryz.prog ops Q (o' :: rest) a w :=
  wpList_plain hgd fun _ hk => wp_appN s x t ho ys ht hio hz hsz hy h hi hl hs hx hc hv hn hm hN fun A' c' w' h2 => hk _ _ (hK A' c' w' h2)

theorem step_appN {ops : Array Oper} {o' : Oper} {a : Act} {K : Act → World → Prop} {Q : Exit → Act → World → Prop} {E : Prop} (hgd : o'.guard = none) (s x : Operand) (t : TypeId)
    (ho : o'.op = .call { callee := .builtin .append, args := #[s, x], argTypes := #[t, t] })
    {i n b off m c : Nat} {v : Value} {xs : List Int} (ys : List Int) {o : TypeInfo} (ht : Tryz.prog.underlying t = some (.slice 3)) (hio : Tryz.prog.info? 3 = some o) (hz : o.zero = some (.int .i64 0)) (hsz : o.size = 1) (hy : o.bytes = 8)
    (h : St w0 w L) (hi : L[i]? = some (il v n xs)) (hl : ys.length = m) (hs : a.eval s = v) (hx : a.eval x = .slice (some ⟨b, off, none⟩) m c) (hc : ∀ j, j < m → w.cell? ⟨b, off + j, none⟩ = some (.int .i64 (ys.getD j 0))) (hv : v ≠ .slice none 0 0) (hn : n ≤ 1048576) (hm : m ≤ 1048576) {N : Nat} (hN : n + m = N)
    (hK : ∀ g' c' w', St w0 w' (L.set i (il (.slice (some ⟨g', 0, none⟩) N c') N (xs ++ ys))) → K (a.put o'.dst (.slice (some ⟨g', 0, none⟩) N c')) w') :
    if Region.wanted o' (yielded ops a.tmps) = true then Oper.wp Tryz.prog o' a w K Q else E := by
  have hw : Region.wanted o' (yielded ops a.tmps) = true := by simp [Region.wanted, hgd]
  rw [if_pos hw]
  exact wp_appN s x t ho ys ht hio hz hsz hy h hi hl hs hx hc hv hn hm hN hK

theorem St.capI {i g c n : Nat} {xs : List Int} (h : St w0 w L) (hi : L[i]? = some (il (.slice (some ⟨g, 0, none⟩) n c) n xs)) : n ≤ c := by
  rcases (h.own hi).2 with ⟨e, _⟩ | ⟨g', cap, _, e, _, _, hn, _⟩
  · cases e
  · injection e with _ _ e
    subst e
    exact hn
/-- A first part of a list of the call's own, and the rest. -/
theorem St.cellsTake {i g c n k : Nat} {xs : List Int} (h : St w0 w L) (hi : L[i]? = some (il (.slice (some ⟨g, 0, none⟩) n c) n xs)) (hk : k ≤ n) : ∀ j, j < k → w.cell? ⟨g, 0 + j, none⟩ = some (.int .i64 ((xs.take k).getD j 0)) := fun j hj => by
  rw [Nat.zero_add, getD_take hj]
  exact (h.cellI hi (by omega)).1
theorem St.cellsDrop {i g c n k : Nat} {xs : List Int} (h : St w0 w L) (hi : L[i]? = some (il (.slice (some ⟨g, 0, none⟩) n c) n xs)) (hk : k ≤ n) : ∀ j, j < n - k → w.cell? ⟨g, k + j, none⟩ = some (.int .i64 ((xs.drop k).getD j 0)) := fun j hj => by
  rw [show (xs.drop k).getD j 0 = xs.getD (k + j) 0 by simp [List.getD_eq_getElem?_getD, List.getElem?_drop]]
  exact (h.cellI hi (by omega)).1
/-- 'xs[k:]' of a list of the call's own: where it has no room behind, it lies at the list's first place. -/
theorem St.cellsRest {i g c n k o2 : Nat} {xs : List Int} (h : St w0 w L) (hi : L[i]? = some (il (.slice (some ⟨g, 0, none⟩) n c) n xs)) (hk : k ≤ n) (ho : c = k ∨ o2 = k) : ∀ j, j < n - k → w.cell? ⟨g, o2 + j, none⟩ = some (.int .i64 ((xs.drop k).getD j 0)) := fun j hj => by
  have hc := h.capI hi
  rcases ho with e | e
  · omega
  · subst e; exact h.cellsDrop hi hk j hj

end


end Go.Proofs.YtffbiflgmlabaaaGreatDoor.K

namespace Go.Proofs.YtffbiflgmlabaaaGreatDoor.K
open Go.RowKit
set_option linter.unusedVariables false

/-- A list: where it lies, its room, what it holds. -/
abbrev Ent := Option Addr × Nat × List Int
def sv (e : Ent) : Value := .slice e.1 e.2.2.length e.2.1
def ir (e : Ent) : Cel := il (sv e) e.2.2.length e.2.2
/-- The outer row. -/
def ol (V : Value) (es : List Ent) : Cel := ⟨24, 1, V, es.length, es.map sv⟩
/-- A list of lists. -/
def lol (V : Value) (es : List Ent) : List Cel := ol V es :: es.map ir

theorem info_ints : (Tryz.prog.info? 24).map (fun i => (i.zero, i.size, i.bytes)) = some (some (.slice none 0 0), 1, 24) := by kernel_rfl
theorem sv_one (es : List Ent) : ∀ u ∈ es.map sv, u.oneCell' = true := by
  intro u hu
  obtain ⟨e, _, rfl⟩ := List.mem_map.1 hu
  rfl


section

variable {w0 w w' : World} {L L' : List Cel}
theorem St.perm (h : St w0 w L) (p : L.Perm L') : St w0 w L' :=
  ⟨h.1, fun r hr => h.2.1 r (p.mem_iff.2 hr), (p.pairwise_iff fun {a b} hab k hk hk2 => hab k hk2 hk).1 h.2.2⟩
theorem St.sublist (h : St w0 w L) (s : L'.Sublist L) : St w0 w L' := ⟨h.1, fun r hr => h.2.1 r (s.subset hr), h.2.2.sublist s⟩
/-- Of two parts the second goes ahead. -/
theorem St.flip {L1 L2 : List Cel} (h : St w0 w (L1 ++ L2)) : St w0 w (L2 ++ L1) := h.perm List.perm_append_comm
theorem St.some_of {L1 : List Cel} (h : St w0 w (L1 ++ L')) : St w0 w L1 :=
  ⟨h.1, fun r hr => h.2.1 r (List.mem_append_left _ hr), (List.pairwise_append.1 h.2.2).1⟩
theorem St.rest_of {L1 : List Cel} (h : St w0 w (L1 ++ L')) : St w0 w L' :=
  ⟨h.1, fun r hr => h.2.1 r (List.mem_append_right _ hr), (List.pairwise_append.1 h.2.2).2.1⟩

/-- '[][]int{}': an empty list of lists. -/
theorem St.emptyL (h : St w0 w L) : St w0 (w.alloc (.cells #[] 24)) (lol (.slice (some ⟨w.heap.size, 0, none⟩) 0 0) [] ++ L) := by
  refine h.new ((Below.refl _ _).alloc (Nat.le_refl _) _) ?_
  exact World.ownsRow_lit w #[] 0 (Nat.le_refl _) (by unfold maxLen; omega) (by simp)
/-- '[][]int{p}': a list that holds one list. -/
theorem St.oneL {e : Ent} (h : St w0 w (ir e :: L)) : St w0 (w.alloc (.cells #[sv e] 24)) (lol (.slice (some ⟨w.heap.size, 0, none⟩) 1 1) [e] ++ L) := by
  refine h.new ((Below.refl _ _).alloc (Nat.le_refl _) _) ?_
  exact World.ownsRow_lit w #[sv e] 1 (Nat.le_refl _) (by unfold maxLen; omega) (by simp)
/-- What an outer row holds at k. -/
theorem St.cellL {i g c : Nat} {es : List Ent} (h : St w0 w L) (hi : L[i]? = some (ol (.slice (some ⟨g, 0, none⟩) es.length c) es)) {k : Nat} {e : Ent} (hk : es[k]? = some e) : w.cell? ⟨g, k, none⟩ = some (sv e) := by
  have hkl : k < es.length := (List.getElem?_eq_some_iff.1 hk).1
  rw [(h.own hi).cellAt k (by simpa [ol] using hkl)]
  simp [ol, hk]

theorem perm_lol (c1 c2 : Cel) (a b t : List Cel) : ((c1 :: a) ++ ((c2 :: b) ++ t)).Perm (c2 :: c1 :: ((b ++ a) ++ t)) := by
  refine (List.perm_middle (a := c2) (l₁ := c1 :: a) (l₂ := b ++ t)).trans ?_
  refine List.Perm.cons _ (List.Perm.cons _ ?_)
  rw [List.append_assoc]
  exact List.perm_append_comm_assoc a b t

theorem run_appL {i g c b off c2 : Nat} {es fs : List Ent} {t ty : TypeId} {o : TypeInfo} (ht : Tryz.prog.underlying t = some (.slice 24)) (hio : Tryz.prog.info? 24 = some o) (hz : o.zero = some (.slice none 0 0)) (hs : o.size = 1) (hy : o.bytes = 24)
    (h : St w0 w L) (hi : L[i]? = some (ol (.slice (some ⟨g, 0, none⟩) es.length c) es)) (hc : ∀ j e, fs[j]? = some e → w.cell? ⟨b, off + j, none⟩ = some (sv e)) (hn : es.length ≤ 1048576) (hm : fs.length ≤ 1048576) :
    ∃ g' c' w', (Builtin.append_ #[t, t] ty #[.slice (some ⟨g, 0, none⟩) es.length c, .slice (some ⟨b, off, none⟩) fs.length c2]).run Tryz.prog w = .ok (.slice (some ⟨g', 0, none⟩) (es ++ fs).length c') w' ∧ St w0 w' (L.set i (ol (.slice (some ⟨g', 0, none⟩) (es ++ fs).length c') (es ++ fs))) := by
  obtain ⟨v', w', hr, h2, h3, h4, h5⟩ := run_append_own_at (P := Tryz.prog) w w0.heap.size t ty 24 o (.slice none 0 0) 1 24 ht hio hz hs hy rfl (by decide) _ es.length (es.map sv) (h.own hi) ⟨b, off, none⟩ fs.length c2 (fs.map sv) (by simp) (fun j u hu => by
      rw [List.getElem?_map] at hu
      obtain ⟨e, he, rfl⟩ := Option.map_eq_some_iff.1 hu
      rw [show (⟨b, off, none⟩ : Addr).add j = ⟨b, off + j, none⟩ by
        by_cases h0 : j = 0
        · subst h0; rfl
        · simp [Addr.add, h0]]
      exact hc j e he) (sv_one fs) (by unfold maxLen; omega) (by omega) h.size
  rw [← List.length_append] at h2
  obtain ⟨g', cap, hv'⟩ : ∃ g' cap, v' = .slice (some ⟨g', 0, none⟩) (es ++ fs).length cap := by
    rcases h2.2 with ⟨e, _⟩ | ⟨g', cap, _, e, _⟩
    · exact absurd (h4.1 e).1 (fun e2 => by cases e2)
    · exact ⟨g', cap, e⟩
  subst hv'
  refine ⟨g', cap, w', hr, ?_⟩
  have := h.app hi h3 h2 h5
  rw [show es.map sv ++ fs.map sv = (es ++ fs).map sv from List.map_append.symm] at this
  exact this

theorem wp_appL {o' : Oper} {a : Act} {K : Act → World → Prop} {Q : Exit → Act → World → Prop} (s x : Operand) (t : TypeId)
    (ho : o'.op = .call { callee := .builtin .append, args := #[s, x], argTypes := #[t, t] })
    {i g c b off c2 n m : Nat} {es : List Ent} (fs : List Ent) {o : TypeInfo} (ht : Tryz.prog.underlying t = some (.slice 24)) (hio : Tryz.prog.info? 24 = some o) (hz : o.zero = some (.slice none 0 0)) (hsz : o.size = 1) (hy : o.bytes = 24)
    (h : St w0 w L) (hi : L[i]? = some (ol (.slice (some ⟨g, 0, none⟩) es.length c) es)) (hs : a.eval s = .slice (some ⟨g, 0, none⟩) n c) (hx : a.eval x = .slice (some ⟨b, off, none⟩) m c2) (hne : es.length = n) (hmf : fs.length = m) (hc : ∀ j e, fs[j]? = some e → w.cell? ⟨b, off + j, none⟩ = some (sv e)) (hn : n ≤ 1048576) (hm : m ≤ 1048576)
    (hK : ∀ g' c' w', St w0 w' (L.set i (ol (.slice (some ⟨g', 0, none⟩) (es ++ fs).length c') (es ++ fs))) → K (a.put o'.dst (.slice (some ⟨g', 0, none⟩) (es ++ fs).length c')) w') : o'.wp Tryz.prog a w K Q := by
  subst hne hmf
  obtain ⟨g', c', w', hr, h2⟩ := run_appL (ty := o'.type) (c2 := c2) ht hio hz hsz hy h hi hc hn hm
  unfold Oper.wp execOp
  simp only [ho, resolve, invoke, builtin, Sem.run_bind, Sem.run_pure, Result.andThen_ok, List.map_toArray, List.map_cons, List.map_nil, hs, hx, hr]
  exact hK _ _ _ h2

theorem wpList_appL {ops : Array Oper} {rest : List Oper} {o' : Oper} {a : Act} {Q : Exit → Act → World → Prop} (hgd : o'.guard = none) (s x : Operand) (t : TypeId)
    (ho : o'.op = .call { callee := .builtin .append, args := #[s, x], argTypes := #[t, t] })
    {i g c b off c2 n m : Nat} {es : List Ent} (fs : List Ent) {o : TypeInfo} (ht : Tryz.prog.underlying t = some (.slice 24)) (hio : Tryz.prog.info? 24 = some o) (hz : o.zero = some (.slice none 0 0)) (hsz : o.size = 1) (hy : o.bytes = 24)
    (h : St w0 w L) (hi : L[i]? = some (ol (.slice (some ⟨g, 0, none⟩) es.length c) es)) (hs : a.eval s = .slice (some ⟨g, 0, none⟩) n c) (hx : a.eval x = .slice (some ⟨b, off, none⟩) m c2) (hne : es.length = n) (hmf : fs.length = m) (hc : ∀ j e, fs[j]? = some e → w.cell? ⟨b, off + j, none⟩ = some (sv e)) (hn : n ≤ 1048576) (hm : m ≤ 1048576)
    (hK : ∀ g' c' w', St w0 w' (L.set i (ol (.slice (some ⟨g', 0, none⟩) (es ++ fs).length c') (es ++ fs))) → wpList Tryz.prog ops Q rest (a.put o'.dst (.slice (some ⟨g', 0, none⟩) (es ++ fs).length c')) w') : wpList Tryz.prog ops Q (o' :: rest) a w :=
  wpList_plain hgd fun _ hk => wp_appL s x t ho fs ht hio hz hsz hy h hi hs hx hne hmf hc hn hm fun g' c' w' h2 => hk _ _ (hK g' c' w' h2)

end


end Go.Proofs.YtffbiflgmlabaaaGreatDoor.K

namespace Go.Proofs.YtffbiflgmlabaaaGreatDoor.K
open Go.RowKit
set_option linter.unusedVariables false

/-- Where an outer row that is not empty lies. -/
theorem St.ol_at {w0 w : World} {L : List Cel} {G : Option Addr} {c i k : Nat} {es : List Ent} (h : St w0 w L) (hi : L[i]? = some (ol (.slice G es.length c) es)) (hk : k < es.length) : ∃ g, G = some ⟨g, 0, none⟩ := by
  rcases (h.own hi).2 with ⟨_, h0⟩ | ⟨g, cap, cur, hv, -⟩
  · exact absurd (show es.length = 0 from h0) (by omega)
  · have hv' : Value.slice G es.length c = .slice (some ⟨g, 0, none⟩) es.length cap := hv
    injection hv' with h1
    exact ⟨g, h1⟩
/-- A list of lists, to be read: the cells at G are slices, each reads as its list. -/
structure LLs (w : World) (G : Option Addr) (es : List Ent) : Prop where
  at_ : ∀ j e, es[j]? = some e → ∃ g, G = some ⟨g, 0, none⟩ ∧ w.cell? ⟨g, j, none⟩ = some (sv e) ∧ g < w.heap.size ∧ Ints w w.heap.size e.1 e.2.2
theorem LLs.below {w w' : World} {G : Option Addr} {es : List Ent} (h : LLs w G es) (hb : Below w.heap.size w w') : LLs w' G es :=
  ⟨fun j e he => by
    obtain ⟨g, h0, h1, h2, h3⟩ := h.at_ j e he
    exact ⟨g, h0, (hb.cell (p := ⟨g, j, none⟩) h2).trans h1, Nat.lt_of_lt_of_le h2 hb.size, (h3.below hb).mono hb.size⟩⟩
theorem St.lls {w0 w : World} {L : List Cel} {G : Option Addr} {c i : Nat} {es : List Ent} (h : St w0 w L) (hi : L[i]? = some (ol (.slice G es.length c) es)) (hm : ∀ e ∈ es, ir e ∈ L) : LLs w G es :=
  ⟨fun j e he => by
    obtain ⟨g, rfl⟩ := h.ol_at hi (List.getElem?_eq_some_iff.1 he).1
    exact ⟨g, rfl, h.cellL hi he, ((h.own hi).lt g rfl).2, (OwnN.own (h.2.1 _ (hm e (List.mem_of_getElem? he)))).read⟩⟩
/-- The first numbers' sum of lengths. -/
def offL (es : List Ent) : Nat → Nat
  | 0 => 0
  | j + 1 => offL es j + (es.getD j (none, 0, [])).2.2.length
/-- The first i lists marked. -/
def markE (k : Int) (es : List Ent) (i : Nat) : List Ent := es.mapIdx fun j e => if j < i then (e.1, e.2.1, iota (k + offL es j) e.2.2.length) else e
theorem markE_zero (k : Int) (es : List Ent) : markE k es 0 = es := by
  unfold markE
  apply List.ext_getElem?
  intro j
  simp
theorem markE_len (k : Int) (es : List Ent) (i : Nat) : (markE k es i).length = es.length := by simp [markE]
theorem markE_at (k : Int) (es : List Ent) (i j : Nat) : (markE k es i)[j]? = (es[j]?).map fun e => if j < i then (e.1, e.2.1, iota (k + offL es j) e.2.2.length) else e := by
  unfold markE
  rw [List.getElem?_mapIdx]
theorem markE_sv (k : Int) (es : List Ent) (i : Nat) : (markE k es i).map sv = es.map sv := by
  apply List.ext_getElem?
  intro j
  rw [List.getElem?_map, List.getElem?_map, markE_at]
  cases es[j]? with
  | none => rfl
  | some e =>
    simp only [Option.map_some]
    by_cases h : j < i
    · rw [if_pos h]; unfold sv; rw [iota_length]
    · rw [if_neg h]
theorem markE_succ (k : Int) (es : List Ent) {i : Nat} {e : Ent} (he : es[i]? = some e) : (markE k es (i + 1)).map ir = ((markE k es i).map ir).set i (il (sv e) e.2.2.length (iota (k + offL es i) e.2.2.length)) := by
  have hil : i < es.length := (List.getElem?_eq_some_iff.1 he).1
  apply List.ext_getElem?
  intro j
  rw [List.getElem?_map, List.getElem?_set, List.length_map, markE_len, markE_at, List.getElem?_map, markE_at]
  by_cases hij : i = j
  · subst hij
    rw [if_pos rfl, if_pos hil, he]
    simp only [Option.map_some]
    rw [if_pos (Nat.lt_succ_self i)]
    unfold ir sv
    rw [iota_length]
  · rw [if_neg hij]
    cases es[j]? with
    | none => rfl
    | some e' =>
      simp only [Option.map_some]
      by_cases h : j < i
      · rw [if_pos h, if_pos (by omega)]
      · rw [if_neg h, if_neg (by omega)]

end Go.Proofs.YtffbiflgmlabaaaGreatDoor.K
namespace Go.Proofs.YtffbiflgmlabaaaGreatDoor.C
open Go.RowKit K
set_option linter.unusedVariables false
set_option linter.unusedSimpArgs false

theorem quiet_val {P : Program} {f : FuncId} {args : Array Value} {w : World} {n : Nat} {v : Value} (h : Calls P f args (w.drewN n) fun e w' => e = .returned v ∧ ∃ q, (w.drewN n).drewN q = w') :
    Calls P f args (w.drewN n) fun e w'' => e = .returned v ∧ ∃ m, w'' = w.drewN m :=
  h.mono fun _ _ ⟨he, q, hq⟩ => ⟨he, n + q, by rw [← hq]; simp [World.drewN, Nat.add_assoc]⟩

end Go.Proofs.YtffbiflgmlabaaaGreatDoor.C

namespace Go.Proofs.YtffbiflgmlabaaaGreatDoor.K
open Go.RowKit
set_option linter.unusedVariables false

/-- A new list of lists, a nil one too, and a bool. -/
def RetLLO (w : World) (xss : List (List Int)) (b : Bool) (e : Ending) (w' : World) : Prop := ∃ (G : Option Addr) (c : Nat) (es : List Ent), e = .returned (.tuple #[.slice G es.length c, .bool b]) ∧ es.map (fun e => e.2.2) = xss ∧ St w w' (lol (.slice G es.length c) es)


section

variable {w0 w w' : World} {L L' : List Cel}
theorem St.nilL (h : St w0 w L) : St w0 w (lol (.slice none 0 0) [] ++ L) := by
  refine ⟨h.1, fun r hr => ?_, .cons (fun r hr k hk => by simp [ol, Value.ownBlock] at hk) h.2.2⟩
  rcases List.mem_cons.1 hr with rfl | hr
  · exact World.ownsRow_nil w _ _ _
  · exact h.2.1 r hr
/-- What a callee leaves is apart from what was there. -/
theorem St.join (h : St w0 w L) (h' : St w w' L') : St w0 w' (L' ++ L) := by
  have h1 := h.below h'.1
  refine ⟨h1.1, fun r hr => ?_, List.pairwise_append.2 ⟨h'.2.2, h1.2.2, fun r hr s hs k hk hk2 => ?_⟩⟩
  · rcases List.mem_append.1 hr with hr | hr
    · exact own_mono (h'.2.1 r hr) h.1.size
    · exact h1.2.1 r hr
  · have a := ((h'.2.1 r hr).lt k hk).1
    have b := ((h.2.1 s hs).lt k hk2).2
    omega
/-- The list's own parts go behind the first k rows. -/
theorem St.back (k : Nat) {a : Cel} {E R : List Cel} (h : St w0 w (a :: (E ++ R))) : St w0 w (a :: (R.take k ++ (E ++ R.drop k))) := by
  refine h.perm (List.Perm.cons _ ?_)
  have e : R = R.take k ++ R.drop k := (List.take_append_drop k R).symm
  have p := List.perm_append_comm_assoc E (R.take k) (R.drop k)
  rw [← e] at p
  exact p
theorem St.joinV (k : Nat) {V : Value} {es : List Ent} (h : St w0 w L) (h' : St w w' (lol V es)) : St w0 w' (ol V es :: (L.take k ++ (es.map ir ++ L.drop k))) := St.back k (E := es.map ir) (h.join h')
/-- .. and come ahead again. -/
theorem St.fore (k : Nat) {a : Cel} {E T R : List Cel} (h : St w0 w (a :: R)) (hd : R.drop k = E ++ T) : St w0 w (a :: (E ++ (R.take k ++ T))) := by
  refine h.perm (List.Perm.cons _ ?_)
  have e : R = R.take k ++ (E ++ T) := by rw [← hd]; exact (List.take_append_drop k R).symm
  have p := List.perm_append_comm_assoc (R.take k) E T
  rw [← e] at p
  exact p
/-- One row goes ahead of all. -/
theorem St.pull (i : Nat) {a : Cel} (h : St w0 w L) (hi : L[i]? = some a) : St w0 w (a :: L.eraseIdx i) := by
  refine h.perm ?_
  obtain ⟨hl, rfl⟩ := List.getElem?_eq_some_iff.1 hi
  have e : L.take i ++ L[i] :: L.drop (i + 1) = L := by rw [← List.drop_eq_getElem_cons hl]; exact List.take_append_drop i L
  rw [List.eraseIdx_eq_take_drop_succ]
  exact (List.Perm.of_eq e.symm).trans List.perm_middle
theorem offL_le {es : List Ent} (hs : ∀ e ∈ es, e.2.2.length ≤ 1048576) (hl : es.length ≤ 1048576) : ∀ j, j ≤ es.length → offL es j ≤ 1099511627776 := by
  have key : ∀ j, j ≤ es.length → offL es j ≤ 1048576 * j := by
    intro j
    induction j with
    | zero => exact fun _ => Nat.le_refl _
    | succ j ih =>
      intro hj
      have h1 := ih (by omega)
      have h2 := hs es[j] (List.getElem_mem (by omega))
      have e : es.getD j (none, 0, []) = es[j] := by rw [List.getD_eq_getElem?_getD, List.getElem?_eq_getElem (by omega)]; rfl
      unfold offL
      rw [e]
      omega
  intro j hj
  have := key j hj
  omega
theorem lens_of {es : List Ent} {xss : List (List Int)} (h : es.map (fun e => e.2.2) = xss) (hx : ∀ y ∈ xss, y.length ≤ 1048576) : ∀ e ∈ es, e.2.2.length ≤ 1048576 := fun e he => hx _ (by rw [← h]; exact List.mem_map_of_mem he)
theorem len_of {es : List Ent} {xss : List (List Int)} (h : es.map (fun e => e.2.2) = xss) (hl : xss.length ≤ 1048576) : es.length ≤ 1048576 := by
  have := congrArg List.length h
  rw [List.length_map] at this
  omega

end


end Go.Proofs.YtffbiflgmlabaaaGreatDoor.K
