/-
  What the memory of a call holds from step to step: a list of blocks that the call owns, pairwise apart, each known whole.
-/
import Derived.Test.YtffbiflgmlabaaaInts
import Derived.Maps.AppendAt
import Derived.RegionTactic
namespace Go.Proofs.Ytffbiflgmlabaaa.K
open Go.RowKit
set_option linter.unusedVariables false

/-- A row of the call's own: n elements of type t, size cells each, at v; it holds cs. -/
structure Cel where
  t : TypeId
  size : Nat
  v : Value
  n : Nat
  cs : List Value

/-- A list of integers. -/
def il (v : Value) (n : Nat) (xs : List Int) : Cel := ⟨3, 1, v, n, ints xs⟩
/-- A variable: one element. -/
def bx (g : Nat) (t : TypeId) (cs : List Value) : Cel := ⟨t, cs.length, .slice (some ⟨g, 0, none⟩) 1 1, 1, cs⟩

def St (w0 w : World) (L : List Cel) : Prop :=
  Below w0.heap.size w0 w ∧ (∀ r ∈ L, w.ownsRow w0.heap.size r.t r.size r.v r.n r.cs) ∧ L.Pairwise (fun p q => ∀ k, p.v.ownBlock = some k → q.v.ownBlock ≠ some k)


section

variable {w0 w w' : World} {L : List Cel}
theorem St.start (w : World) : St w w [] := ⟨Below.refl _ _, fun r hr => by simp at hr, .nil⟩
theorem St.drewN (h : St w0 w L) (n : Nat) : St w0 (w.drewN n) L := ⟨below_drewN h.1 n, h.2.1, h.2.2⟩
theorem St.drew (h : St w0 w L) : St w0 w.drew L := ⟨h.1.drew, h.2.1, h.2.2⟩
theorem St.base (h : St w0 w L) : Below w0.heap.size w0 w := h.1
theorem St.size (h : St w0 w L) : w0.heap.size ≤ w.heap.size := h.1.size
theorem St.below (h : St w0 w L) (hb : Below w.heap.size w w') : St w0 w' L :=
  ⟨h.1.trans (hb.mono h.1.size), fun r hr => (h.2.1 r hr).kept (row := none) ⟨hb.os, hb.tape, hb.output, hb.size, fun k hk _ => hb.block k hk⟩ (by
    cases hv : r.v.ownBlock with
    | none => exact .inl rfl
    | some k => exact .inr (by simp)), h.2.2⟩
theorem own_mono {t : TypeId} {s n lo lo' : Nat} {v : Value} {cs : List Value} (h : w.ownsRow lo t s v n cs) (hl : lo' ≤ lo) : w.ownsRow lo' t s v n cs := by
  refine ⟨h.1, ?_⟩
  rcases h.2 with h2 | ⟨g, cap, cur, hv, hg, r⟩
  · exact .inl h2
  · exact .inr ⟨g, cap, cur, hv, by omega, r⟩
theorem St.new {t : TypeId} {s n : Nat} {v : Value} {cs : List Value} (h : St w0 w L) (hb : Below w.heap.size w w') (ho : w'.ownsRow w.heap.size t s v n cs) : St w0 w' (⟨t, s, v, n, cs⟩ :: L) := by
  have h1 := h.below hb
  refine ⟨h1.1, fun r hr => ?_, .cons (fun r hr k hk hk2 => ?_) h1.2.2⟩
  · rcases List.mem_cons.1 hr with rfl | hr
    · exact own_mono ho h.1.size
    · exact h1.2.1 r hr
  · have a := (ho.lt k hk).1
    have b := ((h.2.1 r hr).lt k hk2).2
    omega
theorem St.newI {v : Value} {xs : List Int} (h : St w0 w L) (hb : Below w.heap.size w w') (ho : Own w' w.heap.size v xs) : St w0 w' (il v xs.length xs :: L) := h.new hb ho
theorem St.alloc (h : St w0 w L) (l : List Value) (t : TypeId) : St w0 (w.alloc (.cells ⟨l⟩ t)) (bx w.heap.size t l :: L) := by
  refine h.new ((Below.refl _ _).alloc (Nat.le_refl _) _) ?_
  exact World.ownsRow_lit w ⟨l⟩ 1 (Nat.le_refl _) (by unfold maxLen; omega) (by simp)
theorem St.mark {i : Nat} {r : Cel} {cs : List Value} (h : St w0 w L) (hi : L[i]? = some r) (hg : w.grownBy w' r.v.ownBlock) (ho : w'.ownsRow w0.heap.size r.t r.size r.v r.n cs) : St w0 w' (L.set i { r with cs := cs }) := by
  have hil : i < L.length := (List.getElem?_eq_some_iff.1 hi).1
  have hie : L[i] = r := (List.getElem?_eq_some_iff.1 hi).2
  have hpw := h.2.2
  rw [List.pairwise_iff_getElem] at hpw
  refine ⟨h.1.grown hg h.1.size fun k hk => ((h.2.1 r (List.mem_of_getElem? hi)).lt k hk).1, fun q hq => ?_, ?_⟩
  · obtain ⟨j, hj, hjq⟩ := List.mem_iff_getElem.1 hq
    rw [List.length_set] at hj
    by_cases hij : i = j
    · subst hij
      rw [List.getElem_set_self] at hjq
      subst hjq
      exact ho
    · rw [List.getElem_set_ne hij] at hjq
      subst hjq
      refine (h.2.1 _ (List.getElem_mem hj)).kept hg ?_
      cases hv : L[j].v.ownBlock with
      | none => exact .inl rfl
      | some k =>
        refine .inr fun e => ?_
        rcases Nat.lt_or_gt_of_ne hij with hlt | hlt
        · exact hpw i j hil hj hlt k (by rw [hie]; exact e.symm) hv
        · exact hpw j i hj hil hlt k hv (by rw [hie]; exact e.symm)
  · rw [List.pairwise_iff_getElem]
    intro a b ha hb hab
    rw [List.length_set] at ha hb
    have key : ∀ c (hc : c < L.length) (hc' : c < (L.set i { r with cs := cs }).length), (L.set i { r with cs := cs })[c].v = L[c].v := by
      intro c hc hc'
      by_cases hic : i = c
      · subst hic
        rw [List.getElem_set_self, hie]
      · rw [List.getElem_set_ne hic]
    rw [key a ha _, key b hb _]
    exact hpw a b ha hb hab
theorem St.own {i : Nat} {r : Cel} (h : St w0 w L) (hi : L[i]? = some r) : w.ownsRow w0.heap.size r.t r.size r.v r.n r.cs := h.2.1 r (List.mem_of_getElem? hi)
theorem St.ownI {i n : Nat} {v : Value} {xs : List Int} (h : St w0 w L) (hi : L[i]? = some (il v n xs)) : Own w w0.heap.size v xs := OwnN.own (h.own hi)
theorem St.ints {i : Nat} {A : Option Addr} {c n m : Nat} {xs : List Int} (h : St w0 w L) (hi : L[i]? = some (il (.slice A n c) m xs)) : Ints w w.heap.size A xs := (h.ownI hi).read
theorem St.markI {i n : Nat} {v : Value} {xs ys : List Int} (h : St w0 w L) (hi : L[i]? = some (il v n xs)) (hg : w.grownBy w' v.ownBlock) (ho : OwnN w' w0.heap.size v n ys) : St w0 w' (L.set i (il v n ys)) := h.mark hi hg ho
theorem St.box {i g : Nat} {t : TypeId} {cs : List Value} (h : St w0 w L) (hi : L[i]? = some (bx g t cs)) : (∀ j v, cs[j]? = some v → w.cell? ⟨g, j, none⟩ = some v) ∧ (∀ j, w.frozen? ⟨g, j, none⟩ = false) := by
  have ho := h.own hi
  refine ⟨fun j v hj => ?_, fun j => ho.frozenAt j⟩
  have hjl : j < cs.length := (List.getElem?_eq_some_iff.1 hj).1
  rw [ho.cellAt j (by simpa [bx] using hjl)]
  exact hj
/-- A variable is written. -/
theorem St.store {i g : Nat} {t : TypeId} {cs : List Value} (h : St w0 w L) (hi : L[i]? = some (bx g t cs)) (j : Nat) (u : Value) : St w0 (w.setCell ⟨g, j, none⟩ u) (L.set i (bx g t (cs.set j u))) := by
  have ho := h.own hi
  obtain ⟨h1, h2⟩ := ho.stored j u
  have := h.mark hi h2 h1
  simpa [bx] using this
theorem St.drop (i : Nat) (h : St w0 w L) : St w0 w (L.eraseIdx i) := ⟨h.1, fun r hr => h.2.1 r (List.mem_of_mem_eraseIdx hr), h.2.2.sublist (List.eraseIdx_sublist _ _)⟩
/-- Some of the rows, in another order. -/
theorem St.sub (h : St w0 w L) (L' : List Cel) (is : List Nat) (h1 : is.map (fun i => L[i]?) = L'.map some) (h2 : is.Nodup) : St w0 w L' := by
  have hlen : is.length = L'.length := by simpa using congrArg List.length h1
  have key : ∀ a (ha : a < L'.length) (ha' : a < is.length), L[is[a]]? = some L'[a] := by
    intro a ha ha'
    have := congrArg (fun l => l[a]?) h1
    simpa [ha, ha'] using this
  refine ⟨h.1, fun r hr => ?_, ?_⟩
  · obtain ⟨a, ha, rfl⟩ := List.mem_iff_getElem.1 hr
    exact h.2.1 _ (List.mem_of_getElem? (key a ha (by omega)))
  · have hpw := h.2.2
    rw [List.pairwise_iff_getElem] at hpw ⊢
    intro a b ha hb hab k hk hk2
    have ka := key a ha (by omega)
    have kb := key b hb (by omega)
    obtain ⟨la, ea⟩ := List.getElem?_eq_some_iff.1 ka
    obtain ⟨lb, eb⟩ := List.getElem?_eq_some_iff.1 kb
    have hne : is[a] ≠ is[b] := fun e => by
      have := (List.pairwise_iff_getElem.1 h2) a b (by omega) (by omega) hab
      exact this e
    rw [← ea] at hk
    rw [← eb] at hk2
    rcases Nat.lt_or_gt_of_ne hne with hlt | hlt
    · exact hpw _ _ la lb hlt k hk hk2
    · exact hpw _ _ lb la hlt k hk2 hk
theorem St.cell (h : St w0 w L) {g : Nat} {t : TypeId} {cs : List Value} (hm : bx g t cs ∈ L) (j : Nat) (v : Value) (hj : cs[j]? = some v) : w.cell? ⟨g, j, none⟩ = some v := by
  obtain ⟨i, hi, he⟩ := List.mem_iff_getElem.1 hm
  exact (h.box (i := i) (List.getElem?_eq_some_iff.2 ⟨hi, he⟩)).1 j v hj
theorem St.ltOf (h : St w0 w L) {g : Nat} {t : TypeId} {cs : List Value} (hm : bx g t cs ∈ L) : g < w.heap.size := by
  obtain ⟨i, hi, he⟩ := List.mem_iff_getElem.1 hm
  exact ((h.own (i := i) (List.getElem?_eq_some_iff.2 ⟨hi, he⟩)).lt g rfl).2
theorem St.lt {i g : Nat} {t : TypeId} {cs : List Value} (h : St w0 w L) (hi : L[i]? = some (bx g t cs)) : w0.heap.size ≤ g ∧ g < w.heap.size := (h.own hi).lt g rfl

end



section

variable {w0 w w' : World} {L : List Cel}
/-- A row that has been appended to: it lies where it lay, or in a new block. -/
theorem St.app {i : Nat} {r : Cel} {v' : Value} {n' : Nat} {cs : List Value} (h : St w0 w L) (hi : L[i]? = some r) (hg : w.grownBy w' r.v.ownBlock) (ho : w'.ownsRow w0.heap.size r.t r.size v' n' cs) (hat : v'.ownBlock = r.v.ownBlock ∨ v'.ownBlock = some w.heap.size) :
    St w0 w' (L.set i ⟨r.t, r.size, v', n', cs⟩) := by
  have hil : i < L.length := (List.getElem?_eq_some_iff.1 hi).1
  have hie : L[i] = r := (List.getElem?_eq_some_iff.1 hi).2
  have hpw := h.2.2
  rw [List.pairwise_iff_getElem] at hpw
  refine ⟨h.1.grown hg h.1.size fun k hk => ((h.2.1 r (List.mem_of_getElem? hi)).lt k hk).1, fun q hq => ?_, ?_⟩
  · obtain ⟨j, hj, hjq⟩ := List.mem_iff_getElem.1 hq
    rw [List.length_set] at hj
    by_cases hij : i = j
    · subst hij
      rw [List.getElem_set_self] at hjq
      subst hjq
      exact ho
    · rw [List.getElem_set_ne hij] at hjq
      subst hjq
      refine (h.2.1 _ (List.getElem_mem hj)).kept hg ?_
      cases hv : L[j].v.ownBlock with
      | none => exact .inl rfl
      | some k =>
        refine .inr fun e => ?_
        rcases Nat.lt_or_gt_of_ne hij with hlt | hlt
        · exact hpw i j hil hj hlt k (by rw [hie]; exact e.symm) hv
        · exact hpw j i hj hil hlt k hv (by rw [hie]; exact e.symm)
  · rw [List.pairwise_iff_getElem]
    intro a b ha hb hab k hk hk2
    rw [List.length_set] at ha hb
    have far : ∀ c (hc : c < L.length), i ≠ c → L[c].v.ownBlock = some k → v'.ownBlock ≠ some k := by
      intro c hc hic hck he
      have hlt := ((h.2.1 _ (List.getElem_mem hc)).lt k hck).2
      rcases hat with e | e
      · rw [he] at e
        rcases Nat.lt_or_gt_of_ne hic with hlt | hlt
        · exact hpw i c hil hc hlt k (by rw [hie]; exact e.symm) hck
        · exact hpw c i hc hil hlt k hck (by rw [hie]; exact e.symm)
      · rw [he] at e
        have := Option.some.inj e
        omega
    by_cases hia : i = a
    · subst hia
      rw [List.getElem_set_self] at hk
      rw [List.getElem_set_ne (by omega)] at hk2
      exact far b hb (by omega) hk2 hk
    · rw [List.getElem_set_ne hia] at hk
      by_cases hib : i = b
      · subst hib
        rw [List.getElem_set_self] at hk2
        exact far a ha hia hk hk2
      · rw [List.getElem_set_ne hib] at hk2
        exact hpw a b ha hb hab k hk hk2
/-- 'make([]int, 0)', '[]int{}': an empty list of the call's own. -/
theorem St.empty (h : St w0 w L) : St w0 (w.alloc (.cells #[] 3)) (il (.slice (some ⟨w.heap.size, 0, none⟩) 0 0) 0 [] :: L) := by
  refine h.new ((Below.refl _ _).alloc (Nat.le_refl _) _) ?_
  exact World.ownsRow_lit w #[] 0 (Nat.le_refl _) (by unfold maxLen; omega) (by simp)
/-- An element of a list of the call's own is written. -/
theorem St.setI {i g c n : Nat} {xs : List Int} (h : St w0 w L) (hi : L[i]? = some (il (.slice (some ⟨g, 0, none⟩) n c) n xs)) (j : Nat) (y : Int) : St w0 (w.setCell ⟨g, j, none⟩ (.int .i64 y)) (L.set i (il (.slice (some ⟨g, 0, none⟩) n c) n (xs.set j y))) := by
  obtain ⟨h1, h2⟩ := (h.own hi).stored j (.int .i64 y)
  rw [show (il (.slice (some ⟨g, 0, none⟩) n c) n xs).cs.set j (.int .i64 y) = K.ints (xs.set j y) from ints_set xs j y] at h1
  exact h.mark hi h2 h1
theorem St.cellI {i g c n : Nat} {xs : List Int} (h : St w0 w L) (hi : L[i]? = some (il (.slice (some ⟨g, 0, none⟩) n c) n xs)) {j : Nat} (hj : j < n) : w.cell? ⟨g, j, none⟩ = some (.int .i64 (xs.getD j 0)) ∧ w.frozen? ⟨g, j, none⟩ = false := by
  have hl : xs.length = n := OwnN.len (h.own hi)
  refine ⟨?_, (h.own hi).frozenAt j⟩
  rw [(h.own hi).cellAt j (by simpa [il] using hj)]
  exact ints_at xs (by omega)
/-- The nil list. -/
theorem St.nil (h : St w0 w L) : St w0 w (il (.slice none 0 0) 0 [] :: L) := by
  refine ⟨h.1, fun r hr => ?_, .cons (fun r hr k hk => by simp [il, Value.ownBlock] at hk) h.2.2⟩
  rcases List.mem_cons.1 hr with rfl | hr
  · exact World.ownsRow_nil w _ _ _
  · exact h.2.1 r hr

theorem run_app1 {i n g : Nat} {v : Value} {xs : List Int} {y : Int} {t ty : TypeId} {o : TypeInfo} (ht : Try.prog.underlying t = some (.slice 3)) (hio : Try.prog.info? 3 = some o) (hz : o.zero = some (.int .i64 0)) (hs : o.size = 1) (hy : o.bytes = 8)
    (h : St w0 w L) (hi : L[i]? = some (il v n xs)) (hc : w.cell? ⟨g, 0, none⟩ = some (.int .i64 y)) (hn : n ≤ 1048576) :
    ∃ A' c' w', (Builtin.append_ #[t, t] ty #[v, .slice (some ⟨g, 0, none⟩) 1 1]).run Try.prog w = .ok (.slice A' (n + 1) c') w' ∧ St w0 w' (L.set i (il (.slice A' (n + 1) c') (n + 1) (xs ++ [y]))) := by
  obtain ⟨v', w', hr, h2, h3, _, h5⟩ := run_append_own_at (P := Try.prog) w w0.heap.size t ty 3 o (.int .i64 0) 1 8 ht hio hz hs hy rfl (by decide) v n (ints xs) (h.own hi) ⟨g, 0, none⟩ 1 1 [.int .i64 y] rfl (fun j u hu => by
      have : j = 0 := by
        have := (List.getElem?_eq_some_iff.1 hu).1
        simpa using this
      subst this
      rw [List.getElem?_cons_zero] at hu
      cases hu
      simpa [Addr.add] using hc) (fun u hu => by simp at hu; subst hu; rfl) (by unfold maxLen; omega) (by omega) h.size
  obtain ⟨g', cap, hv, _⟩ := h2.form (by omega)
  subst hv
  refine ⟨_, cap, w', hr, ?_⟩
  have := h.app hi h3 h2 h5
  rw [show ints xs ++ [Value.int .i64 y] = ints (xs ++ [y]) by simp [ints]] at this
  exact this

theorem wp_app1 {o' : Oper} {a : Act} {K : Act → World → Prop} {Q : Exit → Act → World → Prop} (s x : Operand) (t : TypeId)
    (ho : o'.op = .call { callee := .builtin .append, args := #[s, x], argTypes := #[t, t] })
    {i n g : Nat} {v : Value} {xs : List Int} (y : Int) {o : TypeInfo} (ht : Try.prog.underlying t = some (.slice 3)) (hio : Try.prog.info? 3 = some o) (hz : o.zero = some (.int .i64 0)) (hsz : o.size = 1) (hy : o.bytes = 8)
    (h : St w0 w L) (hi : L[i]? = some (il v n xs)) (hs : a.eval s = v) (hx : a.eval x = .slice (some ⟨g, 0, none⟩) 1 1) (hc : w.cell? ⟨g, 0, none⟩ = some (.int .i64 y)) (hn : n ≤ 1048576)
    (hK : ∀ A' c' w', St w0 w' (L.set i (il (.slice A' (n + 1) c') (n + 1) (xs ++ [y]))) → K (a.put o'.dst (.slice A' (n + 1) c')) w') : o'.wp Try.prog a w K Q := by
  obtain ⟨A', c', w', hr, h2⟩ := run_app1 (ty := o'.type) ht hio hz hsz hy h hi hc hn
  unfold Oper.wp execOp
  simp only [ho, resolve, invoke, builtin, Sem.run_bind, Sem.run_pure, Result.andThen_ok, List.map_toArray, List.map_cons, List.map_nil, hs, hx, hr]
  exact hK _ _ _ h2

theorem wpList_app1 {ops : Array Oper} {rest : List Oper} {o' : Oper} {a : Act} {Q : Exit → Act → World → Prop} (hgd : o'.guard = none) (s x : Operand) (t : TypeId)
    (ho : o'.op = .call { callee := .builtin .append, args := #[s, x], argTypes := #[t, t] })
    {i n g : Nat} {v : Value} {xs : List Int} (y : Int) {o : TypeInfo} (ht : Try.prog.underlying t = some (.slice 3)) (hio : Try.prog.info? 3 = some o) (hz : o.zero = some (.int .i64 0)) (hsz : o.size = 1) (hy : o.bytes = 8)
    (h : St w0 w L) (hi : L[i]? = some (il v n xs)) (hs : a.eval s = v) (hx : a.eval x = .slice (some ⟨g, 0, none⟩) 1 1) (hc : w.cell? ⟨g, 0, none⟩ = some (.int .i64 y)) (hn : n ≤ 1048576)
    (hK : ∀ A' c' w', St w0 w' (L.set i (il (.slice A' (n + 1) c') (n + 1) (xs ++ [y]))) → wpList Try.prog ops Q rest (a.put o'.dst (.slice A' (n + 1) c')) w') : wpList Try.prog ops Q (o' :: rest) a w :=
  wpList_plain hgd fun _ hk => wp_app1 s x t ho y ht hio hz hsz hy h hi hs hx hc hn fun A' c' w' h2 => hk _ _ (hK A' c' w' h2)

theorem step_app1 {ops : Array Oper} {o' : Oper} {a : Act} {K : Act → World → Prop} {Q : Exit → Act → World → Prop} {E : Prop} (hgd : o'.guard = none) (s x : Operand) (t : TypeId)
    (ho : o'.op = .call { callee := .builtin .append, args := #[s, x], argTypes := #[t, t] })
    {i n g : Nat} {v : Value} {xs : List Int} (y : Int) {o : TypeInfo} (ht : Try.prog.underlying t = some (.slice 3)) (hio : Try.prog.info? 3 = some o) (hz : o.zero = some (.int .i64 0)) (hsz : o.size = 1) (hy : o.bytes = 8)
    (h : St w0 w L) (hi : L[i]? = some (il v n xs)) (hs : a.eval s = v) (hx : a.eval x = .slice (some ⟨g, 0, none⟩) 1 1) (hc : w.cell? ⟨g, 0, none⟩ = some (.int .i64 y)) (hn : n ≤ 1048576)
    (hK : ∀ A' c' w', St w0 w' (L.set i (il (.slice A' (n + 1) c') (n + 1) (xs ++ [y]))) → K (a.put o'.dst (.slice A' (n + 1) c')) w') :
    if Region.wanted o' (yielded ops a.tmps) = true then Oper.wp Try.prog o' a w K Q else E := by
  have hw : Region.wanted o' (yielded ops a.tmps) = true := by simp [Region.wanted, hgd]
  rw [if_pos hw]
  exact wp_app1 s x t ho y ht hio hz hsz hy h hi hs hx hc hn hK

end


/-- Two rows lie in blocks of their own. -/
theorem St.apart {w0 w : World} {L : List Cel} {i j a b : Nat} {r s : Cel} (h : St w0 w L) (hi : L[i]? = some r) (hj : L[j]? = some s) (hij : i < j) (ha : r.v.ownBlock = some a) (hb : s.v.ownBlock = some b) : a ≠ b := by
  obtain ⟨hil, hie⟩ := List.getElem?_eq_some_iff.1 hi
  obtain ⟨hjl, hje⟩ := List.getElem?_eq_some_iff.1 hj
  have := List.pairwise_iff_getElem.1 h.2.2 i j hil hjl hij a (by rw [hie]; exact ha)
  intro e
  subst e
  exact this (by rw [hje]; exact hb)
/-- Ahead of a call: what the memory holds. -/
theorem St.use {P : Program} {f : FuncId} {args : Array Value} {w0 W : World} {L : List Cel} {R : Ending → World → Prop} (h : St w0 W L) (k : St w0 W L → Calls P f args W R) : Calls P f args W R := k h

end Go.Proofs.Ytffbiflgmlabaaa.K
