/-
  Lists of lists of integers: an outer row of slices, and a row for each of them, all apart.
-/
import Derived.Test.YtlbefommcahkeaaSt
namespace Go.Proofs.Ytlbefommcahkeaa.K
open Go.RowKit
set_option linter.unusedVariables false

/-- A list: where it lies, its room, what it holds. -/
abbrev Ent := Option Addr × Nat × List Int
def sv (e : Ent) : Value := .slice e.1 e.2.2.length e.2.1
def ir (e : Ent) : Cel := il (sv e) e.2.2.length e.2.2
/-- The outer row. -/
def ol (V : Value) (es : List Ent) : Cel := ⟨22, 1, V, es.length, es.map sv⟩
/-- A list of lists. -/
def lol (V : Value) (es : List Ent) : List Cel := ol V es :: es.map ir

theorem info_ints : (Try.prog.info? 22).map (fun i => (i.zero, i.size, i.bytes)) = some (some (.slice none 0 0), 1, 24) := by kernel_rfl
theorem sv_one (es : List Ent) : ∀ u ∈ es.map sv, u.oneCell' = true := by
  intro u hu
  obtain ⟨e, _, rfl⟩ := List.mem_map.1 hu
  rfl


section

variable {w0 w w' : World} {L L' : List Cel}
theorem St.perm (h : St w0 w L) (p : L.Perm L') : St w0 w L' :=
  ⟨h.1, fun r hr => h.2.1 r (p.mem_iff.2 hr), (p.pairwise_iff fun {a b} hab k hk hk2 => hab k hk2 hk).1 h.2.2⟩
theorem St.sublist (h : St w0 w L) (s : L'.Sublist L) : St w0 w L' := ⟨h.1, fun r hr => h.2.1 r (s.subset hr), h.2.2.sublist s⟩
/-- Of two parts the second goes ahead. -/
theorem St.flip {L1 L2 : List Cel} (h : St w0 w (L1 ++ L2)) : St w0 w (L2 ++ L1) := h.perm List.perm_append_comm
theorem St.some_of {L1 : List Cel} (h : St w0 w (L1 ++ L')) : St w0 w L1 :=
  ⟨h.1, fun r hr => h.2.1 r (List.mem_append_left _ hr), (List.pairwise_append.1 h.2.2).1⟩
theorem St.rest_of {L1 : List Cel} (h : St w0 w (L1 ++ L')) : St w0 w L' :=
  ⟨h.1, fun r hr => h.2.1 r (List.mem_append_right _ hr), (List.pairwise_append.1 h.2.2).2.1⟩

/-- '[][]int{}': an empty list of lists. -/
theorem St.emptyL (h : St w0 w L) : St w0 (w.alloc (.cells #[] 22)) (lol (.slice (some ⟨w.heap.size, 0, none⟩) 0 0) [] ++ L) := by
  refine h.new ((Below.refl _ _).alloc (Nat.le_refl _) _) ?_
  exact World.ownsRow_lit w #[] 0 (Nat.le_refl _) (by unfold maxLen; omega) (by simp)
/-- '[][]int{p}': a list that holds one list. -/
theorem St.oneL {e : Ent} (h : St w0 w (ir e :: L)) : St w0 (w.alloc (.cells #[sv e] 22)) (lol (.slice (some ⟨w.heap.size, 0, none⟩) 1 1) [e] ++ L) := by
  refine h.new ((Below.refl _ _).alloc (Nat.le_refl _) _) ?_
  exact World.ownsRow_lit w #[sv e] 1 (Nat.le_refl _) (by unfold maxLen; omega) (by simp)
/-- What an outer row holds at k. -/
theorem St.cellL {i g c : Nat} {es : List Ent} (h : St w0 w L) (hi : L[i]? = some (ol (.slice (some ⟨g, 0, none⟩) es.length c) es)) {k : Nat} {e : Ent} (hk : es[k]? = some e) : w.cell? ⟨g, k, none⟩ = some (sv e) := by
  have hkl : k < es.length := (List.getElem?_eq_some_iff.1 hk).1
  rw [(h.own hi).cellAt k (by simpa [ol] using hkl)]
  simp [ol, hk]

theorem perm_lol (c1 c2 : Cel) (a b t : List Cel) : ((c1 :: a) ++ ((c2 :: b) ++ t)).Perm (c2 :: c1 :: ((b ++ a) ++ t)) := by
  refine (List.perm_middle (a := c2) (l₁ := c1 :: a) (l₂ := b ++ t)).trans ?_
  refine List.Perm.cons _ (List.Perm.cons _ ?_)
  rw [List.append_assoc]
  exact List.perm_append_comm_assoc a b t

theorem run_appL {i g c b off c2 : Nat} {es fs : List Ent} {t ty : TypeId} {o : TypeInfo} (ht : Try.prog.underlying t = some (.slice 22)) (hio : Try.prog.info? 22 = some o) (hz : o.zero = some (.slice none 0 0)) (hs : o.size = 1) (hy : o.bytes = 24)
    (h : St w0 w L) (hi : L[i]? = some (ol (.slice (some ⟨g, 0, none⟩) es.length c) es)) (hc : ∀ j e, fs[j]? = some e → w.cell? ⟨b, off + j, none⟩ = some (sv e)) (hn : es.length ≤ 1048576) (hm : fs.length ≤ 1048576) :
    ∃ g' c' w', (Builtin.append_ #[t, t] ty #[.slice (some ⟨g, 0, none⟩) es.length c, .slice (some ⟨b, off, none⟩) fs.length c2]).run Try.prog w = .ok (.slice (some ⟨g', 0, none⟩) (es ++ fs).length c') w' ∧ St w0 w' (L.set i (ol (.slice (some ⟨g', 0, none⟩) (es ++ fs).length c') (es ++ fs))) := by
  obtain ⟨v', w', hr, h2, h3, h4, h5⟩ := run_append_own_at (P := Try.prog) w w0.heap.size t ty 22 o (.slice none 0 0) 1 24 ht hio hz hs hy rfl (by decide) _ es.length (es.map sv) (h.own hi) ⟨b, off, none⟩ fs.length c2 (fs.map sv) (by simp) (fun j u hu => by
      rw [List.getElem?_map] at hu
      obtain ⟨e, he, rfl⟩ := Option.map_eq_some_iff.1 hu
      rw [show (⟨b, off, none⟩ : Addr).add j = ⟨b, off + j, none⟩ by
        by_cases h0 : j = 0
        · subst h0; rfl
        · simp [Addr.add, h0]]
      exact hc j e he) (sv_one fs) (by unfold maxLen; omega) (by omega) h.size
  rw [← List.length_append] at h2
  obtain ⟨g', cap, hv'⟩ : ∃ g' cap, v' = .slice (some ⟨g', 0, none⟩) (es ++ fs).length cap := by
    rcases h2.2 with ⟨e, _⟩ | ⟨g', cap, _, e, _⟩
    · exact absurd (h4.1 e).1 (fun e2 => by cases e2)
    · exact ⟨g', cap, e⟩
  subst hv'
  refine ⟨g', cap, w', hr, ?_⟩
  have := h.app hi h3 h2 h5
  rw [show es.map sv ++ fs.map sv = (es ++ fs).map sv from List.map_append.symm] at this
  exact this

theorem wp_appL {o' : Oper} {a : Act} {K : Act → World → Prop} {Q : Exit → Act → World → Prop} (s x : Operand) (t : TypeId)
    (ho : o'.op = .call { callee := .builtin .append, args := #[s, x], argTypes := #[t, t] })
    {i g c b off c2 n m : Nat} {es : List Ent} (fs : List Ent) {o : TypeInfo} (ht : Try.prog.underlying t = some (.slice 22)) (hio : Try.prog.info? 22 = some o) (hz : o.zero = some (.slice none 0 0)) (hsz : o.size = 1) (hy : o.bytes = 24)
    (h : St w0 w L) (hi : L[i]? = some (ol (.slice (some ⟨g, 0, none⟩) es.length c) es)) (hs : a.eval s = .slice (some ⟨g, 0, none⟩) n c) (hx : a.eval x = .slice (some ⟨b, off, none⟩) m c2) (hne : es.length = n) (hmf : fs.length = m) (hc : ∀ j e, fs[j]? = some e → w.cell? ⟨b, off + j, none⟩ = some (sv e)) (hn : n ≤ 1048576) (hm : m ≤ 1048576)
    (hK : ∀ g' c' w', St w0 w' (L.set i (ol (.slice (some ⟨g', 0, none⟩) (es ++ fs).length c') (es ++ fs))) → K (a.put o'.dst (.slice (some ⟨g', 0, none⟩) (es ++ fs).length c')) w') : o'.wp Try.prog a w K Q := by
  subst hne hmf
  obtain ⟨g', c', w', hr, h2⟩ := run_appL (ty := o'.type) (c2 := c2) ht hio hz hsz hy h hi hc hn hm
  unfold Oper.wp execOp
  simp only [ho, resolve, invoke, builtin, Sem.run_bind, Sem.run_pure, Result.andThen_ok, List.map_toArray, List.map_cons, List.map_nil, hs, hx, hr]
  exact hK _ _ _ h2

theorem wpList_appL {ops : Array Oper} {rest : List Oper} {o' : Oper} {a : Act} {Q : Exit → Act → World → Prop} (hgd : o'.guard = none) (s x : Operand) (t : TypeId)
    (ho : o'.op = .call { callee := .builtin .append, args := #[s, x], argTypes := #[t, t] })
    {i g c b off c2 n m : Nat} {es : List Ent} (fs : List Ent) {o : TypeInfo} (ht : Try.prog.underlying t = some (.slice 22)) (hio : Try.prog.info? 22 = some o) (hz : o.zero = some (.slice none 0 0)) (hsz : o.size = 1) (hy : o.bytes = 24)
    (h : St w0 w L) (hi : L[i]? = some (ol (.slice (some ⟨g, 0, none⟩) es.length c) es)) (hs : a.eval s = .slice (some ⟨g, 0, none⟩) n c) (hx : a.eval x = .slice (some ⟨b, off, none⟩) m c2) (hne : es.length = n) (hmf : fs.length = m) (hc : ∀ j e, fs[j]? = some e → w.cell? ⟨b, off + j, none⟩ = some (sv e)) (hn : n ≤ 1048576) (hm : m ≤ 1048576)
    (hK : ∀ g' c' w', St w0 w' (L.set i (ol (.slice (some ⟨g', 0, none⟩) (es ++ fs).length c') (es ++ fs))) → wpList Try.prog ops Q rest (a.put o'.dst (.slice (some ⟨g', 0, none⟩) (es ++ fs).length c')) w') : wpList Try.prog ops Q (o' :: rest) a w :=
  wpList_plain hgd fun _ hk => wp_appL s x t ho fs ht hio hz hsz hy h hi hs hx hne hmf hc hn hm fun g' c' w' h2 => hk _ _ (hK g' c' w' h2)

end


end Go.Proofs.Ytlbefommcahkeaa.K
