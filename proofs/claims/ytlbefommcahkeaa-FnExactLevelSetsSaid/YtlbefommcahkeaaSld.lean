/-
  The contracts of the library's slices.Concat of two lists and slices.ContainsFunc with impl.hasList's closure, and of impl.hasList.
-/
import Derived.Test.YtlbefommcahkeaaSlc
import Derived.Laws.EntriesVeiled
namespace Go.Proofs.Ytlbefommcahkeaa.K
open Go.RowKit
set_option linter.unusedVariables false


section

variable {w0 w w' : World} {L L' : List Cel}
/-- A nil list appended: nothing turns. -/
theorem wpList_app0 {ops : Array Oper} {rest : List Oper} {o' : Oper} {a : Act} {Q : Exit → Act → World → Prop} (hgd : o'.guard = none) (s x : Operand) (t : TypeId)
    (ho : o'.op = .call { callee := .builtin .append, args := #[s, x], argTypes := #[t, t] })
    {i n : Nat} {v : Value} {xs : List Int} {o : TypeInfo} (ht : Try.prog.underlying t = some (.slice 3)) (hio : Try.prog.info? 3 = some o)
    (h : St w0 w L) (hi : L[i]? = some (il v n xs)) (hs : a.eval s = v) (hx : a.eval x = .slice none 0 0)
    (hK : wpList Try.prog ops Q rest (a.put o'.dst v) w) : wpList Try.prog ops Q (o' :: rest) a w :=
  wpList_plain hgd fun _ hk => by
    have hr := run_append_owned_none (P := Try.prog) (w := w) w0.heap.size t o'.type 3 o 1 ht hio v n (ints xs) (h.own hi)
    unfold Oper.wp execOp
    simp only [ho, resolve, invoke, builtin, Sem.run_bind, Sem.run_pure, Result.andThen_ok, List.map_toArray, List.map_cons, List.map_nil, hs, hx]
    rw [hr]
    exact hk _ _ hK
/-- One list more behind an outer row, be it nil. -/
theorem run_appL1 {i c b off c2 : Nat} {G : Option Addr} {es : List Ent} {e1 : Ent} {t ty : TypeId} {o : TypeInfo} (ht : Try.prog.underlying t = some (.slice 22)) (hio : Try.prog.info? 22 = some o) (hz : o.zero = some (.slice none 0 0)) (hs : o.size = 1) (hy : o.bytes = 24)
    (h : St w0 w L) (hi : L[i]? = some (ol (.slice G es.length c) es)) (hc : w.cell? ⟨b, off, none⟩ = some (sv e1)) (hn : es.length ≤ 1048576) :
    ∃ g' c' w', (Builtin.append_ #[t, t] ty #[.slice G es.length c, .slice (some ⟨b, off, none⟩) 1 c2]).run Try.prog w = .ok (.slice (some ⟨g', 0, none⟩) (es ++ [e1]).length c') w' ∧ St w0 w' (L.set i (ol (.slice (some ⟨g', 0, none⟩) (es ++ [e1]).length c') (es ++ [e1]))) := by
  obtain ⟨v', w', hr, h2, h3, h4, h5⟩ := run_append_own_at (P := Try.prog) w w0.heap.size t ty 22 o (.slice none 0 0) 1 24 ht hio hz hs hy rfl (by decide) _ es.length (es.map sv) (h.own hi) ⟨b, off, none⟩ 1 c2 ([e1].map sv) (by simp) (fun j u hu => by
      have hj : j = 0 := by
        have := (List.getElem?_eq_some_iff.1 hu).1
        simpa using this
      subst hj
      cases hu
      exact hc) (sv_one [e1]) (by unfold maxLen; omega) (by omega) h.size
  have hl1 : es.length + 1 = (es ++ [e1]).length := by rw [List.length_append]; rfl
  rw [hl1] at h2
  obtain ⟨g', cap, hv'⟩ : ∃ g' cap, v' = .slice (some ⟨g', 0, none⟩) (es ++ [e1]).length cap := by
    rcases h2.2 with ⟨e, _⟩ | ⟨g', cap, _, e, _⟩
    · exact absurd (h4.1 e).2 (by decide)
    · exact ⟨g', cap, e⟩
  subst hv'
  refine ⟨g', cap, w', hr, ?_⟩
  have := h.app hi h3 h2 h5
  rw [show es.map sv ++ [e1].map sv = (es ++ [e1]).map sv from List.map_append.symm] at this
  exact this
theorem wpList_appL1 {ops : Array Oper} {rest : List Oper} {o' : Oper} {a : Act} {Q : Exit → Act → World → Prop} (hgd : o'.guard = none) (s x : Operand) (t : TypeId)
    (ho : o'.op = .call { callee := .builtin .append, args := #[s, x], argTypes := #[t, t] })
    {i c b off c2 n : Nat} {G : Option Addr} {es : List Ent} (e1 : Ent) {o : TypeInfo} (ht : Try.prog.underlying t = some (.slice 22)) (hio : Try.prog.info? 22 = some o) (hz : o.zero = some (.slice none 0 0)) (hsz : o.size = 1) (hy : o.bytes = 24)
    (h : St w0 w L) (hi : L[i]? = some (ol (.slice G es.length c) es)) (hs : a.eval s = .slice G n c) (hx : a.eval x = .slice (some ⟨b, off, none⟩) 1 c2) (hne : es.length = n) (hc : w.cell? ⟨b, off, none⟩ = some (sv e1)) (hn : n ≤ 1048576)
    (hK : ∀ g' c' w', St w0 w' (L.set i (ol (.slice (some ⟨g', 0, none⟩) (es ++ [e1]).length c') (es ++ [e1]))) → wpList Try.prog ops Q rest (a.put o'.dst (.slice (some ⟨g', 0, none⟩) (es ++ [e1]).length c')) w') : wpList Try.prog ops Q (o' :: rest) a w :=
  wpList_plain hgd fun _ hk => by
    subst hne
    obtain ⟨g', c', w', hr, h2⟩ := run_appL1 (ty := o'.type) (c2 := c2) ht hio hz hsz hy h hi hc hn
    unfold Oper.wp execOp
    simp only [ho, resolve, invoke, builtin, Sem.run_bind, Sem.run_pure, Result.andThen_ok, List.map_toArray, List.map_cons, List.map_nil, hs, hx]
    rw [hr]
    exact hk _ _ (hK g' c' w' h2)

end


end Go.Proofs.Ytlbefommcahkeaa.K
namespace Go.Proofs.Ytlbefommcahkeaa.C
open Go.RowKit K M
set_option linter.unusedVariables false
set_option linter.unusedSimpArgs false

/-- A list to be appended: nil, or one that holds something. -/
def Src (A : Option Addr) (c : Nat) (p : List Int) : Prop := (A = none ∧ c = 0 ∧ p = []) ∨ 0 < p.length

end Go.Proofs.Ytlbefommcahkeaa.C
