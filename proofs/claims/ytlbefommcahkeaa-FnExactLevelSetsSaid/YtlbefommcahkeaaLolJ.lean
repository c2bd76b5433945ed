/-
  Lists of lists as results, in a law: joined to the law's memory, and moved about in it.
-/
import Derived.Test.YtlbefommcahkeaaLolH
namespace Go.Proofs.Ytlbefommcahkeaa.K
open Go.RowKit
set_option linter.unusedVariables false

/-- A new list of lists, a nil one too, and a bool. -/
def RetLLO (w : World) (xss : List (List Int)) (b : Bool) (e : Ending) (w' : World) : Prop := ∃ (G : Option Addr) (c : Nat) (es : List Ent), e = .returned (.tuple #[.slice G es.length c, .bool b]) ∧ es.map (fun e => e.2.2) = xss ∧ St w w' (lol (.slice G es.length c) es)


section

variable {w0 w w' : World} {L L' : List Cel}
theorem St.nilL (h : St w0 w L) : St w0 w (lol (.slice none 0 0) [] ++ L) := by
  refine ⟨h.1, fun r hr => ?_, .cons (fun r hr k hk => by simp [ol, Value.ownBlock] at hk) h.2.2⟩
  rcases List.mem_cons.1 hr with rfl | hr
  · exact World.ownsRow_nil w _ _ _
  · exact h.2.1 r hr
/-- What a callee leaves is apart from what was there. -/
theorem St.join (h : St w0 w L) (h' : St w w' L') : St w0 w' (L' ++ L) := by
  have h1 := h.below h'.1
  refine ⟨h1.1, fun r hr => ?_, List.pairwise_append.2 ⟨h'.2.2, h1.2.2, fun r hr s hs k hk hk2 => ?_⟩⟩
  · rcases List.mem_append.1 hr with hr | hr
    · exact own_mono (h'.2.1 r hr) h.1.size
    · exact h1.2.1 r hr
  · have a := ((h'.2.1 r hr).lt k hk).1
    have b := ((h.2.1 s hs).lt k hk2).2
    omega
/-- The list's own parts go behind the first k rows. -/
theorem St.back (k : Nat) {a : Cel} {E R : List Cel} (h : St w0 w (a :: (E ++ R))) : St w0 w (a :: (R.take k ++ (E ++ R.drop k))) := by
  refine h.perm (List.Perm.cons _ ?_)
  have e : R = R.take k ++ R.drop k := (List.take_append_drop k R).symm
  have p := List.perm_append_comm_assoc E (R.take k) (R.drop k)
  rw [← e] at p
  exact p
theorem St.joinV (k : Nat) {V : Value} {es : List Ent} (h : St w0 w L) (h' : St w w' (lol V es)) : St w0 w' (ol V es :: (L.take k ++ (es.map ir ++ L.drop k))) := St.back k (E := es.map ir) (h.join h')
/-- .. and come ahead again. -/
theorem St.fore (k : Nat) {a : Cel} {E T R : List Cel} (h : St w0 w (a :: R)) (hd : R.drop k = E ++ T) : St w0 w (a :: (E ++ (R.take k ++ T))) := by
  refine h.perm (List.Perm.cons _ ?_)
  have e : R = R.take k ++ (E ++ T) := by rw [← hd]; exact (List.take_append_drop k R).symm
  have p := List.perm_append_comm_assoc (R.take k) E T
  rw [← e] at p
  exact p
/-- One row goes ahead of all. -/
theorem St.pull (i : Nat) {a : Cel} (h : St w0 w L) (hi : L[i]? = some a) : St w0 w (a :: L.eraseIdx i) := by
  refine h.perm ?_
  obtain ⟨hl, rfl⟩ := List.getElem?_eq_some_iff.1 hi
  have e : L.take i ++ L[i] :: L.drop (i + 1) = L := by rw [← List.drop_eq_getElem_cons hl]; exact List.take_append_drop i L
  rw [List.eraseIdx_eq_take_drop_succ]
  exact (List.Perm.of_eq e.symm).trans List.perm_middle
theorem offL_le {es : List Ent} (hs : ∀ e ∈ es, e.2.2.length ≤ 1048576) (hl : es.length ≤ 1048576) : ∀ j, j ≤ es.length → offL es j ≤ 1099511627776 := by
  have key : ∀ j, j ≤ es.length → offL es j ≤ 1048576 * j := by
    intro j
    induction j with
    | zero => exact fun _ => Nat.le_refl _
    | succ j ih =>
      intro hj
      have h1 := ih (by omega)
      have h2 := hs es[j] (List.getElem_mem (by omega))
      have e : es.getD j (none, 0, []) = es[j] := by rw [List.getD_eq_getElem?_getD, List.getElem?_eq_getElem (by omega)]; rfl
      unfold offL
      rw [e]
      omega
  intro j hj
  have := key j hj
  omega
theorem lens_of {es : List Ent} {xss : List (List Int)} (h : es.map (fun e => e.2.2) = xss) (hx : ∀ y ∈ xss, y.length ≤ 1048576) : ∀ e ∈ es, e.2.2.length ≤ 1048576 := fun e he => hx _ (by rw [← h]; exact List.mem_map_of_mem he)
theorem len_of {es : List Ent} {xss : List (List Int)} (h : es.map (fun e => e.2.2) = xss) (hl : xss.length ≤ 1048576) : es.length ≤ 1048576 := by
  have := congrArg List.length h
  rw [List.length_map] at this
  omega

end


end Go.Proofs.Ytlbefommcahkeaa.K
