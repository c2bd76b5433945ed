/-
  'copy' onto a list of the call's own that is as long: what the memory of a call knows of it.
-/
import Derived.Test.YtlbefommcahkeaaSt
import Derived.Laws.CopyOwn
namespace Go.Proofs.Ytlbefommcahkeaa.K
open Go.RowKit
set_option linter.unusedVariables false


section

variable {w0 w : World} {L : List Cel}

theorem add_at (b off j : Nat) : (⟨b, off, none⟩ : Addr).add j = ⟨b, off + j, none⟩ := by unfold Addr.add; split <;> simp_all
theorem grown_setRow (w : World) (g : Nat) (cs : Array Value) : w.grownBy (w.setRow g cs) (some g) :=
  ⟨rfl, rfl, rfl, by simp [World.setRow], fun k hk hne => setRow_other w g k cs (by intro e; subst e; exact hne rfl)⟩

theorem wpList_copyI {ops : Array Oper} {rest : List Oper} {o' : Oper} {a : Act} {Q : Exit → Act → World → Prop} (hgd : o'.guard = none) (d s : Operand) (t : TypeId)
    (ho : o'.op = .call { callee := .builtin .copy, args := #[d, s], argTypes := #[t, t] }) {i g n c cap : Nat} {A : Option Addr} {xs ys : List Int} (hu : Try.prog.underlying t = some (.slice 3)) (hsz : (Try.prog.info? 3).map (·.size) = some 1)
    (h : St w0 w L) (hi : L[i]? = some (il (.slice (some ⟨g, 0, none⟩) n c) n ys)) (hs : Ints w w.heap.size A xs) (hx : xs.length = n) (hd : a.eval d = .slice (some ⟨g, 0, none⟩) n c) (hse : a.eval s = .slice A n cap)
    (hK : ∀ w', St w0 w' (L.set i (il (.slice (some ⟨g, 0, none⟩) n c) n xs)) → wpList Try.prog ops Q rest (a.put o'.dst (goInt n)) w') : wpList Try.prog ops Q (o' :: rest) a w := by
  have hown := h.own hi
  obtain ⟨hl, hcase⟩ := hown
  rcases hcase with ⟨hv, -⟩ | ⟨g', cap', cur, hv, hb, hg, hnc, hcm, hcs, htake⟩
  · injection hv with h1 _ _; cases h1
  · obtain ⟨rfl, rfl⟩ : g = g' ∧ c = cap' := by
      injection hv with h1 _ h3
      injection h1 with h1
      injection h1 with h1 _ _
      exact ⟨h1, h3⟩
    clear hv
    have hyl : ys.length = n := by simpa [il, K.ints] using hl
    by_cases h0 : n = 0
    · subst h0
      obtain rfl : xs = [] := List.eq_nil_of_length_eq_zero hx
      obtain rfl : ys = [] := List.eq_nil_of_length_eq_zero hyl
      refine wpList_copy_nothing hgd d s t t ho 3 hu hsz _ _ _ _ _ _ hd hse rfl ?_
      refine hK w ?_
      obtain ⟨hlt, he⟩ := List.getElem?_eq_some_iff.1 hi
      rw [← he, List.set_getElem_self]
      exact h
    · obtain ⟨b, off, rfl, hbl, hc⟩ := hs (by omega)
      have hcur : n ≤ cur.size := by
        have : cur.size = c * 1 := hcs
        have : n ≤ c := hnc
        omega
      have hlen : (K.ints xs).length = n := by simp [K.ints, hx]
      refine wpList_copy_own hgd d s t t ho 3 hu hsz g 0 n c ⟨b, off, none⟩ n cap hd hse cur _ hg (K.ints xs) (by rw [hlen]; simp) (fun j v hj => ?_) (by rw [hlen]; omega) (fun v hv => ?_) ?_
      · have hjl : j < xs.length := by
          have := (List.getElem?_eq_some_iff.1 hj).1
          simpa [K.ints] using this
        rw [add_at, hc j hjl, ← hj]
        exact (ints_at xs hjl).symm
      · obtain ⟨z, _, rfl⟩ := List.mem_map.1 hv
        rfl
      · rw [hlen]
        refine hK _ ?_
        refine h.mark hi (grown_setRow w g _) ⟨by simp [il, K.ints, hx], .inr ⟨g, c, _, rfl, hb, setRow_heap w g _ _ _ _ hg, hnc, hcm, ?_, ?_⟩⟩
        · show (List.toArray _).size = _
          have : cur.size = c * 1 := hcs
          simp [il]
          omega
        · show List.take (n * 1) _ = K.ints xs
          simp [hlen]

end


end Go.Proofs.Ytlbefommcahkeaa.K
