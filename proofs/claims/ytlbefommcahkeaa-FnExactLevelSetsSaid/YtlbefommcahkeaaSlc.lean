/-
  The contracts of the library's slices.Index, Contains, Grow, Concat and ContainsFunc, as impl's chapter 8 calls them.
-/
import Derived.Test.YtlbefommcahkeaaLolH
import Derived.Test.YtlbefommcahkeaaLolJ
import Derived.Test.YtlbefommcahkeaaBsY
import Derived.Test.YtlbefommcahkeaaAppN
import Derived.Deep.QuietTactic
namespace Go.Proofs.Ytlbefommcahkeaa.M
theorem used_yes {p : List Int} {x : Int} {k : Nat} (hx : p.getD k 0 = x) : ∀ m, k < m → usedTo p x m = true
  | 0, h => absurd h (by omega)
  | m + 1, h => by
    unfold usedTo
    by_cases e : k = m
    · subst e
      rw [hx, beq_self_eq_true, Bool.or_true]
    · rw [used_yes hx m (by omega), Bool.true_or]

end Go.Proofs.Ytlbefommcahkeaa.M
namespace Go.Proofs.Ytlbefommcahkeaa.K
open Go.RowKit
set_option linter.unusedVariables false
set_option linter.unusedSimpArgs false

theorem run_append_make {P : Program} (w : World) (t u ty e : TypeId) (k : IntKind) (i : TypeInfo) (z : Value) (ht : P.underlying t = some (.slice e)) (hu : P.underlying u = some (.int k)) (hi : P.info? e = some i) (hz : i.zero = some z)
    (n : Nat) (h0 : 0 < n) (hsz : 0 < i.size) (hn : n ≤ 1048576) (hb : i.bytes ≤ 8) :
    (Builtin.append_ #[t, u] ty #[.slice none 0 0, .int .i64 n]).run P w =
      .ok (.slice (some ⟨w.heap.size, 0, none⟩) n (grownCap w n 0 e)) (w.drew.alloc (.cells (Builtin.zeroCells z.cells n ++ Builtin.zeroCells z.cells (grownCap w n 0 e - n)) e)) := by
  have hne : n ≠ 0 := by omega
  have hm : n * i.size ≠ 0 := Nat.mul_ne_zero hne (by omega)
  have h63 : ¬ (9223372036854775807 < (n : Int)) := by omega
  have hwr : IntKind.i64.wrap (n : Int) = (n : Int) := IntWalk.i64_in _ (by omega)
  have hnb : n * i.bytes ≤ 1048576 * 8 := Nat.mul_le_mul hn hb
  have h48 : ¬ (281474976710656 < Builtin.nextslicecap n 0 * i.bytes) := by rw [nextslicecap_zero h0]; omega
  have hneg : ¬ ((n : Int) < 0) := by omega
  have hbig : ¬ (281474976710656 < (n : Int) * (i.bytes : Int)) := by
    have : ((n * i.bytes : Nat) : Int) ≤ 1048576 * 8 := by omega
    rw [Int.natCast_mul] at this
    omega
  have hmax : max (n : Int) 0 = (n : Int) := by omega
  have hle : ¬ ((n : Int) ≤ 0) := by omega
  simp [Builtin.append_, run_underlying ht, run_underlying hu, sizeOf, typeInfo, zeroValue, hi, hz, asInt, asIntOf, hwr, hmax, hle, hneg, hbig, hne, hm, h63, h48, Question.forced, run_firstCells_none, newRow, grownCap]


section

variable {w0 w w' : World} {L L' : List Cel}
/-- 'append(nil, make([]int, n)...)': n numbers in a block of their own. -/
theorem wp_make0 {o' : Oper} {a : Act} {K : Act → World → Prop} {Q : Exit → Act → World → Prop} (s x : Operand) (t u : TypeId)
    (ho : o'.op = .call { callee := .builtin .append, args := #[s, x], argTypes := #[t, u] }) {o : TypeInfo} {kd : IntKind} (ht : Try.prog.underlying t = some (.slice 3)) (hu : Try.prog.underlying u = some (.int kd))
    (hio : Try.prog.info? 3 = some o) (hz : o.zero = some (.int .i64 0)) (hsz : o.size = 1) (hy : o.bytes = 8)
    (h : St w0 w L) (n : Nat) (h0 : 0 < n) (hn : n ≤ 1048576) (hs : a.eval s = .slice none 0 0) (hx : a.eval x = .int .i64 n)
    (hK : ∀ g c w', St w0 w' (⟨3, 1, .slice (some ⟨g, 0, none⟩) n c, n, (Builtin.zeroCells #[.int .i64 0] n).toList⟩ :: L) → K (a.put o'.dst (.slice (some ⟨g, 0, none⟩) n c)) w') : o'.wp Try.prog a w K Q := by
  have hr := run_append_make w t u o'.type 3 kd o (.int .i64 0) ht hu hio hz n h0 (by omega) hn (by omega)
  have hge := grownCap_ge w n 0 3
  have hcm : grownCap w n 0 3 ≤ maxLen := grownCap_le_maxLen w n 0 3 (by unfold maxLen; omega)
  have hS := hK w.heap.size (grownCap w n 0 3) (w.drew.alloc (.cells (Builtin.zeroCells #[.int .i64 0] n ++ Builtin.zeroCells #[.int .i64 0] (grownCap w n 0 3 - n)) 3)) (by
    refine h.new ((Below.refl _ w).drew.alloc (by simp) _) ⟨?_, .inr ⟨w.heap.size, _, _, rfl, by simp, heap_alloc_new w.drew _, hge, hcm, ?_, ?_⟩⟩
    · rw [Array.length_toList, size_zeroCells]; rfl
    · rw [Array.size_append, size_zeroCells, size_zeroCells]; show n * 1 + (grownCap w n 0 3 - n) * 1 = grownCap w n 0 3 * 1; omega
    · rw [Array.toList_append]
      exact List.take_left' (by rw [Array.length_toList, size_zeroCells]; rfl))
  unfold Oper.wp execOp
  simp only [ho, resolve, invoke, builtin, Sem.run_bind, Sem.run_pure, Result.andThen_ok, List.map_toArray, List.map_cons, List.map_nil, hs, hx]
  rw [hr]
  exact hS
theorem wpList_make0 {ops : Array Oper} {rest : List Oper} {o' : Oper} {a : Act} {Q : Exit → Act → World → Prop} (hgd : o'.guard = none) (s x : Operand) (t u : TypeId)
    (ho : o'.op = .call { callee := .builtin .append, args := #[s, x], argTypes := #[t, u] }) {o : TypeInfo} {kd : IntKind} (ht : Try.prog.underlying t = some (.slice 3)) (hu : Try.prog.underlying u = some (.int kd))
    (hio : Try.prog.info? 3 = some o) (hz : o.zero = some (.int .i64 0)) (hsz : o.size = 1) (hy : o.bytes = 8)
    (h : St w0 w L) (n : Nat) (h0 : 0 < n) (hn : n ≤ 1048576) (hs : a.eval s = .slice none 0 0) (hx : a.eval x = .int .i64 n)
    (hK : ∀ g c w', St w0 w' (⟨3, 1, .slice (some ⟨g, 0, none⟩) n c, n, (Builtin.zeroCells #[.int .i64 0] n).toList⟩ :: L) → wpList Try.prog ops Q rest (a.put o'.dst (.slice (some ⟨g, 0, none⟩) n c)) w') : wpList Try.prog ops Q (o' :: rest) a w :=
  wpList_plain hgd fun _ hk => wp_make0 s x t u ho ht hu hio hz hsz hy h n h0 hn hs hx fun g c w' h2 => hk _ _ (hK g c w' h2)
/-- A row's empty head. -/
theorem St.head0 {g c n : Nat} {cs : List Value} (h : St w0 w (⟨3, 1, .slice (some ⟨g, 0, none⟩) n c, n, cs⟩ :: L)) : St w0 w (il (.slice (some ⟨g, 0, none⟩) 0 c) 0 [] :: L) := by
  refine ⟨h.1, fun r hr => ?_, ?_⟩
  · rcases List.mem_cons.1 hr with rfl | hr
    · have ho := h.2.1 _ (List.mem_cons_self ..)
      refine ⟨rfl, ?_⟩
      rcases ho.2 with ⟨e, _⟩ | ⟨g', cap, cur, hv, h1, h2, h3, h4, h5, h6⟩
      · cases e
      · injection hv with e1 e2 e3
        injection e1 with e1
        injection e1 with e1
        subst e1 e3
        exact .inr ⟨g, c, cur, rfl, h1, h2, Nat.zero_le _, h4, h5, by show cur.toList.take (0 * 1) = []; rfl⟩
    · exact h.2.1 r (List.mem_cons_of_mem _ hr)
  · have hp := List.pairwise_cons.1 h.2.2
    exact .cons (fun r hr k hk => hp.1 r hr k hk) hp.2

end


end Go.Proofs.Ytlbefommcahkeaa.K
namespace Go.Proofs.Ytlbefommcahkeaa.C
open Go.RowKit K M
set_option linter.unusedVariables false
set_option linter.unusedSimpArgs false

end Go.Proofs.Ytlbefommcahkeaa.C
