/-
  The contracts of the library's slices.Index, Contains, Grow, Concat and ContainsFunc, as impl's chapter 8 calls them.
  The contracts of the library's slices.Concat of two lists and slices.ContainsFunc with impl.hasList's closure, and of impl.hasList.
  The contract of impl.ordersOf.
  The contract of impl.hasList, by the library's slices.ContainsFunc.
  The contracts of impl.isOrder and CornerOf.
  The contract of impl.CornersOf.
-/
import Derived.Test.YtffbiflgmlabaaaDoorLolA
import Derived.Test.YtffbiflgmlabaaaDoorBsA
import Derived.Deep.QuietTactic
import Derived.Laws.EntriesVeiled
import Derived.Test.YtffbiflgmlabaaaDoorAllM
import Derived.Test.YtffbiflgmlabaaaDoorImB
import Derived.Test.YtffbiflgmlabaaaDoorImA
import Derived.Test.YtffbiflgmlabaaaDoorSubI
namespace Go.Proofs.YtffbiflgmlabaaaDoor.M
theorem used_yes {p : List Int} {x : Int} {k : Nat} (hx : p.getD k 0 = x) : ∀ m, k < m → usedTo p x m = true
  | 0, h => absurd h (by omega)
  | m + 1, h => by
    unfold usedTo
    by_cases e : k = m
    · subst e
      rw [hx, beq_self_eq_true, Bool.or_true]
    · rw [used_yes hx m (by omega), Bool.true_or]

end Go.Proofs.YtffbiflgmlabaaaDoor.M
namespace Go.Proofs.YtffbiflgmlabaaaDoor.K
open Go.RowKit
set_option linter.unusedVariables false
set_option linter.unusedSimpArgs false

theorem run_append_make {P : Program} (w : World) (t u ty e : TypeId) (k : IntKind) (i : TypeInfo) (z : Value) (ht : P.underlying t = some (.slice e)) (hu : P.underlying u = some (.int k)) (hi : P.info? e = some i) (hz : i.zero = some z)
    (n : Nat) (h0 : 0 < n) (hsz : 0 < i.size) (hn : n ≤ 1048576) (hb : i.bytes ≤ 8) :
    (Builtin.append_ #[t, u] ty #[.slice none 0 0, .int .i64 n]).run P w =
      .ok (.slice (some ⟨w.heap.size, 0, none⟩) n (grownCap w n 0 e)) (w.drew.alloc (.cells (Builtin.zeroCells z.cells n ++ Builtin.zeroCells z.cells (grownCap w n 0 e - n)) e)) := by
  have hne : n ≠ 0 := by omega
  have hm : n * i.size ≠ 0 := Nat.mul_ne_zero hne (by omega)
  have h63 : ¬ (9223372036854775807 < (n : Int)) := by omega
  have hwr : IntKind.i64.wrap (n : Int) = (n : Int) := IntWalk.i64_in _ (by omega)
  have hnb : n * i.bytes ≤ 1048576 * 8 := Nat.mul_le_mul hn hb
  have h48 : ¬ (281474976710656 < Builtin.nextslicecap n 0 * i.bytes) := by rw [nextslicecap_zero h0]; omega
  have hneg : ¬ ((n : Int) < 0) := by omega
  have hbig : ¬ (281474976710656 < (n : Int) * (i.bytes : Int)) := by
    have : ((n * i.bytes : Nat) : Int) ≤ 1048576 * 8 := by omega
    rw [Int.natCast_mul] at this
    omega
  have hmax : max (n : Int) 0 = (n : Int) := by omega
  have hle : ¬ ((n : Int) ≤ 0) := by omega
  simp [Builtin.append_, run_underlying ht, run_underlying hu, sizeOf, typeInfo, zeroValue, hi, hz, asInt, asIntOf, hwr, hmax, hle, hneg, hbig, hne, hm, h63, h48, Question.forced, run_firstCells_none, newRow, grownCap]


section

variable {w0 w w' : World} {L L' : List Cel}
/-- 'append(nil, make([]int, n)...)': n numbers in a block of their own. -/
theorem wp_make0 {o' : Oper} {a : Act} {K : Act → World → Prop} {Q : Exit → Act → World → Prop} (s x : Operand) (t u : TypeId)
    (ho : o'.op = .call { callee := .builtin .append, args := #[s, x], argTypes := #[t, u] }) {o : TypeInfo} {kd : IntKind} (ht : Tryd.prog.underlying t = some (.slice 3)) (hu : Tryd.prog.underlying u = some (.int kd))
    (hio : Tryd.prog.info? 3 = some o) (hz : o.zero = some (.int .i64 0)) (hsz : o.size = 1) (hy : o.bytes = 8)
    (h : St w0 w L) (n : Nat) (h0 : 0 < n) (hn : n ≤ 1048576) (hs : a.eval s = .slice none 0 0) (hx : a.eval x = .int .i64 n)
    (hK : ∀ g c w', St w0 w' (⟨3, 1, .slice (some ⟨g, 0, none⟩) n c, n, (Builtin.zeroCells #[.int .i64 0] n).toList⟩ :: L) → K (a.put o'.dst (.slice (some ⟨g, 0, none⟩) n c)) w') : o'.wp Tryd.prog a w K Q := by
  have hr := run_append_make w t u o'.type 3 kd o (.int .i64 0) ht hu hio hz n h0 (by omega) hn (by omega)
  have hge := grownCap_ge w n 0 3
  have hcm : grownCap w n 0 3 ≤ maxLen := grownCap_le_maxLen w n 0 3 (by unfold maxLen; omega)
  have hS := hK w.heap.size (grownCap w n 0 3) (w.drew.alloc (.cells (Builtin.zeroCells #[.int .i64 0] n ++ Builtin.zeroCells #[.int .i64 0] (grownCap w n 0 3 - n)) 3)) (by
    refine h.new ((Below.refl _ w).drew.alloc (by simp) _) ⟨?_, .inr ⟨w.heap.size, _, _, rfl, by simp, heap_alloc_new w.drew _, hge, hcm, ?_, ?_⟩⟩
    · rw [Array.length_toList, size_zeroCells]; rfl
    · rw [Array.size_append, size_zeroCells, size_zeroCells]; show n * 1 + (grownCap w n 0 3 - n) * 1 = grownCap w n 0 3 * 1; omega
    · rw [Array.toList_append]
      exact List.take_left' (by rw [Array.length_toList, size_zeroCells]; rfl))
  unfold Oper.wp execOp
  simp only [ho, resolve, invoke, builtin, Sem.run_bind, Sem.run_pure, Result.andThen_ok, List.map_toArray, List.map_cons, List.map_nil, hs, hx]
  rw [hr]
  exact hS
theorem wpList_make0 {ops : Array Oper} {rest : List Oper} {o' : Oper} {a : Act} {Q : Exit → Act → World → Prop} (hgd : o'.guard = none) (s x : Operand) (t u : TypeId)
    (ho : o'.op = .call { callee := .builtin .append, args := #[s, x], argTypes := #[t, u] }) {o : TypeInfo} {kd : IntKind} (ht : Tryd.prog.underlying t = some (.slice 3)) (hu : Tryd.prog.underlying u = some (.int kd))
    (hio : Tryd.prog.info? 3 = some o) (hz : o.zero = some (.int .i64 0)) (hsz : o.size = 1) (hy : o.bytes = 8)
    (h : St w0 w L) (n : Nat) (h0 : 0 < n) (hn : n ≤ 1048576) (hs : a.eval s = .slice none 0 0) (hx : a.eval x = .int .i64 n)
    (hK : ∀ g c w', St w0 w' (⟨3, 1, .slice (some ⟨g, 0, none⟩) n c, n, (Builtin.zeroCells #[.int .i64 0] n).toList⟩ :: L) → wpList Tryd.prog ops Q rest (a.put o'.dst (.slice (some ⟨g, 0, none⟩) n c)) w') : wpList Tryd.prog ops Q (o' :: rest) a w :=
  wpList_plain hgd fun _ hk => wp_make0 s x t u ho ht hu hio hz hsz hy h n h0 hn hs hx fun g c w' h2 => hk _ _ (hK g c w' h2)
/-- A row's empty head. -/
theorem St.head0 {g c n : Nat} {cs : List Value} (h : St w0 w (⟨3, 1, .slice (some ⟨g, 0, none⟩) n c, n, cs⟩ :: L)) : St w0 w (il (.slice (some ⟨g, 0, none⟩) 0 c) 0 [] :: L) := by
  refine ⟨h.1, fun r hr => ?_, ?_⟩
  · rcases List.mem_cons.1 hr with rfl | hr
    · have ho := h.2.1 _ (List.mem_cons_self ..)
      refine ⟨rfl, ?_⟩
      rcases ho.2 with ⟨e, _⟩ | ⟨g', cap, cur, hv, h1, h2, h3, h4, h5, h6⟩
      · cases e
      · injection hv with e1 e2 e3
        injection e1 with e1
        injection e1 with e1
        subst e1 e3
        exact .inr ⟨g, c, cur, rfl, h1, h2, Nat.zero_le _, h4, h5, by show cur.toList.take (0 * 1) = []; rfl⟩
    · exact h.2.1 r (List.mem_cons_of_mem _ hr)
  · have hp := List.pairwise_cons.1 h.2.2
    exact .cons (fun r hr k hk => hp.1 r hr k hk) hp.2

end


end Go.Proofs.YtffbiflgmlabaaaDoor.K
namespace Go.Proofs.YtffbiflgmlabaaaDoor.C
open Go.RowKit K M
set_option linter.unusedVariables false
set_option linter.unusedSimpArgs false

end Go.Proofs.YtffbiflgmlabaaaDoor.C

namespace Go.Proofs.YtffbiflgmlabaaaDoor.K
open Go.RowKit
set_option linter.unusedVariables false


section

variable {w0 w w' : World} {L L' : List Cel}
/-- A nil list appended: nothing turns. -/
theorem wpList_app0 {ops : Array Oper} {rest : List Oper} {o' : Oper} {a : Act} {Q : Exit → Act → World → Prop} (hgd : o'.guard = none) (s x : Operand) (t : TypeId)
    (ho : o'.op = .call { callee := .builtin .append, args := #[s, x], argTypes := #[t, t] })
    {i n : Nat} {v : Value} {xs : List Int} {o : TypeInfo} (ht : Tryd.prog.underlying t = some (.slice 3)) (hio : Tryd.prog.info? 3 = some o)
    (h : St w0 w L) (hi : L[i]? = some (il v n xs)) (hs : a.eval s = v) (hx : a.eval x = .slice none 0 0)
    (hK : wpList Tryd.prog ops Q rest (a.put o'.dst v) w) : wpList Tryd.prog ops Q (o' :: rest) a w :=
  wpList_plain hgd fun _ hk => by
    have hr := run_append_owned_none (P := Tryd.prog) (w := w) w0.heap.size t o'.type 3 o 1 ht hio v n (ints xs) (h.own hi)
    unfold Oper.wp execOp
    simp only [ho, resolve, invoke, builtin, Sem.run_bind, Sem.run_pure, Result.andThen_ok, List.map_toArray, List.map_cons, List.map_nil, hs, hx]
    rw [hr]
    exact hk _ _ hK
/-- One list more behind an outer row, be it nil. -/
theorem run_appL1 {i c b off c2 : Nat} {G : Option Addr} {es : List Ent} {e1 : Ent} {t ty : TypeId} {o : TypeInfo} (ht : Tryd.prog.underlying t = some (.slice 24)) (hio : Tryd.prog.info? 24 = some o) (hz : o.zero = some (.slice none 0 0)) (hs : o.size = 1) (hy : o.bytes = 24)
    (h : St w0 w L) (hi : L[i]? = some (ol (.slice G es.length c) es)) (hc : w.cell? ⟨b, off, none⟩ = some (sv e1)) (hn : es.length ≤ 1048576) :
    ∃ g' c' w', (Builtin.append_ #[t, t] ty #[.slice G es.length c, .slice (some ⟨b, off, none⟩) 1 c2]).run Tryd.prog w = .ok (.slice (some ⟨g', 0, none⟩) (es ++ [e1]).length c') w' ∧ St w0 w' (L.set i (ol (.slice (some ⟨g', 0, none⟩) (es ++ [e1]).length c') (es ++ [e1]))) := by
  obtain ⟨v', w', hr, h2, h3, h4, h5⟩ := run_append_own_at (P := Tryd.prog) w w0.heap.size t ty 24 o (.slice none 0 0) 1 24 ht hio hz hs hy rfl (by decide) _ es.length (es.map sv) (h.own hi) ⟨b, off, none⟩ 1 c2 ([e1].map sv) (by simp) (fun j u hu => by
      have hj : j = 0 := by
        have := (List.getElem?_eq_some_iff.1 hu).1
        simpa using this
      subst hj
      cases hu
      exact hc) (sv_one [e1]) (by unfold maxLen; omega) (by omega) h.size
  have hl1 : es.length + 1 = (es ++ [e1]).length := by rw [List.length_append]; rfl
  rw [hl1] at h2
  obtain ⟨g', cap, hv'⟩ : ∃ g' cap, v' = .slice (some ⟨g', 0, none⟩) (es ++ [e1]).length cap := by
    rcases h2.2 with ⟨e, _⟩ | ⟨g', cap, _, e, _⟩
    · exact absurd (h4.1 e).2 (by decide)
    · exact ⟨g', cap, e⟩
  subst hv'
  refine ⟨g', cap, w', hr, ?_⟩
  have := h.app hi h3 h2 h5
  rw [show es.map sv ++ [e1].map sv = (es ++ [e1]).map sv from List.map_append.symm] at this
  exact this
theorem wpList_appL1 {ops : Array Oper} {rest : List Oper} {o' : Oper} {a : Act} {Q : Exit → Act → World → Prop} (hgd : o'.guard = none) (s x : Operand) (t : TypeId)
    (ho : o'.op = .call { callee := .builtin .append, args := #[s, x], argTypes := #[t, t] })
    {i c b off c2 n : Nat} {G : Option Addr} {es : List Ent} (e1 : Ent) {o : TypeInfo} (ht : Tryd.prog.underlying t = some (.slice 24)) (hio : Tryd.prog.info? 24 = some o) (hz : o.zero = some (.slice none 0 0)) (hsz : o.size = 1) (hy : o.bytes = 24)
    (h : St w0 w L) (hi : L[i]? = some (ol (.slice G es.length c) es)) (hs : a.eval s = .slice G n c) (hx : a.eval x = .slice (some ⟨b, off, none⟩) 1 c2) (hne : es.length = n) (hc : w.cell? ⟨b, off, none⟩ = some (sv e1)) (hn : n ≤ 1048576)
    (hK : ∀ g' c' w', St w0 w' (L.set i (ol (.slice (some ⟨g', 0, none⟩) (es ++ [e1]).length c') (es ++ [e1]))) → wpList Tryd.prog ops Q rest (a.put o'.dst (.slice (some ⟨g', 0, none⟩) (es ++ [e1]).length c')) w') : wpList Tryd.prog ops Q (o' :: rest) a w :=
  wpList_plain hgd fun _ hk => by
    subst hne
    obtain ⟨g', c', w', hr, h2⟩ := run_appL1 (ty := o'.type) (c2 := c2) ht hio hz hsz hy h hi hc hn
    unfold Oper.wp execOp
    simp only [ho, resolve, invoke, builtin, Sem.run_bind, Sem.run_pure, Result.andThen_ok, List.map_toArray, List.map_cons, List.map_nil, hs, hx]
    rw [hr]
    exact hk _ _ (hK g' c' w' h2)

end


end Go.Proofs.YtffbiflgmlabaaaDoor.K
namespace Go.Proofs.YtffbiflgmlabaaaDoor.C
open Go.RowKit K M
set_option linter.unusedVariables false
set_option linter.unusedSimpArgs false

/-- A list to be appended: nil, or one that holds something. -/
def Src (A : Option Addr) (c : Nat) (p : List Int) : Prop := (A = none ∧ c = 0 ∧ p = []) ∨ 0 < p.length

end Go.Proofs.YtffbiflgmlabaaaDoor.C

namespace Go.Proofs.YtffbiflgmlabaaaDoor.M
set_option linter.unusedVariables false
/-- p with one more of the first m elements; all lists of the first j, each with one more; all lists of k different elements. -/
def extTo (p : List Int) : Nat → List (List Int)
  | 0 => []
  | x + 1 => if usedTo p (x : Int) p.length = true then extTo p x else extTo p x ++ [p ++ [(x : Int)]]
def partTo (n : Nat) (ls : List (List Int)) : Nat → List (List Int)
  | 0 => []
  | j + 1 => partTo n ls j ++ extTo (ls.getD j []) n
def levelTo (n : Nat) : Nat → List (List Int)
  | 0 => [[]]
  | k + 1 => partTo n (levelTo n k) (levelTo n k).length
theorem level_orders : ∀ n, n < 5 → levelTo n n = ordersTo n n [] := by decide +kernel
theorem level_small : ∀ n, n < 5 → ∀ k, k < 5 → (levelTo n k).length ≤ 1000 ∧ ∀ p ∈ levelTo n k, p.length = k := by decide +kernel
theorem ext_len (p : List Int) : ∀ m, (extTo p m).length ≤ m
  | 0 => Nat.le_refl _
  | m + 1 => by
    have := ext_len p m
    unfold extTo
    split
    · omega
    · rw [List.length_append]; simp; omega
theorem part_len (n : Nat) (ls : List (List Int)) : ∀ j, (partTo n ls j).length ≤ j * n
  | 0 => by simp [partTo]
  | j + 1 => by
    have h1 := part_len n ls j
    have h2 := ext_len (ls.getD j []) n
    rw [partTo, List.length_append, Nat.succ_mul]
    omega

end Go.Proofs.YtffbiflgmlabaaaDoor.M
namespace Go.Proofs.YtffbiflgmlabaaaDoor.K
open Go.RowKit
set_option linter.unusedVariables false

section

variable {w0 w w' : World} {L L' : List Cel}
/-- A new list goes behind the outer row that holds it. -/
theorem St.into {V : Value} {es : List Ent} {e : Ent} (h : St w0 w (ir e :: ol V (es ++ [e]) :: (es.map ir ++ L))) : St w0 w (lol V (es ++ [e]) ++ L) := by
  have h2 := h.perm (perm_in _ _ _ _)
  unfold lol
  rw [List.map_append]
  exact h2

end


end Go.Proofs.YtffbiflgmlabaaaDoor.K
namespace Go.Proofs.YtffbiflgmlabaaaDoor.C
open Go.RowKit K M
set_option linter.unusedVariables false
set_option linter.unusedSimpArgs false

end Go.Proofs.YtffbiflgmlabaaaDoor.C

namespace Go.Proofs.YtffbiflgmlabaaaDoor.M
theorem fresh_no {acc : List (List Int)} {x : List Int} {k : Nat} (hx : acc.getD k [] = x) : ∀ m, k < m → freshTo acc x m = false
  | 0, h => absurd h (by omega)
  | m + 1, h => by
    unfold freshTo
    by_cases e : k = m
    · subst e
      rw [decide_eq_true hx, Bool.not_true, Bool.and_false]
    · rw [fresh_no hx m (by omega), Bool.false_and]

end Go.Proofs.YtffbiflgmlabaaaDoor.M
namespace Go.Proofs.YtffbiflgmlabaaaDoor.C
open Go.RowKit K M
set_option linter.unusedVariables false
set_option linter.unusedSimpArgs false

end Go.Proofs.YtffbiflgmlabaaaDoor.C

namespace Go.Proofs.YtffbiflgmlabaaaDoor.C
open Go.RowKit K M
set_option linter.unusedVariables false
set_option linter.unusedSimpArgs false
set_option linter.unusedSectionVars false

theorem orderI_ne (N : Nat) (A : Option Addr) (p : List Int) (cap : Nat) (w : World) (hne : p.length ≠ N) :
    Calls Tryd.prog 73 #[.slice A p.length cap, .int .i64 N] w fun e w' => e = .returned (.bool false) ∧ w = w' := by
  have hn : ((p.length : Int) != (N : Int)) = true := bne_iff_ne.2 (by omega)
  go_enter Tryd.func73, Tryd.ntmps73
  go_wp2
  go_ret
  exact ⟨rfl, rfl⟩

set_option maxRecDepth 100000 in
set_option maxHeartbeats 1600000 in
theorem orderI_len (N : Nat) (A : Option Addr) (p : List Int) (cap : Nat) (w : World) (h : Hid (Ints w w.heap.size A p)) (h5 : N ≤ 5) (hl : p.length = N) :
    Calls Tryd.prog 73 #[.slice A N cap, .int .i64 N] w fun e w' => e = .returned (.bool (permTo (N : Int) p N)) ∧ w = w' := by
  have HX := Lib.hid hl
  have HN := Lib.hid (fun j (hj : j < N) hb => perm_no (n := (N : Int)) (p := p) (j := j) hb N hj)
  have HU := Lib.hid (fun k => show permTo (N : Int) p (k + 1) = (permTo (N : Int) p k && (decide (0 ≤ p.getD k 0 ∧ p.getD k 0 ≤ (N : Int) - 1) && !(seenTo p k).testBit (p.getD k 0).toNat)) from rfl)
  have HSN := Lib.hid (fun k => show seenTo p (k + 1) = seenTo p k ||| 2 ^ (p.getD k 0).toNat from rfl)
  have HSL := Lib.hid (fun k (hk : permTo (N : Int) p k = true) => seen_lt (N := N) (p := p) k fun i hi => (perm_at k hk i hi).1)
  have h32 : 2 ^ N ≤ 32 := Nat.le_trans (Nat.pow_le_pow_right (by decide) h5) (by decide)
  have hne : ((N : Int) != (N : Int)) = false := by simp
  have hz : seenTo p 0 = 0 := rfl
  have hp0 : permTo (N : Int) p 0 = true := rfl
  generalize permTo (N : Int) p = f at *
  clear hl
  go_enter Tryd.func73, Tryd.ntmps73
  go_wp2
  go_loop [5, 14] (fun b i => ∃ k : Nat, k ≤ N ∧ i = .int .i64 k ∧ b = .int .i64 (seenTo p k : Nat) ∧ Hid (f k = true)) (fun _ i => N - (intOf i).toNat)
  case atStart => exact ⟨0, Nat.zero_le _, rfl, by rw [hz]; rfl, Lib.hid hp0⟩
  case round =>
    obtain ⟨k, hk, rfl, rfl, hf⟩ := hrel
    clear hz hp0
    by_cases hlt : k < N
    · obtain ⟨b, off, rfl, hbl, hc⟩ := h.out.at_ (k := k) (by rw [HX.out]; exact hlt)
      have hk0 : (0 : Int) ≤ (k : Int) := by omega
      have hkn : (k : Int) < (N : Int) := by omega
      have hno := HN.out k hlt
      have hsn := HSN.out k
      have hup := HU.out k
      have hsl := HSL.out k hf.out
      generalize p.getD k 0 = e at *
      by_cases hidx : 0 ≤ e ∧ e ≤ (N : Int) - 1
      · obtain ⟨E, rfl⟩ := Int.eq_ofNat_of_zero_le hidx.1
        rw [Int.toNat_natCast] at hno hsn hup
        have HI := Lib.hid (fun W => isIndex_yes (E : Int) (N : Int) W hidx.1 (by omega))
        have HA := Lib.hid (fun W => has_any (seenTo p k) E W (by omega) (by omega))
        have HWI := Lib.hid (fun W => with_any ((seenTo p k : Nat) : Int) (E : Int) W (by omega) (by omega) hidx.1 (by omega))
        rw [show withE ((seenTo p k : Nat) : Int) (E : Int) = seenTo p k ||| 2 ^ E from by unfold withE; rw [Int.toNat_natCast, Int.toNat_natCast]] at HWI
        rw [← hsn] at HWI
        rw [hf.out, decide_eq_true hidx, Bool.true_and, Bool.true_and] at hup
        cases hb : (seenTo p k).testBit E
        · rw [hb] at HA hup
          have HF := Lib.hid hup
          clear hno hup hsn hsl hidx hb
          generalize seenTo p k = S at HA HWI ⊢
          generalize hT : seenTo p (k + 1) = T at HWI
          have HT := Lib.hid hT
          clear hT
          go_wp2_with (first
            | (go_at_call 65; refine (HI.out _).mono ?_; rintro e w' ⟨rfl, rfl⟩)
            | (go_at_call 103; refine (HA.out _).mono ?_; rintro e w' ⟨rfl, rfl⟩)
            | (go_at_call 66; refine (HWI.out _).mono ?_; rintro e w' ⟨rfl, rfl⟩))
          go_round
          case rel => exact ⟨k + 1, by omega, by go_num, by rw [HT.out], Lib.hid (by rw [HF.out]; rfl)⟩
          case measure => simp [intOf]; omega
        · rw [hb] at HA
          have HF := Lib.hid (hno (.inr hb))
          clear hno hup hsn hsl hidx hb HWI
          generalize seenTo p k = S at HA ⊢
          go_wp2_with (first
            | (go_at_call 65; refine (HI.out _).mono ?_; rintro e w' ⟨rfl, rfl⟩)
            | (go_at_call 103; refine (HA.out _).mono ?_; rintro e w' ⟨rfl, rfl⟩))
          go_ret
          exact ⟨by rw [HF.out]; rfl, rfl⟩
      · have HI := Lib.hid (fun W => isIndex_no e (N : Int) W (by omega))
        have HF := Lib.hid (hno (.inl hidx))
        clear hno hup hsn hsl hidx
        generalize seenTo p k = S
        go_wp2_with (go_at_call 65; refine (HI.out _).mono ?_; rintro e w' ⟨rfl, rfl⟩)
        go_ret
        exact ⟨by rw [HF.out]; rfl, rfl⟩
    · obtain rfl : k = N := by omega
      have hkn : ¬ (k : Int) < (k : Int) := by omega
      go_wp2
      go_ret
      exact ⟨by rw [hf.out]; rfl, rfl⟩

theorem orderI_any (N : Nat) (A : Option Addr) (p : List Int) (cap : Nat) (w : World) (h : Hid (Ints w w.heap.size A p)) (h5 : N ≤ 5) :
    Calls Tryd.prog 73 #[.slice A p.length cap, .int .i64 N] w fun e w' => e = .returned (.bool (isPerm (N : Int) p)) ∧ w = w' := by
  unfold isPerm
  by_cases hl : p.length = N
  · rw [decide_eq_true (by omega : (p.length : Int) = (N : Int)), Bool.and_true, hl]
    exact orderI_len N A p cap w h h5 hl
  · rw [decide_eq_false (by omega : ¬ (p.length : Int) = (N : Int)), Bool.and_false]
    exact orderI_ne N A p cap w hl

/-- What an order of all elements says of each of them. -/
theorem perm_parts {N : Nat} {p : List Int} (q : isPerm (N : Int) p = true) : p.length = N ∧ ∀ i, i < N → p.getD i 0 = ((p.getD i 0).toNat : Int) ∧ (p.getD i 0).toNat < N := by
  unfold isPerm at q
  rw [Bool.and_eq_true, decide_eq_true_eq] at q
  have hl : p.length = N := by omega
  refine ⟨hl, fun i hi => ?_⟩
  have := (perm_at _ q.1 i (by omega)).1
  omega


section

variable (n : Int) (A : Option Addr) (xs : List Int) (cap : Nat) (D : Option Addr) (p : List Int) (dap : Nat) (w : World) (h : Hid (Ints w w.heap.size A xs)) (g : Hid (Ints w w.heap.size D p))
include h g

set_option maxRecDepth 100000 in
theorem cornerI_no (q : isGround n xs = false ∨ (isGround n xs = true ∧ isPerm n p = false)) : Calls Tryd.prog 26 #[.agg #[.int .i64 n, .slice A xs.length cap], .slice D p.length dap] w (RetIB w [] false) := by
  have HW := Lib.hid (St.start w)
  have HG := Lib.hid (fun W h1 => groundI_any n A xs cap W (Lib.hid h1))
  rcases q with q | ⟨q1, q⟩
  · rw [q] at HG
    clear q
    go_enter Tryd.func26, Tryd.ntmps26
    go_wp2_with (go_at_call 56; refine St.use (w0 := w) (by exact HW.out.alloc _ _) ?_; intro hS; refine (HG.out _ ((h.out.below hS.base).mono hS.size)).mono ?_; rintro e w1 ⟨rfl, hb⟩; have HS := Lib.hid (hS.below hb); clear hS hb)
    exact bodyPost_ret (v := .tuple #[.slice none 0 0, .bool false]) (by simp [results, Tryd.results26, go_sem]) rfl ⟨none, 0, rfl, K.Own.nil _ _, HS.out.base⟩
  · rw [q1] at HG
    obtain ⟨h0, h5, -, -⟩ := isFn_yes (ground_fn q1)
    obtain ⟨N, rfl⟩ := Int.eq_ofNat_of_zero_le h0
    have HO := Lib.hid (fun W h1 => orderI_any N D p dap W (Lib.hid h1) (by omega))
    rw [q] at HO
    clear q q1 h0 h5
    go_enter Tryd.func26, Tryd.ntmps26
    go_wp2_with (first
      | (go_at_call 56; refine St.use (w0 := w) (by exact HW.out.alloc _ _) ?_; intro hS; refine (HG.out _ ((h.out.below hS.base).mono hS.size)).mono ?_; rintro e w1 ⟨rfl, hb⟩; have hS1 := hS.below hb; obtain ⟨b0, -⟩ := hS1.box (i := 0) rfl; have b00 := b0 0 _ rfl; have HS := Lib.hid hS1; clear hS hb hS1 b0)
      | (go_at_call 73; refine (HO.out _ ((g.out.below HS.out.base).mono HS.out.size)).mono ?_; rintro e w' ⟨rfl, rfl⟩))
    exact bodyPost_ret (v := .tuple #[.slice none 0 0, .bool false]) (by simp [results, Tryd.results26, go_sem]) rfl ⟨none, 0, rfl, K.Own.nil _ _, HS.out.base⟩

set_option maxRecDepth 100000 in
set_option maxHeartbeats 1600000 in
theorem cornerI_yes (q1 : isGround n xs = true) (q : isPerm n p = true) : Calls Tryd.prog 26 #[.agg #[.int .i64 n, .slice A xs.length cap], .slice D p.length dap] w (RetIB w (cornerTo xs n.toNat p p.length) true) := by
  have HW := Lib.hid (St.start w)
  have HG := Lib.hid (fun W h1 => groundI_any n A xs cap W (Lib.hid h1))
  rw [q1] at HG
  obtain ⟨h0, h5, hlx, hvv⟩ := isFn_yes (ground_fn q1)
  obtain ⟨N, rfl⟩ := Int.eq_ofNat_of_zero_le h0
  rw [Int.toNat_natCast] at hlx ⊢
  have HO := Lib.hid (fun W h1 => orderI_any N D p dap W (Lib.hid h1) (by omega))
  rw [q] at HO
  obtain ⟨hl, hp⟩ := perm_parts q
  rw [hl]
  have hcg := corner_gain xs N (p := p) (o := fun i => (p.getD i 0).toNat) N fun i hi => (hp i hi).1
  have HGA := Lib.hid (fun W h1 h2 => gainsI_any (N : Int) A xs cap D p dap W (Lib.hid h1) (Lib.hid h2) N (fun i => (p.getD i 0).toNat) hl (by omega) hlx hvv (fun i hi => (hp i hi).1) (fun i hi => (hp i hi).2))
  rw [hl] at HGA HO
  rw [hcg]
  generalize gain xs (fun i => (p.getD i 0).toNat) N N = G at *
  clear q q1 h0 h5 hlx hvv hp hl hcg
  go_enter Tryd.func26, Tryd.ntmps26
  go_wp2_with (first
    | (go_at_call 56; refine St.use (w0 := w) (by exact HW.out.alloc _ _) ?_; intro hS; refine (HG.out _ ((h.out.below hS.base).mono hS.size)).mono ?_; rintro e w1 ⟨rfl, hb⟩; have hS1 := hS.below hb; obtain ⟨b0, -⟩ := hS1.box (i := 0) rfl; have b00 := b0 0 _ rfl; have b01 := b0 1 _ rfl; have HS := Lib.hid hS1; clear hS hb hS1 b0)
    | (go_at_call 73; refine (HO.out _ ((g.out.below HS.out.base).mono HS.out.size)).mono ?_; rintro e w' ⟨rfl, rfl⟩)
    | (go_at_call 74; refine (HGA.out _ ((h.out.below HS.out.base).mono HS.out.size) ((g.out.below HS.out.base).mono HS.out.size)).mono ?_; rintro e w2 ⟨A2, c2, rfl, ho, hb⟩; have HS2 := Lib.hid (HS.out.newI hb ho); clear ho hb))
  exact bodyPost_ret (v := .tuple #[.slice A2 G.length c2, .bool true]) (by simp [results, Tryd.results26, go_sem]) rfl ⟨A2, c2, rfl, HS2.out.ownI (i := 0) rfl, HS2.out.base⟩

theorem cornerI_any : Calls Tryd.prog 26 #[.agg #[.int .i64 n, .slice A xs.length cap], .slice D p.length dap] w (RetIB w (cornerOf n xs p).1 (cornerOf n xs p).2) := by
  unfold cornerOf
  cases q1 : isGround n xs
  · rw [if_neg (by simp)]
    exact cornerI_no n A xs cap D p dap w h g (.inl q1)
  · cases q : isPerm n p
    · rw [if_neg (by simp)]
      exact cornerI_no n A xs cap D p dap w h g (.inr ⟨q1, q⟩)
    · rw [if_pos ⟨rfl, rfl⟩]
      exact cornerI_yes n A xs cap D p dap w h g q1 q

end

theorem corner_small (n : Int) (xs p : List Int) : (cornerOf n xs p).1.length ≤ 1048576 := by
  unfold cornerOf
  by_cases q : isGround n xs = true ∧ isPerm n p = true
  · rw [if_pos q]
    obtain ⟨h0, h5, -, -⟩ := isFn_yes (ground_fn q.1)
    have := cornerTo_len xs n.toNat p p.length
    dsimp only
    omega
  · rw [if_neg q]
    decide

end Go.Proofs.YtffbiflgmlabaaaDoor.C

namespace Go.Proofs.YtffbiflgmlabaaaDoor.C
open Go.RowKit K M
set_option linter.unusedVariables false
set_option linter.unusedSimpArgs false
set_option linter.unusedSectionVars false

/-- What an order of all elements says of each of them. -/
theorem order_parts {N : Nat} {p : List Int} (q : permTo (N : Int) p p.length = true) (hl : p.length = N) : ∀ i, i < N → p.getD i 0 = ((p.getD i 0).toNat : Int) ∧ (p.getD i 0).toNat < N := by
  intro i hi
  have := (perm_at _ q i (by omega)).1
  omega


section

variable (n : Int) (A : Option Addr) (xs : List Int) (cap : Nat) (w : World) (h : Hid (Ints w w.heap.size A xs))
include h

end

theorem corners_small (n : Int) (xs : List Int) : (cornersOf n xs).1.length ≤ 1048576 ∧ ∀ y ∈ (cornersOf n xs).1, y.length ≤ 1048576 := by
  unfold cornersOf
  by_cases q : isGround n xs = true ∧ n ≤ 4
  · rw [if_pos q]
    have h1 := cornersTo_len xs n.toNat (ordersTo n.toNat n.toNat []) (ordersTo n.toNat n.toNat []).length
    have h4 : n.toNat ≤ 4 := by omega
    have h2 : (ordersTo n.toNat n.toNat []).length ≤ 256 := Nat.le_trans (orders_len n.toNat n.toNat []) (Nat.le_trans (Nat.pow_le_pow_left h4 n.toNat) (Nat.pow_le_pow_right (by decide) h4))
    refine ⟨by dsimp only; omega, fun y hy => ?_⟩
    have := cornersTo_all xs n.toNat _ _ y hy
    omega
  · rw [if_neg q]
    exact ⟨by decide, fun y hy => by cases hy⟩

end Go.Proofs.YtffbiflgmlabaaaDoor.C
