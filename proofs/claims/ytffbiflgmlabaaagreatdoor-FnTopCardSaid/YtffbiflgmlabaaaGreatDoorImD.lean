/-
  The contracts of the library's slices.Index, Contains, Grow, Concat and ContainsFunc, as impl's chapter 8 calls them.
  The contracts of the library's slices.Concat of two lists and slices.ContainsFunc with impl.hasList's closure, and of impl.hasList.
  The contract of impl.ordersOf.
  The contract of impl.hasList, by the library's slices.ContainsFunc.
  The contracts of impl.isOrder and CornerOf.
  The contract of impl.CornersOf.
-/
import Derived.Test.YtffbiflgmlabaaaGreatDoorLolA
import Derived.Test.YtffbiflgmlabaaaGreatDoorBsA
import Derived.Deep.QuietTactic
import Derived.Laws.EntriesVeiled
import Derived.Test.YtffbiflgmlabaaaGreatDoorAllM
import Derived.Test.YtffbiflgmlabaaaGreatDoorImB
import Derived.Test.YtffbiflgmlabaaaGreatDoorImA
import Derived.Test.YtffbiflgmlabaaaGreatDoorSubI
namespace Go.Proofs.YtffbiflgmlabaaaGreatDoor.M
theorem used_yes {p : List Int} {x : Int} {k : Nat} (hx : p.getD k 0 = x) : ∀ m, k < m → usedTo p x m = true
  | 0, h => absurd h (by omega)
  | m + 1, h => by
    unfold usedTo
    by_cases e : k = m
    · subst e
      rw [hx, beq_self_eq_true, Bool.or_true]
    · rw [used_yes hx m (by omega), Bool.true_or]

end Go.Proofs.YtffbiflgmlabaaaGreatDoor.M
namespace Go.Proofs.YtffbiflgmlabaaaGreatDoor.K
open Go.RowKit
set_option linter.unusedVariables false
set_option linter.unusedSimpArgs false

theorem run_append_make {P : Program} (w : World) (t u ty e : TypeId) (k : IntKind) (i : TypeInfo) (z : Value) (ht : P.underlying t = some (.slice e)) (hu : P.underlying u = some (.int k)) (hi : P.info? e = some i) (hz : i.zero = some z)
    (n : Nat) (h0 : 0 < n) (hsz : 0 < i.size) (hn : n ≤ 1048576) (hb : i.bytes ≤ 8) :
    (Builtin.append_ #[t, u] ty #[.slice none 0 0, .int .i64 n]).run P w =
      .ok (.slice (some ⟨w.heap.size, 0, none⟩) n (grownCap w n 0 e)) (w.drew.alloc (.cells (Builtin.zeroCells z.cells n ++ Builtin.zeroCells z.cells (grownCap w n 0 e - n)) e)) := by
  have hne : n ≠ 0 := by omega
  have hm : n * i.size ≠ 0 := Nat.mul_ne_zero hne (by omega)
  have h63 : ¬ (9223372036854775807 < (n : Int)) := by omega
  have hwr : IntKind.i64.wrap (n : Int) = (n : Int) := IntWalk.i64_in _ (by omega)
  have hnb : n * i.bytes ≤ 1048576 * 8 := Nat.mul_le_mul hn hb
  have h48 : ¬ (281474976710656 < Builtin.nextslicecap n 0 * i.bytes) := by rw [nextslicecap_zero h0]; omega
  have hneg : ¬ ((n : Int) < 0) := by omega
  have hbig : ¬ (281474976710656 < (n : Int) * (i.bytes : Int)) := by
    have : ((n * i.bytes : Nat) : Int) ≤ 1048576 * 8 := by omega
    rw [Int.natCast_mul] at this
    omega
  have hmax : max (n : Int) 0 = (n : Int) := by omega
  have hle : ¬ ((n : Int) ≤ 0) := by omega
  simp [Builtin.append_, run_underlying ht, run_underlying hu, sizeOf, typeInfo, zeroValue, hi, hz, asInt, asIntOf, hwr, hmax, hle, hneg, hbig, hne, hm, h63, h48, Question.forced, run_firstCells_none, newRow, grownCap]


section

variable {w0 w w' : World} {L L' : List Cel}
/-- 'append(nil, make([]int, n)...)': n numbers in a block of their own. -/
theorem wp_make0 {o' : Oper} {a : Act} {K : Act → World → Prop} {Q : Exit → Act → World → Prop} (s x : Operand) (t u : TypeId)
    (ho : o'.op = .call { callee := .builtin .append, args := #[s, x], argTypes := #[t, u] }) {o : TypeInfo} {kd : IntKind} (ht : Tryz.prog.underlying t = some (.slice 3)) (hu : Tryz.prog.underlying u = some (.int kd))
    (hio : Tryz.prog.info? 3 = some o) (hz : o.zero = some (.int .i64 0)) (hsz : o.size = 1) (hy : o.bytes = 8)
    (h : St w0 w L) (n : Nat) (h0 : 0 < n) (hn : n ≤ 1048576) (hs : a.eval s = .slice none 0 0) (hx : a.eval x = .int .i64 n)
    (hK : ∀ g c w', St w0 w' (⟨3, 1, .slice (some ⟨g, 0, none⟩) n c, n, (Builtin.zeroCells #[.int .i64 0] n).toList⟩ :: L) → K (a.put o'.dst (.slice (some ⟨g, 0, none⟩) n c)) w') : o'.wp Tryz.prog a w K Q := by
  have hr := run_append_make w t u o'.type 3 kd o (.int .i64 0) ht hu hio hz n h0 (by omega) hn (by omega)
  have hge := grownCap_ge w n 0 3
  have hcm : grownCap w n 0 3 ≤ maxLen := grownCap_le_maxLen w n 0 3 (by unfold maxLen; omega)
  have hS := hK w.heap.size (grownCap w n 0 3) (w.drew.alloc (.cells (Builtin.zeroCells #[.int .i64 0] n ++ Builtin.zeroCells #[.int .i64 0] (grownCap w n 0 3 - n)) 3)) (by
    refine h.new ((Below.refl _ w).drew.alloc (by simp) _) ⟨?_, .inr ⟨w.heap.size, _, _, rfl, by simp, heap_alloc_new w.drew _, hge, hcm, ?_, ?_⟩⟩
    · rw [Array.length_toList, size_zeroCells]; rfl
    · rw [Array.size_append, size_zeroCells, size_zeroCells]; show n * 1 + (grownCap w n 0 3 - n) * 1 = grownCap w n 0 3 * 1; omega
    · rw [Array.toList_append]
      exact List.take_left' (by rw [Array.length_toList, size_zeroCells]; rfl))
  unfold Oper.wp execOp
  simp only [ho, resolve, invoke, builtin, Sem.run_bind, Sem.run_pure, Result.andThen_ok, List.map_toArray, List.map_cons, List.map_nil, hs, hx]
  rw [hr]
  exact hS
theorem wpList_make0 {ops : Array Oper} {rest : List Oper} {o' : Oper} {a : Act} {Q : Exit → Act → World → Prop} (hgd : o'.guard = none) (s x : Operand) (t u : TypeId)
    (ho : o'.op = .call { callee := .builtin .append, args := #[s, x], argTypes := #[t, u] }) {o : TypeInfo} {kd : IntKind} (ht : Tryz.prog.underlying t = some (.slice 3)) (hu : Tryz.prog.underlying u = some (.int kd))
    (hio : Tryz.prog.info? 3 = some o) (hz : o.zero = some (.int .i64 0)) (hsz : o.size = 1) (hy : o.bytes = 8)
    (h : St w0 w L) (n : Nat) (h0 : 0 < n) (hn : n ≤ 1048576) (hs : a.eval s = .slice none 0 0) (hx : a.eval x = .int .i64 n)
    (hK : ∀ g c w', St w0 w' (⟨3, 1, .slice (some ⟨g, 0, none⟩) n c, n, (Builtin.zeroCells #[.int .i64 0] n).toList⟩ :: L) → wpList Tryz.prog ops Q rest (a.put o'.dst (.slice (some ⟨g, 0, none⟩) n c)) w') : wpList Tryz.prog ops Q (o' :: rest) a w :=
  wpList_plain hgd fun _ hk => wp_make0 s x t u ho ht hu hio hz hsz hy h n h0 hn hs hx fun g c w' h2 => hk _ _ (hK g c w' h2)
/-- A row's empty head. -/
theorem St.head0 {g c n : Nat} {cs : List Value} (h : St w0 w (⟨3, 1, .slice (some ⟨g, 0, none⟩) n c, n, cs⟩ :: L)) : St w0 w (il (.slice (some ⟨g, 0, none⟩) 0 c) 0 [] :: L) := by
  refine ⟨h.1, fun r hr => ?_, ?_⟩
  · rcases List.mem_cons.1 hr with rfl | hr
    · have ho := h.2.1 _ (List.mem_cons_self ..)
      refine ⟨rfl, ?_⟩
      rcases ho.2 with ⟨e, _⟩ | ⟨g', cap, cur, hv, h1, h2, h3, h4, h5, h6⟩
      · cases e
      · injection hv with e1 e2 e3
        injection e1 with e1
        injection e1 with e1
        subst e1 e3
        exact .inr ⟨g, c, cur, rfl, h1, h2, Nat.zero_le _, h4, h5, by show cur.toList.take (0 * 1) = []; rfl⟩
    · exact h.2.1 r (List.mem_cons_of_mem _ hr)
  · have hp := List.pairwise_cons.1 h.2.2
    exact .cons (fun r hr k hk => hp.1 r hr k hk) hp.2

end


end Go.Proofs.YtffbiflgmlabaaaGreatDoor.K
namespace Go.Proofs.YtffbiflgmlabaaaGreatDoor.C
open Go.RowKit K M
set_option linter.unusedVariables false
set_option linter.unusedSimpArgs false

set_option maxRecDepth 100000 in
theorem indexI_any (A : Option Addr) (p : List Int) (cap : Nat) (x : Int) (w : World) (h : Hid (Ints w w.heap.size A p)) (hl : p.length ≤ 1048576) :
    Calls Tryz.prog 79 #[.slice A p.length cap, .int .i64 x] w fun e w' => ∃ r : Int, e = .returned (.int .i64 r) ∧ decide (0 ≤ r) = usedTo p x p.length ∧ w = w' := by
  have HU := Lib.hid (fun i => show usedTo p x (i + 1) = (usedTo p x i || (p.getD i 0 == x)) from rfl)
  have HY := Lib.hid (fun k (hk : k < p.length) hx => used_yes (p := p) (x := x) (k := k) hx p.length hk)
  have h0 : usedTo p x 0 = false := rfl
  obtain ⟨m, hm⟩ : ∃ m, p.length = m := ⟨_, rfl⟩
  have HX := Lib.hid hm
  rw [hm] at hl HY ⊢
  generalize usedTo p x = f at *
  clear hm
  go_enter Tryz.func79, Tryz.ntmps79
  go_wp2
  go_loop [8] (fun i => ∃ k : Nat, k ≤ m ∧ i = .int .i64 k ∧ Hid (f k = false)) (fun i => m - (intOf i).toNat)
  case atStart => exact ⟨0, Nat.zero_le _, rfl, Lib.hid h0⟩
  case round =>
    obtain ⟨k, hk, rfl, hf⟩ := hrel
    clear h0
    by_cases hlt : k < m
    · obtain ⟨b, off, rfl, hbl, hc⟩ := h.out.at_ (k := k) (by rw [HX.out]; exact hlt)
      have hk0 : (0 : Int) ≤ (k : Int) := by omega
      have hkn : (k : Int) < (m : Int) := by omega
      have hu := HU.out k
      have hy := HY.out k hlt
      generalize p.getD k 0 = y at hc hu hy
      by_cases hyx : y = x
      · have HF := Lib.hid (hy hyx)
        have hbe : (x == y) = true := by rw [hyx]; exact beq_self_eq_true _
        clear hu hy hyx
        go_wp2
        go_ret
        exact ⟨(k : Int), rfl, by rw [HF.out]; exact decide_eq_true hk0, rfl⟩
      · have hbe : (x == y) = false := beq_eq_false_iff_ne.2 fun e => hyx e.symm
        rw [hf.out, Bool.false_or, beq_eq_false_iff_ne.2 hyx] at hu
        have HF := Lib.hid hu
        clear hu hy hyx
        go_wp2
        go_round
        case rel => exact ⟨k + 1, by omega, by go_num, HF⟩
        case measure => simp [intOf]; omega
    · obtain rfl : k = m := by omega
      have hkn : ¬ (k : Int) < (k : Int) := by omega
      go_wp2
      go_ret
      exact ⟨-1, rfl, by rw [hf.out]; rfl, rfl⟩

theorem containsI_any (A : Option Addr) (p : List Int) (cap : Nat) (x : Int) (w : World) (h : Hid (Ints w w.heap.size A p)) (hl : p.length ≤ 1048576) :
    Calls Tryz.prog 56 #[.slice A p.length cap, .int .i64 x] w fun e w' => e = .returned (.bool (usedTo p x p.length)) ∧ w = w' := by
  have HI := Lib.hid (indexI_any A p cap x w h hl)
  generalize usedTo p x p.length = b at *
  generalize p.length = m at *
  clear h hl
  go_enter Tryz.func56, Tryz.ntmps56
  go_wp2_with (go_at_call 79; refine HI.out.mono ?_; rintro e w' ⟨r, rfl, hr, rfl⟩)
  go_ret
  exact ⟨by rw [← hr]; rfl, rfl⟩

set_option maxRecDepth 100000 in
set_option maxHeartbeats 1000000 in
theorem growI_any (n : Nat) (h0 : 0 < n) (hn : n ≤ 1048576) (w : World) :
    Calls Tryz.prog 80 #[.slice none 0 0, .int .i64 n] w fun e w' => ∃ g c, e = .returned (.slice (some ⟨g, 0, none⟩) 0 c) ∧ St w w' [il (.slice (some ⟨g, 0, none⟩) 0 c) 0 []] := by
  have HW := Lib.hid (St.start w)
  obtain ⟨i0, hi, hz0, hz1, hz2⟩ := info_parts info_int
  have h1 : ¬ ((n : Int) < 0) := by omega
  have h2 : (0 : Int) < (n : Int) := by omega
  go_enter Tryz.func80, Tryz.ntmps80
  go_wp2_with (at_builtin; refine wpList_make0 rfl (.tmp 20) (.tmp 21) 24 3 rfl Tryz.underlying24 Tryz.underlying3 hi hz0 hz1 hz2 HW.out n h0 hn rfl rfl ?_; intro g c w1 hS1; have HS1 := Lib.hid hS1; clear hS1)
  go_ret
  exact ⟨g, c, rfl, HS1.out.head0⟩

end Go.Proofs.YtffbiflgmlabaaaGreatDoor.C

namespace Go.Proofs.YtffbiflgmlabaaaGreatDoor.K
open Go.RowKit
set_option linter.unusedVariables false


section

variable {w0 w w' : World} {L L' : List Cel}
/-- A nil list appended: nothing turns. -/
theorem wpList_app0 {ops : Array Oper} {rest : List Oper} {o' : Oper} {a : Act} {Q : Exit → Act → World → Prop} (hgd : o'.guard = none) (s x : Operand) (t : TypeId)
    (ho : o'.op = .call { callee := .builtin .append, args := #[s, x], argTypes := #[t, t] })
    {i n : Nat} {v : Value} {xs : List Int} {o : TypeInfo} (ht : Tryz.prog.underlying t = some (.slice 3)) (hio : Tryz.prog.info? 3 = some o)
    (h : St w0 w L) (hi : L[i]? = some (il v n xs)) (hs : a.eval s = v) (hx : a.eval x = .slice none 0 0)
    (hK : wpList Tryz.prog ops Q rest (a.put o'.dst v) w) : wpList Tryz.prog ops Q (o' :: rest) a w :=
  wpList_plain hgd fun _ hk => by
    have hr := run_append_owned_none (P := Tryz.prog) (w := w) w0.heap.size t o'.type 3 o 1 ht hio v n (ints xs) (h.own hi)
    unfold Oper.wp execOp
    simp only [ho, resolve, invoke, builtin, Sem.run_bind, Sem.run_pure, Result.andThen_ok, List.map_toArray, List.map_cons, List.map_nil, hs, hx]
    rw [hr]
    exact hk _ _ hK
/-- One list more behind an outer row, be it nil. -/
theorem run_appL1 {i c b off c2 : Nat} {G : Option Addr} {es : List Ent} {e1 : Ent} {t ty : TypeId} {o : TypeInfo} (ht : Tryz.prog.underlying t = some (.slice 24)) (hio : Tryz.prog.info? 24 = some o) (hz : o.zero = some (.slice none 0 0)) (hs : o.size = 1) (hy : o.bytes = 24)
    (h : St w0 w L) (hi : L[i]? = some (ol (.slice G es.length c) es)) (hc : w.cell? ⟨b, off, none⟩ = some (sv e1)) (hn : es.length ≤ 1048576) :
    ∃ g' c' w', (Builtin.append_ #[t, t] ty #[.slice G es.length c, .slice (some ⟨b, off, none⟩) 1 c2]).run Tryz.prog w = .ok (.slice (some ⟨g', 0, none⟩) (es ++ [e1]).length c') w' ∧ St w0 w' (L.set i (ol (.slice (some ⟨g', 0, none⟩) (es ++ [e1]).length c') (es ++ [e1]))) := by
  obtain ⟨v', w', hr, h2, h3, h4, h5⟩ := run_append_own_at (P := Tryz.prog) w w0.heap.size t ty 24 o (.slice none 0 0) 1 24 ht hio hz hs hy rfl (by decide) _ es.length (es.map sv) (h.own hi) ⟨b, off, none⟩ 1 c2 ([e1].map sv) (by simp) (fun j u hu => by
      have hj : j = 0 := by
        have := (List.getElem?_eq_some_iff.1 hu).1
        simpa using this
      subst hj
      cases hu
      exact hc) (sv_one [e1]) (by unfold maxLen; omega) (by omega) h.size
  have hl1 : es.length + 1 = (es ++ [e1]).length := by rw [List.length_append]; rfl
  rw [hl1] at h2
  obtain ⟨g', cap, hv'⟩ : ∃ g' cap, v' = .slice (some ⟨g', 0, none⟩) (es ++ [e1]).length cap := by
    rcases h2.2 with ⟨e, _⟩ | ⟨g', cap, _, e, _⟩
    · exact absurd (h4.1 e).2 (by decide)
    · exact ⟨g', cap, e⟩
  subst hv'
  refine ⟨g', cap, w', hr, ?_⟩
  have := h.app hi h3 h2 h5
  rw [show es.map sv ++ [e1].map sv = (es ++ [e1]).map sv from List.map_append.symm] at this
  exact this
theorem wpList_appL1 {ops : Array Oper} {rest : List Oper} {o' : Oper} {a : Act} {Q : Exit → Act → World → Prop} (hgd : o'.guard = none) (s x : Operand) (t : TypeId)
    (ho : o'.op = .call { callee := .builtin .append, args := #[s, x], argTypes := #[t, t] })
    {i c b off c2 n : Nat} {G : Option Addr} {es : List Ent} (e1 : Ent) {o : TypeInfo} (ht : Tryz.prog.underlying t = some (.slice 24)) (hio : Tryz.prog.info? 24 = some o) (hz : o.zero = some (.slice none 0 0)) (hsz : o.size = 1) (hy : o.bytes = 24)
    (h : St w0 w L) (hi : L[i]? = some (ol (.slice G es.length c) es)) (hs : a.eval s = .slice G n c) (hx : a.eval x = .slice (some ⟨b, off, none⟩) 1 c2) (hne : es.length = n) (hc : w.cell? ⟨b, off, none⟩ = some (sv e1)) (hn : n ≤ 1048576)
    (hK : ∀ g' c' w', St w0 w' (L.set i (ol (.slice (some ⟨g', 0, none⟩) (es ++ [e1]).length c') (es ++ [e1]))) → wpList Tryz.prog ops Q rest (a.put o'.dst (.slice (some ⟨g', 0, none⟩) (es ++ [e1]).length c')) w') : wpList Tryz.prog ops Q (o' :: rest) a w :=
  wpList_plain hgd fun _ hk => by
    subst hne
    obtain ⟨g', c', w', hr, h2⟩ := run_appL1 (ty := o'.type) (c2 := c2) ht hio hz hsz hy h hi hc hn
    unfold Oper.wp execOp
    simp only [ho, resolve, invoke, builtin, Sem.run_bind, Sem.run_pure, Result.andThen_ok, List.map_toArray, List.map_cons, List.map_nil, hs, hx]
    rw [hr]
    exact hk _ _ (hK g' c' w' h2)

end


end Go.Proofs.YtffbiflgmlabaaaGreatDoor.K
namespace Go.Proofs.YtffbiflgmlabaaaGreatDoor.C
open Go.RowKit K M
set_option linter.unusedVariables false
set_option linter.unusedSimpArgs false

/-- A list to be appended: nil, or one that holds something. -/
def Src (A : Option Addr) (c : Nat) (p : List Int) : Prop := (A = none ∧ c = 0 ∧ p = []) ∨ 0 < p.length

set_option maxRecDepth 100000 in
set_option maxHeartbeats 4000000 in
theorem concatI_any (gb c : Nat) (A0 : Option Addr) (c0 : Nat) (p : List Int) (A1 : Option Addr) (c1 : Nat) (q : List Int) (w : World) (k0 : w.cell? ⟨gb, 0, none⟩ = some (.slice A0 p.length c0)) (k1 : w.cell? ⟨gb, 1, none⟩ = some (.slice A1 q.length c1)) (lb : gb < w.heap.size)
    (i0 : Hid (Ints w w.heap.size A0 p)) (i1 : Hid (Ints w w.heap.size A1 q)) (s0 : Src A0 c0 p) (hq : 0 < q.length) (hpl : p.length ≤ 1000) (hql : q.length ≤ 1000) :
    Calls Tryz.prog 57 #[.slice (some ⟨gb, 0, none⟩) 2 c] w (RetI w (p ++ q)) := by
  have HW := Lib.hid (St.start w)
  have HK0 := Lib.hid k0
  have HK1 := Lib.hid k1
  obtain ⟨j0, hi, hz0, hz1, hz2⟩ := info_parts info_int
  have hlen : (p ++ q).length = p.length + q.length := List.length_append
  obtain ⟨m, hm⟩ : ∃ m, p.length = m := ⟨_, rfl⟩
  obtain ⟨l, hl⟩ : ∃ l, q.length = l := ⟨_, rfl⟩
  have HM := Lib.hid hm
  have HL := Lib.hid hl
  have HS := Lib.hid s0
  have HG := Lib.hid (growI_any (m + l) (by omega) (by omega) w)
  rw [hm] at k0 hpl hlen
  rw [hl] at k1 hql hlen hq
  have hw1 : IntKind.i64.wrap (m : Int) = (m : Int) := IntWalk.i64_in _ (by omega)
  have hw2 : IntKind.i64.wrap ((m : Int) + (l : Int)) = ((m + l : Nat) : Int) := by rw [IntWalk.i64_in _ (by omega)]; omega
  have hw3 : IntKind.i64.wrap (0 + (m : Int)) = (m : Int) := by rw [Int.zero_add]; exact hw1
  clear s0 hm hl
  go_enter Tryz.func57, Tryz.ntmps57
  go_wp2
  go_loop [3, 11] (fun t i => (i = .int .i64 0 ∧ t = .int .i64 0) ∨ (i = .int .i64 1 ∧ t = .int .i64 m) ∨ (i = .int .i64 2 ∧ t = .int .i64 (m + l : Nat))) (fun _ i => 2 - (intOf i).toNat)
  case atStart => exact .inl ⟨rfl, rfl⟩
  case round =>
    rcases hrel with ⟨rfl, rfl⟩ | ⟨rfl, rfl⟩ | ⟨rfl, rfl⟩
    · have hn0 : ¬ ((m : Int) < 0) := by omega
      go_wp2
      go_round
      case rel => exact .inr (.inl ⟨by go_num, by go_num⟩)
      case measure => simp [intOf]
    · have hn0 : ¬ (((m + l : Nat) : Int) < 0) := by omega
      go_wp2
      go_round
      case rel => exact .inr (.inr ⟨by go_num, rfl⟩)
      case measure => simp [intOf]
    · go_wp2_with (go_at_call 80; refine HG.out.mono ?_; rintro e w1 ⟨g, cc, rfl, hS1⟩; have HS1 := Lib.hid hS1; clear hS1)
      clear k0 k1
      go_loopw [6, 27] (fun v i wr => ∃ (k : Nat) (g' c' n : Nat) (ys : List Int), i = .int .i64 k ∧ v = .slice (some ⟨g', 0, none⟩) n c' ∧ n ≤ 2000 ∧ ((k = 0 ∧ n = 0 ∧ ys = []) ∨ (k = 1 ∧ n = m ∧ ys = p) ∨ (k = 2 ∧ n = m + l ∧ ys = p ++ q)) ∧ St w wr [il (.slice (some ⟨g', 0, none⟩) n c') n ys]) (fun _ i _ => 2 - (intOf i).toNat)
      case atStart => exact ⟨0, g, cc, 0, [], rfl, rfl, by omega, .inl ⟨rfl, rfl, rfl⟩, HS1.out⟩
      case round =>
        obtain ⟨k, g', c', n, ys, rfl, rfl, hn, hk, hS⟩ := hrel
        have e0 := (hS.base.cell (p := ⟨gb, 0, none⟩) lb).trans HK0.out
        have e1 := (hS.base.cell (p := ⟨gb, 1, none⟩) lb).trans HK1.out
        rw [HM.out] at e0
        rw [HL.out] at e1
        have HR := Lib.hid hS
        clear HS1 hS
        rcases hk with ⟨rfl, rfl, rfl⟩ | ⟨rfl, rfl, rfl⟩ | ⟨rfl, rfl, rfl⟩
        · rcases HS.out with ⟨rfl, rfl, hp⟩ | hp
          · have hm0 : m = 0 := by rw [← HM.out, hp]; rfl
            rw [hm0] at e0
            have HM0 := Lib.hid hm0
            clear hm0
            go_wp2_with (at_builtin; refine wpList_app0 rfl (.tmp 31) (.tmp 32) 24 rfl Tryz.underlying24 hi HR.out (i := 0) rfl rfl rfl ?_)
            go_roundw
            case rel => exact ⟨1, g', c', 0, [], by go_num, rfl, by omega, .inr (.inl ⟨rfl, HM0.out.symm, hp.symm⟩), HR.out⟩
            case measure => simp [intOf]
          · rw [HM.out] at hp
            obtain ⟨b, off, rfl, hbl, hcc⟩ := i0.out (by rw [HM.out]; exact hp)
            have HC := Lib.hid (fun j (hj : j < m) => (HR.out.base.cell (p := ⟨b, off + j, none⟩) hbl).trans (hcc j (by rw [HM.out]; exact hj)))
            clear hcc
            go_wp2_with (at_builtin; refine wpList_appN rfl (.tmp 31) (.tmp 32) 24 rfl p Tryz.underlying24 hi hz0 hz1 hz2 HR.out (i := 0) rfl HM.out rfl rfl HC.out (by simp) (by omega) (by omega) (Nat.zero_add m) ?_; intro g5 c5 w5 hS5; have HB5 := Lib.hid hS5; clear hS5)
            go_roundw
            case rel => exact ⟨1, g5, c5, m, p, by go_num, rfl, by omega, .inr (.inl ⟨rfl, rfl, rfl⟩), HB5.out⟩
            case measure => simp [intOf]
        · obtain ⟨b, off, rfl, hbl, hcc⟩ := i1.out (by rw [HL.out]; exact hq)
          have HC := Lib.hid (fun j (hj : j < l) => (HR.out.base.cell (p := ⟨b, off + j, none⟩) hbl).trans (hcc j (by rw [HL.out]; exact hj)))
          clear hcc
          go_wp2_with (at_builtin; refine wpList_appN rfl (.tmp 31) (.tmp 32) 24 rfl q Tryz.underlying24 hi hz0 hz1 hz2 HR.out (i := 0) rfl HL.out rfl rfl HC.out (by simp) (by omega) (by omega) rfl ?_; intro g5 c5 w5 hS5; have HB5 := Lib.hid hS5; clear hS5)
          go_roundw
          case rel => exact ⟨2, g5, c5, n + l, _, by go_num, rfl, by omega, .inr (.inr ⟨rfl, rfl, rfl⟩), HB5.out⟩
          case measure => simp [intOf]
        · go_wp2
          go_ret
          exact ⟨some ⟨g', 0, none⟩, c', by rw [hlen]; rfl, by rw [hlen]; exact HR.out.ownI (i := 0) rfl, HR.out.base⟩

end Go.Proofs.YtffbiflgmlabaaaGreatDoor.C

namespace Go.Proofs.YtffbiflgmlabaaaGreatDoor.M
set_option linter.unusedVariables false
/-- p with one more of the first m elements; all lists of the first j, each with one more; all lists of k different elements. -/
def extTo (p : List Int) : Nat → List (List Int)
  | 0 => []
  | x + 1 => if usedTo p (x : Int) p.length = true then extTo p x else extTo p x ++ [p ++ [(x : Int)]]
def partTo (n : Nat) (ls : List (List Int)) : Nat → List (List Int)
  | 0 => []
  | j + 1 => partTo n ls j ++ extTo (ls.getD j []) n
def levelTo (n : Nat) : Nat → List (List Int)
  | 0 => [[]]
  | k + 1 => partTo n (levelTo n k) (levelTo n k).length
theorem level_orders : ∀ n, n < 5 → levelTo n n = ordersTo n n [] := by decide +kernel
theorem level_small : ∀ n, n < 5 → ∀ k, k < 5 → (levelTo n k).length ≤ 1000 ∧ ∀ p ∈ levelTo n k, p.length = k := by decide +kernel
theorem ext_len (p : List Int) : ∀ m, (extTo p m).length ≤ m
  | 0 => Nat.le_refl _
  | m + 1 => by
    have := ext_len p m
    unfold extTo
    split
    · omega
    · rw [List.length_append]; simp; omega
theorem part_len (n : Nat) (ls : List (List Int)) : ∀ j, (partTo n ls j).length ≤ j * n
  | 0 => by simp [partTo]
  | j + 1 => by
    have h1 := part_len n ls j
    have h2 := ext_len (ls.getD j []) n
    rw [partTo, List.length_append, Nat.succ_mul]
    omega

end Go.Proofs.YtffbiflgmlabaaaGreatDoor.M
namespace Go.Proofs.YtffbiflgmlabaaaGreatDoor.K
open Go.RowKit
set_option linter.unusedVariables false

section

variable {w0 w w' : World} {L L' : List Cel}
/-- A new list goes behind the outer row that holds it. -/
theorem St.into {V : Value} {es : List Ent} {e : Ent} (h : St w0 w (ir e :: ol V (es ++ [e]) :: (es.map ir ++ L))) : St w0 w (lol V (es ++ [e]) ++ L) := by
  have h2 := h.perm (perm_in _ _ _ _)
  unfold lol
  rw [List.map_append]
  exact h2

end


end Go.Proofs.YtffbiflgmlabaaaGreatDoor.K
namespace Go.Proofs.YtffbiflgmlabaaaGreatDoor.C
open Go.RowKit K M
set_option linter.unusedVariables false
set_option linter.unusedSimpArgs false

set_option maxRecDepth 100000 in
set_option maxHeartbeats 8000000 in
theorem ordersI_any (N : Nat) (h4 : N ≤ 4) (w : World) :
    Calls Tryz.prog 34 #[.int .i64 N] w fun e w' => ∃ (G : Option Addr) (c : Nat) (es : List Ent), e = .returned (.slice G es.length c) ∧ es.map (fun e => e.2.2) = levelTo N N ∧ St w w' (lol (.slice G es.length c) es) := by
  have HW := Lib.hid (St.start w)
  have HSM := Lib.hid (fun k (hk : k ≤ N) => level_small N (by omega) k (by omega))
  have HLV := Lib.hid (fun k => show levelTo N (k + 1) = partTo N (levelTo N k) (levelTo N k).length from rfl)
  have HPT := Lib.hid (fun ls j => show partTo N ls (j + 1) = partTo N ls j ++ extTo (ls.getD j []) N from rfl)
  have HPL := Lib.hid (part_len N)
  have HEX := Lib.hid (fun p x => show extTo p (x + 1) = if usedTo p (x : Int) p.length = true then extTo p x else extTo p x ++ [p ++ [(x : Int)]] from rfl)
  have HEL := Lib.hid ext_len
  have hp0 : ∀ ls, partTo N ls 0 = [] := fun _ => rfl
  have he0 : ∀ p, extTo p 0 = [] := fun _ => rfl
  have hl0 : levelTo N 0 = [[]] := rfl
  generalize levelTo N = lv at *
  generalize partTo N = pt at *
  generalize extTo = ex at *
  obtain ⟨i0, hi, hz0, hz1, hz2⟩ := info_parts info_int
  obtain ⟨j0, hj, hy0, hy1, hy2⟩ := info_parts info_ints
  have HS1 := Lib.hid ((show St w w (ir (none, 0, []) :: []) from HW.out.nil).oneL)
  go_enter Tryz.func34, Tryz.ntmps34
  go_wp2
  go_loopw [3, 10] (fun v i wr => ∃ (k : Nat) (G : Option Addr) (c n : Nat) (es : List Ent), i = .int .i64 k ∧ k ≤ N ∧ es.length = n ∧ v = .slice G n c ∧ Hid (es.map (fun e => e.2.2) = lv k) ∧ Hid (∀ e ∈ es, Src e.1 e.2.1 e.2.2) ∧ St w wr (lol (.slice G n c) es)) (fun _ i _ => N - (intOf i).toNat)
  case atStart => exact ⟨0, _, _, 1, [(none, 0, [])], rfl, Nat.zero_le _, rfl, rfl, Lib.hid (by rw [hl0]; rfl), Lib.hid (fun e he => by rw [List.mem_singleton.1 he]; exact .inl ⟨rfl, rfl, rfl⟩), HS1.out⟩
  case round =>
    obtain ⟨k, G, c, n, es, rfl, hk, hn, rfl, HES, HSR, hS⟩ := hrel
    have HR := Lib.hid hS
    have HNE := Lib.hid hn
    clear HS1 hS hn hl0
    by_cases hlt : k < N
    · have hki : (k : Int) < (N : Int) := by omega
      have hlk := HSM.out k hk
      have HLK := Lib.hid hlk.2
      have hn1000 : n ≤ 1000 := by rw [← HNE.out]; have h1 := congrArg List.length HES.out; rw [List.length_map] at h1; omega
      have hlvn : (lv k).length = n := by rw [← HES.out, List.length_map, HNE.out]
      have HNX := Lib.hid (show lv (k + 1) = pt (lv k) n by rw [HLV.out k, hlvn])
      clear hlk hlvn
      have HB := Lib.hid HR.out.nilL
      go_wp2
      go_loopw [4, 14] (fun v i wr => ∃ (j : Nat) (F : Option Addr) (d m : Nat) (fs : List Ent), i = .int .i64 j ∧ j ≤ n ∧ fs.length = m ∧ v = .slice F m d ∧ Hid (fs.map (fun e => e.2.2) = pt (lv k) j) ∧ Hid (∀ e ∈ fs, Src e.1 e.2.1 e.2.2) ∧ St w wr (lol (.slice F m d) fs ++ lol (.slice G n c) es)) (fun _ i _ => n - (intOf i).toNat)
      case atStart => exact ⟨0, none, 0, 0, [], rfl, Nat.zero_le _, rfl, rfl, Lib.hid (by rw [hp0]; rfl), Lib.hid (fun e he => by cases he), HB.out⟩
      case round =>
        obtain ⟨j, F, d, m, fs, rfl, hj', hm, rfl, HFS, HFR, hS⟩ := hrel
        have HT := Lib.hid hS
        have HME := Lib.hid hm
        clear HB hS hm
        by_cases hjn : j < n
        · have hji : (j : Int) < (n : Int) := by omega
          have hj0 : (0 : Int) ≤ (j : Int) := by omega
          have hjl : j < es.length := by rw [HNE.out]; exact hjn
          obtain ⟨Ae, ce, pe, he⟩ : ∃ Ae ce pe, es[j]? = some (Ae, ce, pe) := ⟨es[j].1, es[j].2.1, es[j].2.2, by simp [hjl]⟩
          have hem : ((Ae, ce, pe) : Ent) ∈ es := List.mem_of_getElem? he
          have hsrc : Src Ae ce pe := HSR.out _ hem
          have hpe : (lv k).getD j [] = pe := by rw [← HES.out]; simp [he]
          have hpl : pe.length ≤ 4 := by
            have h1 : pe ∈ lv k := by rw [← HES.out]; exact List.mem_map_of_mem (f := fun e : Ent => e.2.2) hem
            have := HLK.out pe h1
            omega
          obtain ⟨g, rfl⟩ : ∃ g, G = some ⟨g, 0, none⟩ := (HT.out.rest_of (L1 := lol _ fs)).ol_at (c := c) (i := 0) (by rw [HNE.out]; rfl) hjl
          have d0 : wr.cell? ⟨g, j, none⟩ = some (.slice Ae pe.length ce) := (HT.out.rest_of (L1 := lol _ fs)).cellL (c := c) (i := 0) (by rw [HNE.out]; rfl) he
          have HNJ := Lib.hid (show pt (lv k) (j + 1) = pt (lv k) j ++ ex pe N by rw [HPT.out, hpe])
          have hjN : j * N ≤ 1000 * 4 := Nat.mul_le_mul (by omega) h4
          have HFL := Lib.hid (show (pt (lv k) j).length ≤ 4000 from Nat.le_trans (HPL.out (lv k) j) hjN)
          have HEM := Lib.hid hem
          have HSC := Lib.hid hsrc
          have HPE := Lib.hid hpl
          clear he hem hsrc hpe hpl hjN hjl
          go_wp2
          clear d0
          go_loopw [4, 19] (fun v i wr => ∃ (x : Nat) (F : Option Addr) (d m : Nat) (fs : List Ent), i = .int .i64 x ∧ x ≤ N ∧ fs.length = m ∧ v = .slice F m d ∧ Hid (fs.map (fun e => e.2.2) = pt (lv k) j ++ ex pe x) ∧ Hid (∀ e ∈ fs, Src e.1 e.2.1 e.2.2) ∧ St w wr (lol (.slice F m d) fs ++ lol (.slice (some ⟨g, 0, none⟩) n c) es)) (fun _ i _ => N - (intOf i).toNat)
          case atStart => exact ⟨0, F, d, m, fs, rfl, Nat.zero_le _, HME.out, rfl, Lib.hid (by rw [he0, List.append_nil]; exact HFS.out), HFR, HT.out⟩
          case round =>
            obtain ⟨x, F, d, m, fs, rfl, hx, hm, rfl, HFS, HFR, hS⟩ := hrel
            have HT := Lib.hid hS
            have HME := Lib.hid hm
            clear hS hm
            by_cases hxn : x < N
            · have hxi : (x : Int) < (N : Int) := by omega
              have hst := HEX.out pe x
              have hmem : ir (Ae, ce, pe) ∈ lol (.slice F m d) fs ++ lol (.slice (some ⟨g, 0, none⟩) n c) es := List.mem_append_right _ (List.mem_cons_of_mem _ (List.mem_map_of_mem HEM.out))
              have HIN := Lib.hid (HT.out.intsOf hmem)
              have HCT := Lib.hid (containsI_any Ae pe ce (x : Int) wr HIN (by have := HPE.out; omega))
              cases hu : usedTo pe (x : Int) pe.length
              · rw [hu] at HCT
                rw [if_neg (by rw [hu]; decide)] at hst
                have HX := Lib.hid hst
                clear hst hu hmem
                have HSb := Lib.hid (show St w ((wr.alloc (.cells #[.int .i64 (x : Int)] 3)).alloc (.cells #[.slice Ae pe.length ce, .slice (some ⟨wr.heap.size, 0, none⟩) 1 1] 24)) (bx (wr.alloc (.cells #[.int .i64 (x : Int)] 3)).heap.size 24 [.slice Ae pe.length ce, .slice (some ⟨wr.heap.size, 0, none⟩) 1 1] :: il (.slice (some ⟨wr.heap.size, 0, none⟩) 1 1) 1 [(x : Int)] :: (lol (.slice F m d) fs ++ lol (.slice (some ⟨g, 0, none⟩) n c) es)) from (HT.out.alloc [.int .i64 (x : Int)] 3).alloc [.slice Ae pe.length ce, .slice (some ⟨wr.heap.size, 0, none⟩) 1 1] 24)
                have HIb := Lib.hid (HSb.out.ints (i := 1) rfl)
                have HIp := Lib.hid (show Ints _ _ Ae pe from HSb.out.intsOf (e := (Ae, ce, pe)) (List.mem_cons_of_mem _ (List.mem_cons_of_mem _ (List.mem_append_right _ (List.mem_cons_of_mem _ (List.mem_map_of_mem HEM.out))))))
                have HBX := Lib.hid (HSb.out.box (i := 0) rfl).1
                have hbl := (HSb.out.lt (i := 0) rfl).2
                have HCC := Lib.hid (concatI_any (wr.alloc (.cells #[.int .i64 (x : Int)] 3)).heap.size 2 Ae ce pe (some ⟨wr.heap.size, 0, none⟩) 1 [(x : Int)] _ (HBX.out 0 _ rfl) (HBX.out 1 _ rfl) hbl HIp HIb HSC.out (by simp) (by have := HPE.out; omega) (by simp))
                simp only [World.size_alloc] at HCC
                have HLN := Lib.hid (show (pe ++ [(x : Int)]).length = pe.length + 1 by simp)
                clear hbl HIb HIp HBX
                have hml : m ≤ 1048576 := by
                  have h1 := congrArg List.length HFS.out
                  rw [List.length_map, List.length_append, HME.out] at h1
                  have h2 := HEL.out pe x
                  have h3 := HFL.out
                  omega
                go_wp2_with (first
                  | (go_at_call 56; refine HCT.out.mono ?_; rintro e w' ⟨rfl, rfl⟩)
                  | (go_at_call 57; refine HCC.out.mono ?_; rintro e w5 ⟨A5, c5, rfl, ho, hb5⟩; have HS5 := Lib.hid (((HSb.out.newI hb5 ho).drop 1).drop 1); clear ho hb5)
                  | (at_builtin; refine wpList_appL1 rfl (.tmp 26) (.tmp 32) 32 rfl (A5, c5, pe ++ [(x : Int)]) Tryz.underlying32 hj hy0 hy1 hy2 ((HS5.out.alloc _ _).drop 0) (i := 1) (by rw [HME.out]; rfl) rfl rfl HME.out (by show _ = some (Value.slice A5 (pe ++ [(x : Int)]).length c5); rw [HLN.out]; exact ((HS5.out.alloc _ _).box (i := 0) rfl).1 0 _ rfl) hml ?_; intro g8 c8 w8 hS8; have HS8 := Lib.hid (show St w w8 (lol (.slice (some ⟨g8, 0, none⟩) (fs ++ [((A5, c5, pe ++ [(x : Int)]) : Ent)]).length c8) (fs ++ [((A5, c5, pe ++ [(x : Int)]) : Ent)]) ++ lol (.slice (some ⟨g, 0, none⟩) n c) es) from St.into hS8); clear hS8))
                go_roundw
                case rel =>
                  refine ⟨x + 1, some ⟨g8, 0, none⟩, c8, _, fs ++ [(A5, c5, pe ++ [(x : Int)])], by go_num, by omega, rfl, by rw [List.length_append]; rfl, Lib.hid ?_, Lib.hid ?_, HS8.out⟩
                  · rw [List.map_append, HFS.out, HX.out, List.append_assoc]; rfl
                  · intro e he
                    rcases List.mem_append.1 he with he | he
                    · exact HFR.out e he
                    · rw [List.mem_singleton.1 he]
                      exact .inr (by simp)
                case measure => simp [intOf]; omega
              · rw [hu] at HCT
                rw [if_pos hu] at hst
                have HX := Lib.hid hst
                clear hst hu hmem
                go_wp2_with (go_at_call 56; refine HCT.out.mono ?_; rintro e w' ⟨rfl, rfl⟩)
                go_roundw
                case rel => exact ⟨x + 1, F, d, m, fs, by go_num, by omega, HME.out, rfl, Lib.hid (by rw [HX.out]; exact HFS.out), HFR, HT.out⟩
                case measure => simp [intOf]; omega
            · obtain rfl : x = N := by omega
              have hxi : ¬ (x : Int) < (x : Int) := by omega
              go_wp2
              go_roundw
              case rel => exact ⟨j + 1, F, d, m, fs, by go_num, by omega, HME.out, rfl, Lib.hid (by rw [HNJ.out]; exact HFS.out), HFR, HT.out⟩
              case measure => simp [intOf]; omega
        · obtain rfl : j = n := by omega
          have hji : ¬ (j : Int) < (j : Int) := by omega
          go_wp2
          go_roundw
          case rel => exact ⟨k + 1, F, d, m, fs, by go_num, by omega, HME.out, rfl, Lib.hid (by rw [HNX.out]; exact HFS.out), HFR, HT.out.sublist (List.sublist_append_left _ _)⟩
          case measure => simp [intOf]; omega
    · obtain rfl : k = N := by omega
      have hki : ¬ (k : Int) < (k : Int) := by omega
      go_wp2
      go_ret
      exact ⟨G, c, es, by rw [HNE.out]; rfl, HES.out, by rw [HNE.out]; exact HR.out⟩

end Go.Proofs.YtffbiflgmlabaaaGreatDoor.C

namespace Go.Proofs.YtffbiflgmlabaaaGreatDoor.M
theorem fresh_no {acc : List (List Int)} {x : List Int} {k : Nat} (hx : acc.getD k [] = x) : ∀ m, k < m → freshTo acc x m = false
  | 0, h => absurd h (by omega)
  | m + 1, h => by
    unfold freshTo
    by_cases e : k = m
    · subst e
      rw [decide_eq_true hx, Bool.not_true, Bool.and_false]
    · rw [fresh_no hx m (by omega), Bool.false_and]

end Go.Proofs.YtffbiflgmlabaaaGreatDoor.M
namespace Go.Proofs.YtffbiflgmlabaaaGreatDoor.C
open Go.RowKit K M
set_option linter.unusedVariables false
set_option linter.unusedSimpArgs false

theorem equal_any (A C : Option Addr) (xs ys : List Int) (cap dap : Nat) (w : World) (h : Hid (Ints w w.heap.size A xs)) (g : Hid (Ints w w.heap.size C ys)) (hn : xs.length ≤ 9223372036854775807) :
    Calls Tryz.prog 60 #[.slice A xs.length cap, .slice C ys.length dap] w fun e w' => e = .returned (.bool (decide (xs = ys))) ∧ ∃ n, w.drewN n = w' := by
  by_cases e : xs = ys
  · subst e
    rw [decide_eq_true rfl]
    exact equal_yes A C xs cap dap w h g hn
  · rw [decide_eq_false e]
    exact equal_no A C xs ys cap dap w h g hn e

theorem hasC (A : Option Addr) (xs : List Int) (cap : Nat) (D : Option Addr) (ys : List Int) (dap B : Nat) (w : World) (h : Hid (Ints w w.heap.size A xs)) (g : Hid (Ints w w.heap.size D ys)) (hn : ys.length ≤ 9223372036854775807) (hB : w.cell? ⟨B, 0, none⟩ = some (.slice A xs.length cap)) :
    Calls Tryz.prog 59 #[.slice D ys.length dap, .pointer (some ⟨B, 0, none⟩)] w fun e w' => e = .returned (.bool (decide (ys = xs))) ∧ ∃ n, w.drewN n = w' := by
  have HE := Lib.hid (equal_any D A ys xs dap cap w g h hn)
  generalize decide (ys = xs) = b at *
  generalize xs.length = m at *
  generalize ys.length = l at *
  clear h g hn
  go_enter Tryz.func59, Tryz.ntmps59
  go_wp2_with (go_at_call 60; refine HE.out.mono ?_; rintro e w' ⟨rfl, q, rfl⟩)
  go_ret
  exact ⟨rfl, q, rfl⟩

set_option maxRecDepth 100000 in
set_option maxHeartbeats 1600000 in
theorem indexFI (G : Option Addr) (c : Nat) (es : List Ent) (A : Option Addr) (xs : List Int) (cap B : Nat) (w : World) (hL : Hid (LLs w G es)) (h : Hid (Ints w w.heap.size A xs)) (hB : w.cell? ⟨B, 0, none⟩ = some (.slice A xs.length cap)) (hs : ∀ e ∈ es, e.2.2.length ≤ 1048576) (hl : es.length ≤ 1048576) :
    Calls Tryz.prog 81 #[.slice G es.length c, .func (.func 59) #[] #[.pointer (some ⟨B, 0, none⟩)]] w fun e w' => ∃ r : Int, e = .returned (.int .i64 r) ∧ decide (0 ≤ r) = !freshTo (es.map fun e => e.2.2) xs es.length ∧ ∃ q, w.drewN q = w' := by
  have HF := Lib.hid (fun k => show freshTo (es.map fun e => e.2.2) xs (k + 1) = (freshTo (es.map fun e => e.2.2) xs k && !decide ((es.map fun e => e.2.2).getD k [] = xs)) from rfl)
  have HN := Lib.hid (fun k (hk : k < es.length) hx => fresh_no (acc := es.map fun e => e.2.2) (x := xs) (k := k) hx es.length hk)
  have h0 : freshTo (es.map fun e => e.2.2) xs 0 = true := rfl
  have HE := Lib.hid (fun k (hk : k < es.length) => show ∃ e, es[k]? = some e ∧ (es.map fun e => e.2.2).getD k [] = e.2.2 ∧ e.2.2.length ≤ 1048576 from ⟨es[k], by simp, by simp [hk], hs _ (List.getElem_mem hk)⟩)
  have HB := Lib.hid hB
  obtain ⟨m, hm⟩ : ∃ m, es.length = m := ⟨_, rfl⟩
  rw [hm] at hl HN HE ⊢
  generalize freshTo (es.map fun e => e.2.2) xs = f at *
  clear hm hs hB
  go_enter Tryz.func81, Tryz.ntmps81
  go_wp2
  go_loopw [8] (fun i wr => ∃ k q : Nat, k ≤ m ∧ i = .int .i64 k ∧ Hid (f k = true) ∧ w.drewN q = wr) (fun i _ => m - (intOf i).toNat)
  case atStart => exact ⟨0, 0, Nat.zero_le _, rfl, Lib.hid h0, rfl⟩
  case round =>
    obtain ⟨k, q, hk, rfl, hf, hq⟩ := hrel
    clear h0
    by_cases hlt : k < m
    · obtain ⟨⟨D, dap, ys⟩, h1, h2, h3⟩ := HE.out k hlt
      obtain ⟨g, rfl, k1', -, i1'⟩ := hL.out.at_ k _ h1
      have k1 : wr.cell? ⟨g, k, none⟩ = some (.slice D ys.length dap) := by rw [← hq]; exact k1'
      have HC := Lib.hid (show Calls Tryz.prog 59 #[.slice D ys.length dap, .pointer (some ⟨B, 0, none⟩)] wr fun e w' => e = .returned (.bool (decide (ys = xs))) ∧ ∃ n, wr.drewN n = w' from by
        rw [← hq]
        exact hasC A xs cap D ys dap B (w.drewN q) (Lib.hid h.out) (Lib.hid i1') (by have : ys.length ≤ 1048576 := h3; omega) HB.out)
      have hk0 : (0 : Int) ≤ (k : Int) := by omega
      have hkn : (k : Int) < (m : Int) := by omega
      have hu := HF.out k
      have hn := HN.out k hlt
      rw [h2] at hu hn
      have HQ := Lib.hid hq
      clear h1 h2 h3 k1' i1' hq
      dsimp only at hu hn
      generalize ys.length = l at *
      by_cases hyx : ys = xs
      · have HX := Lib.hid (hn hyx)
        rw [decide_eq_true hyx] at HC
        clear hu hn hyx
        go_wp2_with (go_at_call 59; refine HC.out.mono ?_; rintro e w' ⟨rfl, n, rfl⟩)
        go_ret
        exact ⟨(k : Int), rfl, by rw [HX.out]; exact decide_eq_true hk0, q + n, by rw [← HQ.out]; simp [World.drewN, Nat.add_assoc]⟩
      · rw [decide_eq_false hyx] at HC hu
        rw [hf.out] at hu
        have HX := Lib.hid hu
        clear hu hn hyx
        go_wp2_with (go_at_call 59; refine HC.out.mono ?_; rintro e w' ⟨rfl, n, rfl⟩)
        go_roundw
        case rel => exact ⟨k + 1, q + n, by omega, by go_num, Lib.hid (by rw [HX.out]; rfl), by rw [← HQ.out]; simp [World.drewN, Nat.add_assoc]⟩
        case measure => simp [intOf]; omega
    · obtain rfl : k = m := by omega
      have hkn : ¬ (k : Int) < (k : Int) := by omega
      go_wp2
      go_ret
      exact ⟨-1, rfl, by rw [hf.out]; rfl, q, hq⟩

theorem containsFI (G : Option Addr) (c : Nat) (es : List Ent) (A : Option Addr) (xs : List Int) (cap B : Nat) (w : World) (hL : Hid (LLs w G es)) (h : Hid (Ints w w.heap.size A xs)) (hB : w.cell? ⟨B, 0, none⟩ = some (.slice A xs.length cap)) (hs : ∀ e ∈ es, e.2.2.length ≤ 1048576) (hl : es.length ≤ 1048576) :
    Calls Tryz.prog 58 #[.slice G es.length c, .func (.func 59) #[] #[.pointer (some ⟨B, 0, none⟩)]] w fun e w' => e = .returned (.bool (!freshTo (es.map fun e => e.2.2) xs es.length)) ∧ ∃ q, w.drewN q = w' := by
  have HI := Lib.hid (indexFI G c es A xs cap B w hL h hB hs hl)
  generalize (!freshTo (es.map fun e => e.2.2) xs es.length) = b at *
  generalize es.length = m at *
  clear h hB hs hl hL
  go_enter Tryz.func58, Tryz.ntmps58
  go_wp2_with (go_at_call 81; refine HI.out.mono ?_; rintro e w' ⟨r, rfl, hr, q, rfl⟩)
  go_ret
  exact ⟨by rw [← hr]; rfl, q, rfl⟩

theorem hasI_any (G : Option Addr) (c : Nat) (es : List Ent) (A : Option Addr) (xs : List Int) (cap : Nat) (w : World) (hL : Hid (LLs w G es)) (h : Hid (Ints w w.heap.size A xs)) (hs : ∀ e ∈ es, e.2.2.length ≤ 1048576) (hl : es.length ≤ 1048576) :
    Calls Tryz.prog 36 #[.slice G es.length c, .slice A xs.length cap] w (RetV w (.bool (!freshTo (es.map fun e => e.2.2) xs es.length))) := by
  have HW := Lib.hid (St.start w)
  have HC := Lib.hid (fun W B hL h hB => containsFI G c es A xs cap B W (Lib.hid hL) (Lib.hid h) hB hs hl)
  generalize (!freshTo (es.map fun e => e.2.2) xs es.length) = b at *
  generalize es.length = m at *
  have hmf : ∀ (fn : Fn) (first cap : Array Value) (w : World), (Instr.makeFunc fn first cap).run Tryz.prog w = .ok (.func fn first cap) w := fun _ _ _ _ => rfl
  clear hs hl
  go_enter Tryz.func36, Tryz.ntmps36
  go_wp2_with fail
  refine St.use (w0 := w) (by exact HW.out.alloc _ _) ?_
  intro hS
  refine (HC.out _ _ (hL.out.below hS.base) ((h.out.below hS.base).mono hS.size) ((hS.box (i := 0) rfl).1 0 _ rfl)).mono ?_
  rintro e w1 ⟨rfl, q, rfl⟩
  have HS := Lib.hid (hS.drewN q)
  clear hS
  go_wp2
  go_ret
  exact ⟨rfl, HS.out.base⟩

end Go.Proofs.YtffbiflgmlabaaaGreatDoor.C

namespace Go.Proofs.YtffbiflgmlabaaaGreatDoor.C
open Go.RowKit K M
set_option linter.unusedVariables false
set_option linter.unusedSimpArgs false
set_option linter.unusedSectionVars false

/-- What an order of all elements says of each of them. -/
theorem perm_parts {N : Nat} {p : List Int} (q : isPerm (N : Int) p = true) : p.length = N ∧ ∀ i, i < N → p.getD i 0 = ((p.getD i 0).toNat : Int) ∧ (p.getD i 0).toNat < N := by
  unfold isPerm at q
  rw [Bool.and_eq_true, decide_eq_true_eq] at q
  have hl : p.length = N := by omega
  refine ⟨hl, fun i hi => ?_⟩
  have := (perm_at _ q.1 i (by omega)).1
  omega


section

variable (n : Int) (A : Option Addr) (xs : List Int) (cap : Nat) (D : Option Addr) (p : List Int) (dap : Nat) (w : World) (h : Hid (Ints w w.heap.size A xs)) (g : Hid (Ints w w.heap.size D p))
include h g

end

theorem corner_small (n : Int) (xs p : List Int) : (cornerOf n xs p).1.length ≤ 1048576 := by
  unfold cornerOf
  by_cases q : isGround n xs = true ∧ isPerm n p = true
  · rw [if_pos q]
    obtain ⟨h0, h5, -, -⟩ := isFn_yes (ground_fn q.1)
    have := cornerTo_len xs n.toNat p p.length
    dsimp only
    omega
  · rw [if_neg q]
    decide

end Go.Proofs.YtffbiflgmlabaaaGreatDoor.C

namespace Go.Proofs.YtffbiflgmlabaaaGreatDoor.C
open Go.RowKit K M
set_option linter.unusedVariables false
set_option linter.unusedSimpArgs false
set_option linter.unusedSectionVars false

/-- What an order of all elements says of each of them. -/
theorem order_parts {N : Nat} {p : List Int} (q : permTo (N : Int) p p.length = true) (hl : p.length = N) : ∀ i, i < N → p.getD i 0 = ((p.getD i 0).toNat : Int) ∧ (p.getD i 0).toNat < N := by
  intro i hi
  have := (perm_at _ q i (by omega)).1
  omega


section

variable (n : Int) (A : Option Addr) (xs : List Int) (cap : Nat) (w : World) (h : Hid (Ints w w.heap.size A xs))
include h

set_option maxRecDepth 100000 in
theorem cornersI_no (q : isGround n xs = false ∨ (isGround n xs = true ∧ 4 < n)) : Calls Tryz.prog 12 #[.agg #[.int .i64 n, .slice A xs.length cap]] w (RetLLO w [] false) := by
  have HW := Lib.hid (St.start w)
  have HG := Lib.hid (fun W h1 => groundI_any n A xs cap W (Lib.hid h1))
  rcases q with q | ⟨q, q2⟩
  · rw [q] at HG
    clear q
    go_enter Tryz.func12, Tryz.ntmps12
    go_wp2_with (go_at_call 33; refine St.use (w0 := w) (by exact HW.out.alloc _ _) ?_; intro hS; refine (HG.out _ ((h.out.below hS.base).mono hS.size)).mono ?_; rintro e w1 ⟨rfl, hb⟩; have HS := Lib.hid (hS.below hb); clear hS hb)
    exact bodyPost_ret (v := .tuple #[.slice none 0 0, .bool false]) (by simp [results, Tryz.results12, go_sem]) rfl ⟨none, 0, [], rfl, rfl, HS.out.nilL.sublist (List.sublist_append_left _ _)⟩
  · rw [q] at HG
    clear q
    go_enter Tryz.func12, Tryz.ntmps12
    go_wp2_with (go_at_call 33; refine St.use (w0 := w) (by exact HW.out.alloc _ _) ?_; intro hS; refine (HG.out _ ((h.out.below hS.base).mono hS.size)).mono ?_; rintro e w1 ⟨rfl, hb⟩; have hS1 := hS.below hb; obtain ⟨b0, -⟩ := hS1.box (i := 0) rfl; have b00 := b0 0 _ rfl; have HS := Lib.hid hS1; clear hS hb hS1 b0)
    exact bodyPost_ret (v := .tuple #[.slice none 0 0, .bool false]) (by simp [results, Tryz.results12, go_sem]) rfl ⟨none, 0, [], rfl, rfl, HS.out.nilL.sublist (List.sublist_append_left _ _)⟩

set_option maxRecDepth 100000 in
set_option maxHeartbeats 8000000 in
theorem cornersI_yes (N : Nat) (hN : n = (N : Int)) (q : isGround n xs = true) (h4 : N ≤ 4) : Calls Tryz.prog 12 #[.agg #[.int .i64 n, .slice A xs.length cap]] w (RetLLO w (cornersTo xs N (ordersTo N N []) (ordersTo N N []).length) true) := by
  subst hN
  have HW := Lib.hid (St.start w)
  have HG := Lib.hid (fun W h1 => groundI_any (N : Int) A xs cap W (Lib.hid h1))
  rw [q] at HG
  obtain ⟨-, -, hlx, hvv⟩ := isFn_yes (ground_fn q)
  rw [Int.toNat_natCast] at hlx
  have hok := orders_ok N (by omega)
  have HC := Lib.hid (fun (p : List Int) (hp : p ∈ ordersTo N N []) W D d h1 h2 => by
    have hx := gainsI_any (N : Int) A xs cap D p d W (Lib.hid h1) (Lib.hid h2) N (fun i => (p.getD i 0).toNat) (hok p hp).2 (by omega) hlx hvv (fun i hi => (order_parts (hok p hp).1 (hok p hp).2 i hi).1) (fun i hi => (order_parts (hok p hp).1 (hok p hp).2 i hi).2)
    rw [← corner_gain xs N (p := p) (o := fun i => (p.getD i 0).toNat) N fun i hi => (order_parts (hok p hp).1 (hok p hp).2 i hi).1] at hx
    exact (show Calls Tryz.prog 35 #[.agg #[.int .i64 N, .slice A xs.length cap], .slice D p.length d] W (RetI W (cornerTo xs N p p.length)) from by rw [(hok p hp).2] at hx ⊢; exact hx))
  have HO := Lib.hid (fun W => ordersI_any N h4 W)
  rw [level_orders N (by omega)] at HO
  have HCL := Lib.hid (fun p => cornerTo_len xs N p p.length)
  have HST := Lib.hid (fun i => (by rfl : cornersTo xs N (ordersTo N N []) (i + 1) = addNew (cornersTo xs N (ordersTo N N []) i) (cornerTo xs N ((ordersTo N N []).getD i []) ((ordersTo N N []).getD i []).length)))
  have HLE := Lib.hid (cornersTo_len xs N (ordersTo N N []))
  have HAL := Lib.hid (cornersTo_all xs N (ordersTo N N []))
  have hz : cornersTo xs N (ordersTo N N []) 0 = [] := rfl
  have h256 : (ordersTo N N []).length ≤ 256 := Nat.le_trans (orders_len N N []) (Nat.le_trans (Nat.pow_le_pow_left h4 N) (Nat.pow_le_pow_right (by decide) h4))
  generalize cornersTo xs N (ordersTo N N []) = f at *
  generalize ordersTo N N [] = ps at *
  clear q hok hlx hvv
  have hN4 : ¬ (4 : Int) < (N : Int) := by omega
  obtain ⟨j0, hj, hy0, hy1, hy2⟩ := info_parts info_ints
  go_enter Tryz.func12, Tryz.ntmps12
  go_wp2_with (first
    | (go_at_call 33; refine St.use (w0 := w) (by exact HW.out.alloc _ _) ?_; intro hS; refine (HG.out _ ((h.out.below hS.base).mono hS.size)).mono ?_; rintro e w1 ⟨rfl, hb⟩; have hS1 := hS.below hb; obtain ⟨b0, -⟩ := hS1.box (i := 0) rfl; have b00 := b0 0 _ rfl; have HS := Lib.hid hS1; clear hS hb hS1 b0)
    | (go_at_call 34; refine (HO.out _).mono ?_; rintro e w2 ⟨G, c, es, rfl, hes, hS2⟩; have HS2 := Lib.hid (HS.out.join hS2); have HES := Lib.hid hes; clear hS2 hes b00))
  have HEM := Lib.hid (fun i (hi : i < es.length) => show ∃ Ae ce pe, es[i]? = some (Ae, ce, pe) ∧ ps.getD i [] = pe ∧ pe ∈ ps from
    ⟨es[i].1, es[i].2.1, es[i].2.2, by simp [hi], by rw [← HES.out]; simp [hi], by rw [← HES.out]; exact List.mem_map_of_mem (f := fun e : Ent => e.2.2) (List.getElem_mem hi)⟩)
  have hesl : es.length = ps.length := by rw [← HES.out, List.length_map]
  have HPL := Lib.hid hesl
  have hq256 : es.length ≤ 256 := by omega
  clear hesl h256
  go_loopw [4, 20] (fun v i wr => ∃ (k co : Nat) (V : Option Addr) (os : List Ent), i = .int .i64 k ∧ k ≤ es.length ∧ v = .slice V os.length co ∧ Hid (os.map (fun e => e.2.2) = f k) ∧ St w wr (lol (.slice V os.length co) os ++ (lol (.slice G es.length c) es ++ [bx w.heap.size 26 [.int .i64 N, .slice A xs.length cap]]))) (fun _ i _ => es.length - (intOf i).toNat)
  case atStart => exact ⟨0, 0, none, [], rfl, Nat.zero_le _, rfl, Lib.hid (by rw [hz]; rfl), HS2.out.nilL⟩
  case round =>
    obtain ⟨k, co, V, os, rfl, hk, rfl, HOS, hS⟩ := hrel
    clear HS2 hz
    have HR := Lib.hid hS
    clear hS
    by_cases hlt : k < es.length
    · have hki : (k : Int) < (es.length : Int) := by omega
      have hk0 : (0 : Int) ≤ (k : Int) := by omega
      obtain ⟨Ae, ce, pe, he, hpe, hmem⟩ := HEM.out k hlt
      have hst := HST.out k
      rw [hpe] at hst
      have HCI := Lib.hid (fun W D d h1 h2 => HC.out pe hmem W D d h1 h2)
      have hxl := HCL.out pe
      generalize cornerTo xs N pe pe.length = x at HCI hst hxl
      have HF := Lib.hid hst
      have d00 := HR.out.cell (g := w.heap.size) (t := 26) (cs := [.int .i64 N, .slice A xs.length cap]) (by simp [lol]) 0 _ rfl
      have d01 := HR.out.cell (g := w.heap.size) (t := 26) (cs := [.int .i64 N, .slice A xs.length cap]) (by simp [lol]) 1 _ rfl
      obtain ⟨g, rfl⟩ : ∃ g, G = some ⟨g, 0, none⟩ := (HR.out.rest_of (L1 := lol _ os)).ol_at (c := c) (i := 0) rfl hlt
      have d02 : wr.cell? ⟨g, k, none⟩ = some (.slice Ae pe.length ce) := (HR.out.rest_of (L1 := lol _ os)).cellL (i := 0) rfl he
      have HIP := Lib.hid (show Ints wr wr.heap.size Ae pe from HR.out.intsOf (e := (Ae, ce, pe)) (List.mem_append_right _ (List.mem_append_left _ (List.mem_cons_of_mem _ (List.mem_map_of_mem (List.mem_of_getElem? he))))))
      have hosl : (f k).length = os.length := by rw [← HOS.out, List.length_map]
      have hosk : os.length ≤ 1048576 := by have := HLE.out k; omega
      have HHS := Lib.hid (fun (W : World) (A5 : Option Addr) (c5 : Nat) h1 h2 => hasI_any V co os A5 x c5 W (Lib.hid h1) (Lib.hid h2) (fun e he => by
        have h1 : e.2.2 ∈ f k := by rw [← HOS.out]; exact List.mem_map_of_mem (f := fun e : Ent => e.2.2) he
        have := HAL.out k _ h1
        omega) hosk)
      rw [HOS.out] at HHS
      unfold addNew at hst
      rw [hosl] at hst
      clear he hpe hmem HF
      have HXL := Lib.hid hxl
      cases hfb : freshTo (f k) x os.length
      · rw [if_neg (by rw [hfb]; decide)] at hst
        rw [hfb] at HHS
        have HV := Lib.hid hst
        clear hst hfb hosl hxl
        go_wp2_with (first
          | (go_at_call 35; refine (HCI.out _ _ _ ((h.out.below HR.out.base).mono HR.out.size) HIP.out).mono ?_; rintro e w5 ⟨A5, c5, rfl, ho, hb5⟩; have HS5 := Lib.hid (HR.out.newI hb5 ho); clear ho hb5 d00 d01 d02)
          | (go_at_call 36; refine (HHS.out _ A5 c5 (HS5.out.lls (i := 1) rfl (fun e he => List.mem_cons_of_mem _ (List.mem_append_left _ (List.mem_cons_of_mem _ (List.mem_map_of_mem he))))) (HS5.out.ints (i := 0) rfl)).mono ?_; rintro e w6 ⟨rfl, hb6⟩; have HS6 := Lib.hid (HS5.out.below hb6); clear hb6))
        go_roundw
        case rel => exact ⟨k + 1, co, V, os, by go_num, by omega, rfl, Lib.hid (by rw [HOS.out, HV.out]), HS6.out.drop 0⟩
        case measure => simp [intOf]; omega
      · rw [if_pos hfb] at hst
        rw [hfb] at HHS
        have HV := Lib.hid hst
        clear hst hfb hosl hxl
        go_wp2_with (first
          | (go_at_call 35; refine (HCI.out _ _ _ ((h.out.below HR.out.base).mono HR.out.size) HIP.out).mono ?_; rintro e w5 ⟨A5, c5, rfl, ho, hb5⟩; have HS5 := Lib.hid (HR.out.newI hb5 ho); clear ho hb5 d00 d01 d02)
          | (go_at_call 36; refine (HHS.out _ A5 c5 (HS5.out.lls (i := 1) rfl (fun e he => List.mem_cons_of_mem _ (List.mem_append_left _ (List.mem_cons_of_mem _ (List.mem_map_of_mem he))))) (HS5.out.ints (i := 0) rfl)).mono ?_; rintro e w6 ⟨rfl, hb6⟩; have HS6 := Lib.hid (HS5.out.below hb6); clear hb6)
          | (at_builtin; refine wpList_appL1 rfl (.tmp 31) (.tmp 33) 32 rfl (A5, c5, x) Tryz.underlying32 hj hy0 hy1 hy2 ((HS6.out.alloc _ _).drop 0) (i := 1) rfl rfl rfl rfl (((HS6.out.alloc _ _).box (i := 0) rfl).1 0 _ rfl) hosk ?_; intro g8 c8 w8 hS8; have HS8 := Lib.hid (show St w w8 (lol (.slice (some ⟨g8, 0, none⟩) (os ++ [((A5, c5, x) : Ent)]).length c8) (os ++ [((A5, c5, x) : Ent)]) ++ _) from St.into hS8); clear hS8))
        go_roundw
        case rel => exact ⟨k + 1, c8, some ⟨g8, 0, none⟩, os ++ [(A5, c5, x)], by go_num, by omega, by rw [List.length_append]; rfl, Lib.hid (by rw [List.map_append, HOS.out, HV.out]; rfl), HS8.out⟩
        case measure => simp [intOf]; omega
    · obtain rfl : k = es.length := by omega
      have hki : ¬ (es.length : Int) < (es.length : Int) := by omega
      go_wp2
      exact bodyPost_ret (v := .tuple #[.slice V os.length co, .bool true]) (by simp [results, Tryz.results12, go_sem]) rfl ⟨V, co, os, rfl, by rw [HOS.out, HPL.out], HR.out.sublist (List.sublist_append_left _ _)⟩

theorem cornersI_any : Calls Tryz.prog 12 #[.agg #[.int .i64 n, .slice A xs.length cap]] w (RetLLO w (cornersOf n xs).1 (cornersOf n xs).2) := by
  unfold cornersOf
  cases q : isGround n xs
  · rw [if_neg (by simp)]
    exact cornersI_no n A xs cap w h (.inl q)
  · by_cases h4 : n ≤ 4
    · rw [if_pos ⟨rfl, h4⟩]
      obtain ⟨n0, -, -, -⟩ := isFn_yes (ground_fn q)
      obtain ⟨N, rfl⟩ := Int.eq_ofNat_of_zero_le n0
      exact cornersI_yes (N : Int) A xs cap w h N rfl q (by omega)
    · rw [if_neg fun hh => h4 hh.2]
      exact cornersI_no n A xs cap w h (.inr ⟨q, by omega⟩)

theorem cornersS_anyO : Calls Tryz.prog 13 #[.agg #[.int .i64 n, .slice A xs.length cap]] w (RetLLO w (cornersOf n xs).1 (cornersOf n xs).2) :=
  (cornersS_any n A xs cap w h).mono fun _ _ ⟨g, c, es, h1, h2, h3⟩ => ⟨some ⟨g, 0, none⟩, c, es, h1, h2, h3⟩

end

theorem corners_small (n : Int) (xs : List Int) : (cornersOf n xs).1.length ≤ 1048576 ∧ ∀ y ∈ (cornersOf n xs).1, y.length ≤ 1048576 := by
  unfold cornersOf
  by_cases q : isGround n xs = true ∧ n ≤ 4
  · rw [if_pos q]
    have h1 := cornersTo_len xs n.toNat (ordersTo n.toNat n.toNat []) (ordersTo n.toNat n.toNat []).length
    have h4 : n.toNat ≤ 4 := by omega
    have h2 : (ordersTo n.toNat n.toNat []).length ≤ 256 := Nat.le_trans (orders_len n.toNat n.toNat []) (Nat.le_trans (Nat.pow_le_pow_left h4 n.toNat) (Nat.pow_le_pow_right (by decide) h4))
    refine ⟨by dsimp only; omega, fun y hy => ?_⟩
    have := cornersTo_all xs n.toNat _ _ y hy
    omega
  · rw [if_neg q]
    exact ⟨by decide, fun y hy => by cases hy⟩

end Go.Proofs.YtffbiflgmlabaaaGreatDoor.C
