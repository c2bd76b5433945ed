/-
  The contracts of the library's slices.Index, Contains, Grow, Concat and ContainsFunc, as impl's chapter 8 calls them.
-/
import Derived.Test.YtpefnfkodcidkaaLolH
import Derived.Test.YtpefnfkodcidkaaLolJ
import Derived.Test.YtpefnfkodcidkaaBsY
import Derived.Test.YtpefnfkodcidkaaAppN
import Derived.Deep.QuietTactic
namespace Go.Proofs.Ytpefnfkodcidkaa.M
theorem used_yes {p : List Int} {x : Int} {k : Nat} (hx : p.getD k 0 = x) : ∀ m, k < m → usedTo p x m = true
  | 0, h => absurd h (by omega)
  | m + 1, h => by
    unfold usedTo
    by_cases e : k = m
    · subst e
      rw [hx, beq_self_eq_true, Bool.or_true]
    · rw [used_yes hx m (by omega), Bool.true_or]

end Go.Proofs.Ytpefnfkodcidkaa.M
namespace Go.Proofs.Ytpefnfkodcidkaa.K
open Go.RowKit
set_option linter.unusedVariables false
set_option linter.unusedSimpArgs false

theorem run_append_make {P : Program} (w : World) (t u ty e : TypeId) (k : IntKind) (i : TypeInfo) (z : Value) (ht : P.underlying t = some (.slice e)) (hu : P.underlying u = some (.int k)) (hi : P.info? e = some i) (hz : i.zero = some z)
    (n : Nat) (h0 : 0 < n) (hsz : 0 < i.size) (hn : n ≤ 1048576) (hb : i.bytes ≤ 8) :
    (Builtin.append_ #[t, u] ty #[.slice none 0 0, .int .i64 n]).run P w =
      .ok (.slice (some ⟨w.heap.size, 0, none⟩) n (grownCap w n 0 e)) (w.drew.alloc (.cells (Builtin.zeroCells z.cells n ++ Builtin.zeroCells z.cells (grownCap w n 0 e - n)) e)) := by
  have hne : n ≠ 0 := by omega
  have hm : n * i.size ≠ 0 := Nat.mul_ne_zero hne (by omega)
  have h63 : ¬ (9223372036854775807 < (n : Int)) := by omega
  have hwr : IntKind.i64.wrap (n : Int) = (n : Int) := IntWalk.i64_in _ (by omega)
  have hnb : n * i.bytes ≤ 1048576 * 8 := Nat.mul_le_mul hn hb
  have h48 : ¬ (281474976710656 < Builtin.nextslicecap n 0 * i.bytes) := by rw [nextslicecap_zero h0]; omega
  have hneg : ¬ ((n : Int) < 0) := by omega
  have hbig : ¬ (281474976710656 < (n : Int) * (i.bytes : Int)) := by
    have : ((n * i.bytes : Nat) : Int) ≤ 1048576 * 8 := by omega
    rw [Int.natCast_mul] at this
    omega
  have hmax : max (n : Int) 0 = (n : Int) := by omega
  have hle : ¬ ((n : Int) ≤ 0) := by omega
  simp [Builtin.append_, run_underlying ht, run_underlying hu, sizeOf, typeInfo, zeroValue, hi, hz, asInt, asIntOf, hwr, hmax, hle, hneg, hbig, hne, hm, h63, h48, Question.forced, run_firstCells_none, newRow, grownCap]


section

variable {w0 w w' : World} {L L' : List Cel}
/-- 'append(nil, make([]int, n)...)': n numbers in a block of their own. -/
theorem wp_make0 {o' : Oper} {a : Act} {K : Act → World → Prop} {Q : Exit → Act → World → Prop} (s x : Operand) (t u : TypeId)
    (ho : o'.op = .call { callee := .builtin .append, args := #[s, x], argTypes := #[t, u] }) {o : TypeInfo} {kd : IntKind} (ht : Try.prog.underlying t = some (.slice 3)) (hu : Try.prog.underlying u = some (.int kd))
    (hio : Try.prog.info? 3 = some o) (hz : o.zero = some (.int .i64 0)) (hsz : o.size = 1) (hy : o.bytes = 8)
    (h : St w0 w L) (n : Nat) (h0 : 0 < n) (hn : n ≤ 1048576) (hs : a.eval s = .slice none 0 0) (hx : a.eval x = .int .i64 n)
    (hK : ∀ g c w', St w0 w' (⟨3, 1, .slice (some ⟨g, 0, none⟩) n c, n, (Builtin.zeroCells #[.int .i64 0] n).toList⟩ :: L) → K (a.put o'.dst (.slice (some ⟨g, 0, none⟩) n c)) w') : o'.wp Try.prog a w K Q := by
  have hr := run_append_make w t u o'.type 3 kd o (.int .i64 0) ht hu hio hz n h0 (by omega) hn (by omega)
  have hge := grownCap_ge w n 0 3
  have hcm : grownCap w n 0 3 ≤ maxLen := grownCap_le_maxLen w n 0 3 (by unfold maxLen; omega)
  have hS := hK w.heap.size (grownCap w n 0 3) (w.drew.alloc (.cells (Builtin.zeroCells #[.int .i64 0] n ++ Builtin.zeroCells #[.int .i64 0] (grownCap w n 0 3 - n)) 3)) (by
    refine h.new ((Below.refl _ w).drew.alloc (by simp) _) ⟨?_, .inr ⟨w.heap.size, _, _, rfl, by simp, heap_alloc_new w.drew _, hge, hcm, ?_, ?_⟩⟩
    · rw [Array.length_toList, size_zeroCells]; rfl
    · rw [Array.size_append, size_zeroCells, size_zeroCells]; show n * 1 + (grownCap w n 0 3 - n) * 1 = grownCap w n 0 3 * 1; omega
    · rw [Array.toList_append]
      exact List.take_left' (by rw [Array.length_toList, size_zeroCells]; rfl))
  unfold Oper.wp execOp
  simp only [ho, resolve, invoke, builtin, Sem.run_bind, Sem.run_pure, Result.andThen_ok, List.map_toArray, List.map_cons, List.map_nil, hs, hx]
  rw [hr]
  exact hS
theorem wpList_make0 {ops : Array Oper} {rest : List Oper} {o' : Oper} {a : Act} {Q : Exit → Act → World → Prop} (hgd : o'.guard = none) (s x : Operand) (t u : TypeId)
    (ho : o'.op = .call { callee := .builtin .append, args := #[s, x], argTypes := #[t, u] }) {o : TypeInfo} {kd : IntKind} (ht : Try.prog.underlying t = some (.slice 3)) (hu : Try.prog.underlying u = some (.int kd))
    (hio : Try.prog.info? 3 = some o) (hz : o.zero = some (.int .i64 0)) (hsz : o.size = 1) (hy : o.bytes = 8)
    (h : St w0 w L) (n : Nat) (h0 : 0 < n) (hn : n ≤ 1048576) (hs : a.eval s = .slice none 0 0) (hx : a.eval x = .int .i64 n)
    (hK : ∀ g c w', St w0 w' (⟨3, 1, .slice (some ⟨g, 0, none⟩) n c, n, (Builtin.zeroCells #[.int .i64 0] n).toList⟩ :: L) → wpList Try.prog ops Q rest (a.put o'.dst (.slice (some ⟨g, 0, none⟩) n c)) w') : wpList Try.prog ops Q (o' :: rest) a w :=
  wpList_plain hgd fun _ hk => wp_make0 s x t u ho ht hu hio hz hsz hy h n h0 hn hs hx fun g c w' h2 => hk _ _ (hK g c w' h2)
/-- A row's empty head. -/
theorem St.head0 {g c n : Nat} {cs : List Value} (h : St w0 w (⟨3, 1, .slice (some ⟨g, 0, none⟩) n c, n, cs⟩ :: L)) : St w0 w (il (.slice (some ⟨g, 0, none⟩) 0 c) 0 [] :: L) := by
  refine ⟨h.1, fun r hr => ?_, ?_⟩
  · rcases List.mem_cons.1 hr with rfl | hr
    · have ho := h.2.1 _ (List.mem_cons_self ..)
      refine ⟨rfl, ?_⟩
      rcases ho.2 with ⟨e, _⟩ | ⟨g', cap, cur, hv, h1, h2, h3, h4, h5, h6⟩
      · cases e
      · injection hv with e1 e2 e3
        injection e1 with e1
        injection e1 with e1
        subst e1 e3
        exact .inr ⟨g, c, cur, rfl, h1, h2, Nat.zero_le _, h4, h5, by show cur.toList.take (0 * 1) = []; rfl⟩
    · exact h.2.1 r (List.mem_cons_of_mem _ hr)
  · have hp := List.pairwise_cons.1 h.2.2
    exact .cons (fun r hr k hk => hp.1 r hr k hk) hp.2

end


end Go.Proofs.Ytpefnfkodcidkaa.K
namespace Go.Proofs.Ytpefnfkodcidkaa.C
open Go.RowKit K M
set_option linter.unusedVariables false
set_option linter.unusedSimpArgs false

set_option maxRecDepth 100000 in
theorem indexI_any (A : Option Addr) (p : List Int) (cap : Nat) (x : Int) (w : World) (h : Hid (Ints w w.heap.size A p)) (hl : p.length ≤ 1048576) :
    Calls Try.prog 42 #[.slice A p.length cap, .int .i64 x] w fun e w' => ∃ r : Int, e = .returned (.int .i64 r) ∧ decide (0 ≤ r) = usedTo p x p.length ∧ w = w' := by
  have HU := Lib.hid (fun i => show usedTo p x (i + 1) = (usedTo p x i || (p.getD i 0 == x)) from rfl)
  have HY := Lib.hid (fun k (hk : k < p.length) hx => used_yes (p := p) (x := x) (k := k) hx p.length hk)
  have h0 : usedTo p x 0 = false := rfl
  obtain ⟨m, hm⟩ : ∃ m, p.length = m := ⟨_, rfl⟩
  have HX := Lib.hid hm
  rw [hm] at hl HY ⊢
  generalize usedTo p x = f at *
  clear hm
  go_enter Try.func42, Try.ntmps42
  go_wp2
  go_loop [8] (fun i => ∃ k : Nat, k ≤ m ∧ i = .int .i64 k ∧ Hid (f k = false)) (fun i => m - (intOf i).toNat)
  case atStart => exact ⟨0, Nat.zero_le _, rfl, Lib.hid h0⟩
  case round =>
    obtain ⟨k, hk, rfl, hf⟩ := hrel
    clear h0
    by_cases hlt : k < m
    · obtain ⟨b, off, rfl, hbl, hc⟩ := h.out.at_ (k := k) (by rw [HX.out]; exact hlt)
      have hk0 : (0 : Int) ≤ (k : Int) := by omega
      have hkn : (k : Int) < (m : Int) := by omega
      have hu := HU.out k
      have hy := HY.out k hlt
      generalize p.getD k 0 = y at hc hu hy
      by_cases hyx : y = x
      · have HF := Lib.hid (hy hyx)
        have hbe : (x == y) = true := by rw [hyx]; exact beq_self_eq_true _
        clear hu hy hyx
        go_wp2
        go_ret
        exact ⟨(k : Int), rfl, by rw [HF.out]; exact decide_eq_true hk0, rfl⟩
      · have hbe : (x == y) = false := beq_eq_false_iff_ne.2 fun e => hyx e.symm
        rw [hf.out, Bool.false_or, beq_eq_false_iff_ne.2 hyx] at hu
        have HF := Lib.hid hu
        clear hu hy hyx
        go_wp2
        go_round
        case rel => exact ⟨k + 1, by omega, by go_num, HF⟩
        case measure => simp [intOf]; omega
    · obtain rfl : k = m := by omega
      have hkn : ¬ (k : Int) < (k : Int) := by omega
      go_wp2
      go_ret
      exact ⟨-1, rfl, by rw [hf.out]; rfl, rfl⟩

theorem containsI_any (A : Option Addr) (p : List Int) (cap : Nat) (x : Int) (w : World) (h : Hid (Ints w w.heap.size A p)) (hl : p.length ≤ 1048576) :
    Calls Try.prog 37 #[.slice A p.length cap, .int .i64 x] w fun e w' => e = .returned (.bool (usedTo p x p.length)) ∧ w = w' := by
  have HI := Lib.hid (indexI_any A p cap x w h hl)
  generalize usedTo p x p.length = b at *
  generalize p.length = m at *
  clear h hl
  go_enter Try.func37, Try.ntmps37
  go_wp2_with (go_at_call 42; refine HI.out.mono ?_; rintro e w' ⟨r, rfl, hr, rfl⟩)
  go_ret
  exact ⟨by rw [← hr]; rfl, rfl⟩

set_option maxRecDepth 100000 in
set_option maxHeartbeats 1000000 in
theorem growI_any (n : Nat) (h0 : 0 < n) (hn : n ≤ 1048576) (w : World) :
    Calls Try.prog 43 #[.slice none 0 0, .int .i64 n] w fun e w' => ∃ g c, e = .returned (.slice (some ⟨g, 0, none⟩) 0 c) ∧ St w w' [il (.slice (some ⟨g, 0, none⟩) 0 c) 0 []] := by
  have HW := Lib.hid (St.start w)
  obtain ⟨i0, hi, hz0, hz1, hz2⟩ := info_parts info_int
  have h1 : ¬ ((n : Int) < 0) := by omega
  have h2 : (0 : Int) < (n : Int) := by omega
  go_enter Try.func43, Try.ntmps43
  go_wp2_with (at_builtin; refine wpList_make0 rfl (.tmp 20) (.tmp 21) 22 3 rfl Try.underlying22 Try.underlying3 hi hz0 hz1 hz2 HW.out n h0 hn rfl rfl ?_; intro g c w1 hS1; have HS1 := Lib.hid hS1; clear hS1)
  go_ret
  exact ⟨g, c, rfl, HS1.out.head0⟩

end Go.Proofs.Ytpefnfkodcidkaa.C
