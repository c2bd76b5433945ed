/-
  The contracts of the library's slices.Concat of two lists and slices.ContainsFunc with impl.hasList's closure, and of impl.hasList.
-/
import Derived.Test.YtpefnfkodcidkaaSlc
import Derived.Laws.EntriesVeiled
namespace Go.Proofs.Ytpefnfkodcidkaa.K
open Go.RowKit
set_option linter.unusedVariables false


section

variable {w0 w w' : World} {L L' : List Cel}
/-- A nil list appended: nothing turns. -/
theorem wpList_app0 {ops : Array Oper} {rest : List Oper} {o' : Oper} {a : Act} {Q : Exit → Act → World → Prop} (hgd : o'.guard = none) (s x : Operand) (t : TypeId)
    (ho : o'.op = .call { callee := .builtin .append, args := #[s, x], argTypes := #[t, t] })
    {i n : Nat} {v : Value} {xs : List Int} {o : TypeInfo} (ht : Try.prog.underlying t = some (.slice 3)) (hio : Try.prog.info? 3 = some o)
    (h : St w0 w L) (hi : L[i]? = some (il v n xs)) (hs : a.eval s = v) (hx : a.eval x = .slice none 0 0)
    (hK : wpList Try.prog ops Q rest (a.put o'.dst v) w) : wpList Try.prog ops Q (o' :: rest) a w :=
  wpList_plain hgd fun _ hk => by
    have hr := run_append_owned_none (P := Try.prog) (w := w) w0.heap.size t o'.type 3 o 1 ht hio v n (ints xs) (h.own hi)
    unfold Oper.wp execOp
    simp only [ho, resolve, invoke, builtin, Sem.run_bind, Sem.run_pure, Result.andThen_ok, List.map_toArray, List.map_cons, List.map_nil, hs, hx]
    rw [hr]
    exact hk _ _ hK
/-- One list more behind an outer row, be it nil. -/
theorem run_appL1 {i c b off c2 : Nat} {G : Option Addr} {es : List Ent} {e1 : Ent} {t ty : TypeId} {o : TypeInfo} (ht : Try.prog.underlying t = some (.slice 22)) (hio : Try.prog.info? 22 = some o) (hz : o.zero = some (.slice none 0 0)) (hs : o.size = 1) (hy : o.bytes = 24)
    (h : St w0 w L) (hi : L[i]? = some (ol (.slice G es.length c) es)) (hc : w.cell? ⟨b, off, none⟩ = some (sv e1)) (hn : es.length ≤ 1048576) :
    ∃ g' c' w', (Builtin.append_ #[t, t] ty #[.slice G es.length c, .slice (some ⟨b, off, none⟩) 1 c2]).run Try.prog w = .ok (.slice (some ⟨g', 0, none⟩) (es ++ [e1]).length c') w' ∧ St w0 w' (L.set i (ol (.slice (some ⟨g', 0, none⟩) (es ++ [e1]).length c') (es ++ [e1]))) := by
  obtain ⟨v', w', hr, h2, h3, h4, h5⟩ := run_append_own_at (P := Try.prog) w w0.heap.size t ty 22 o (.slice none 0 0) 1 24 ht hio hz hs hy rfl (by decide) _ es.length (es.map sv) (h.own hi) ⟨b, off, none⟩ 1 c2 ([e1].map sv) (by simp) (fun j u hu => by
      have hj : j = 0 := by
        have := (List.getElem?_eq_some_iff.1 hu).1
        simpa using this
      subst hj
      cases hu
      exact hc) (sv_one [e1]) (by unfold maxLen; omega) (by omega) h.size
  have hl1 : es.length + 1 = (es ++ [e1]).length := by rw [List.length_append]; rfl
  rw [hl1] at h2
  obtain ⟨g', cap, hv'⟩ : ∃ g' cap, v' = .slice (some ⟨g', 0, none⟩) (es ++ [e1]).length cap := by
    rcases h2.2 with ⟨e, _⟩ | ⟨g', cap, _, e, _⟩
    · exact absurd (h4.1 e).2 (by decide)
    · exact ⟨g', cap, e⟩
  subst hv'
  refine ⟨g', cap, w', hr, ?_⟩
  have := h.app hi h3 h2 h5
  rw [show es.map sv ++ [e1].map sv = (es ++ [e1]).map sv from List.map_append.symm] at this
  exact this
theorem wpList_appL1 {ops : Array Oper} {rest : List Oper} {o' : Oper} {a : Act} {Q : Exit → Act → World → Prop} (hgd : o'.guard = none) (s x : Operand) (t : TypeId)
    (ho : o'.op = .call { callee := .builtin .append, args := #[s, x], argTypes := #[t, t] })
    {i c b off c2 n : Nat} {G : Option Addr} {es : List Ent} (e1 : Ent) {o : TypeInfo} (ht : Try.prog.underlying t = some (.slice 22)) (hio : Try.prog.info? 22 = some o) (hz : o.zero = some (.slice none 0 0)) (hsz : o.size = 1) (hy : o.bytes = 24)
    (h : St w0 w L) (hi : L[i]? = some (ol (.slice G es.length c) es)) (hs : a.eval s = .slice G n c) (hx : a.eval x = .slice (some ⟨b, off, none⟩) 1 c2) (hne : es.length = n) (hc : w.cell? ⟨b, off, none⟩ = some (sv e1)) (hn : n ≤ 1048576)
    (hK : ∀ g' c' w', St w0 w' (L.set i (ol (.slice (some ⟨g', 0, none⟩) (es ++ [e1]).length c') (es ++ [e1]))) → wpList Try.prog ops Q rest (a.put o'.dst (.slice (some ⟨g', 0, none⟩) (es ++ [e1]).length c')) w') : wpList Try.prog ops Q (o' :: rest) a w :=
  wpList_plain hgd fun _ hk => by
    subst hne
    obtain ⟨g', c', w', hr, h2⟩ := run_appL1 (ty := o'.type) (c2 := c2) ht hio hz hsz hy h hi hc hn
    unfold Oper.wp execOp
    simp only [ho, resolve, invoke, builtin, Sem.run_bind, Sem.run_pure, Result.andThen_ok, List.map_toArray, List.map_cons, List.map_nil, hs, hx]
    rw [hr]
    exact hk _ _ (hK g' c' w' h2)

end


end Go.Proofs.Ytpefnfkodcidkaa.K
namespace Go.Proofs.Ytpefnfkodcidkaa.C
open Go.RowKit K M
set_option linter.unusedVariables false
set_option linter.unusedSimpArgs false

/-- A list to be appended: nil, or one that holds something. -/
def Src (A : Option Addr) (c : Nat) (p : List Int) : Prop := (A = none ∧ c = 0 ∧ p = []) ∨ 0 < p.length

set_option maxRecDepth 100000 in
set_option maxHeartbeats 4000000 in
theorem concatI_any (gb c : Nat) (A0 : Option Addr) (c0 : Nat) (p : List Int) (A1 : Option Addr) (c1 : Nat) (q : List Int) (w : World) (k0 : w.cell? ⟨gb, 0, none⟩ = some (.slice A0 p.length c0)) (k1 : w.cell? ⟨gb, 1, none⟩ = some (.slice A1 q.length c1)) (lb : gb < w.heap.size)
    (i0 : Hid (Ints w w.heap.size A0 p)) (i1 : Hid (Ints w w.heap.size A1 q)) (s0 : Src A0 c0 p) (hq : 0 < q.length) (hpl : p.length ≤ 1000) (hql : q.length ≤ 1000) :
    Calls Try.prog 38 #[.slice (some ⟨gb, 0, none⟩) 2 c] w (RetI w (p ++ q)) := by
  have HW := Lib.hid (St.start w)
  have HK0 := Lib.hid k0
  have HK1 := Lib.hid k1
  obtain ⟨j0, hi, hz0, hz1, hz2⟩ := info_parts info_int
  have hlen : (p ++ q).length = p.length + q.length := List.length_append
  obtain ⟨m, hm⟩ : ∃ m, p.length = m := ⟨_, rfl⟩
  obtain ⟨l, hl⟩ : ∃ l, q.length = l := ⟨_, rfl⟩
  have HM := Lib.hid hm
  have HL := Lib.hid hl
  have HS := Lib.hid s0
  have HG := Lib.hid (growI_any (m + l) (by omega) (by omega) w)
  rw [hm] at k0 hpl hlen
  rw [hl] at k1 hql hlen hq
  have hw1 : IntKind.i64.wrap (m : Int) = (m : Int) := IntWalk.i64_in _ (by omega)
  have hw2 : IntKind.i64.wrap ((m : Int) + (l : Int)) = ((m + l : Nat) : Int) := by rw [IntWalk.i64_in _ (by omega)]; omega
  have hw3 : IntKind.i64.wrap (0 + (m : Int)) = (m : Int) := by rw [Int.zero_add]; exact hw1
  clear s0 hm hl
  go_enter Try.func38, Try.ntmps38
  go_wp2
  go_loop [3, 11] (fun t i => (i = .int .i64 0 ∧ t = .int .i64 0) ∨ (i = .int .i64 1 ∧ t = .int .i64 m) ∨ (i = .int .i64 2 ∧ t = .int .i64 (m + l : Nat))) (fun _ i => 2 - (intOf i).toNat)
  case atStart => exact .inl ⟨rfl, rfl⟩
  case round =>
    rcases hrel with ⟨rfl, rfl⟩ | ⟨rfl, rfl⟩ | ⟨rfl, rfl⟩
    · have hn0 : ¬ ((m : Int) < 0) := by omega
      go_wp2
      go_round
      case rel => exact .inr (.inl ⟨by go_num, by go_num⟩)
      case measure => simp [intOf]
    · have hn0 : ¬ (((m + l : Nat) : Int) < 0) := by omega
      go_wp2
      go_round
      case rel => exact .inr (.inr ⟨by go_num, rfl⟩)
      case measure => simp [intOf]
    · go_wp2_with (go_at_call 43; refine HG.out.mono ?_; rintro e w1 ⟨g, cc, rfl, hS1⟩; have HS1 := Lib.hid hS1; clear hS1)
      clear k0 k1
      go_loopw [6, 27] (fun v i wr => ∃ (k : Nat) (g' c' n : Nat) (ys : List Int), i = .int .i64 k ∧ v = .slice (some ⟨g', 0, none⟩) n c' ∧ n ≤ 2000 ∧ ((k = 0 ∧ n = 0 ∧ ys = []) ∨ (k = 1 ∧ n = m ∧ ys = p) ∨ (k = 2 ∧ n = m + l ∧ ys = p ++ q)) ∧ St w wr [il (.slice (some ⟨g', 0, none⟩) n c') n ys]) (fun _ i _ => 2 - (intOf i).toNat)
      case atStart => exact ⟨0, g, cc, 0, [], rfl, rfl, by omega, .inl ⟨rfl, rfl, rfl⟩, HS1.out⟩
      case round =>
        obtain ⟨k, g', c', n, ys, rfl, rfl, hn, hk, hS⟩ := hrel
        have e0 := (hS.base.cell (p := ⟨gb, 0, none⟩) lb).trans HK0.out
        have e1 := (hS.base.cell (p := ⟨gb, 1, none⟩) lb).trans HK1.out
        rw [HM.out] at e0
        rw [HL.out] at e1
        have HR := Lib.hid hS
        clear HS1 hS
        rcases hk with ⟨rfl, rfl, rfl⟩ | ⟨rfl, rfl, rfl⟩ | ⟨rfl, rfl, rfl⟩
        · rcases HS.out with ⟨rfl, rfl, hp⟩ | hp
          · have hm0 : m = 0 := by rw [← HM.out, hp]; rfl
            rw [hm0] at e0
            have HM0 := Lib.hid hm0
            clear hm0
            go_wp2_with (at_builtin; refine wpList_app0 rfl (.tmp 31) (.tmp 32) 22 rfl Try.underlying22 hi HR.out (i := 0) rfl rfl rfl ?_)
            go_roundw
            case rel => exact ⟨1, g', c', 0, [], by go_num, rfl, by omega, .inr (.inl ⟨rfl, HM0.out.symm, hp.symm⟩), HR.out⟩
            case measure => simp [intOf]
          · rw [HM.out] at hp
            obtain ⟨b, off, rfl, hbl, hcc⟩ := i0.out (by rw [HM.out]; exact hp)
            have HC := Lib.hid (fun j (hj : j < m) => (HR.out.base.cell (p := ⟨b, off + j, none⟩) hbl).trans (hcc j (by rw [HM.out]; exact hj)))
            clear hcc
            go_wp2_with (at_builtin; refine wpList_appN rfl (.tmp 31) (.tmp 32) 22 rfl p Try.underlying22 hi hz0 hz1 hz2 HR.out (i := 0) rfl HM.out rfl rfl HC.out (by simp) (by omega) (by omega) (Nat.zero_add m) ?_; intro g5 c5 w5 hS5; have HB5 := Lib.hid hS5; clear hS5)
            go_roundw
            case rel => exact ⟨1, g5, c5, m, p, by go_num, rfl, by omega, .inr (.inl ⟨rfl, rfl, rfl⟩), HB5.out⟩
            case measure => simp [intOf]
        · obtain ⟨b, off, rfl, hbl, hcc⟩ := i1.out (by rw [HL.out]; exact hq)
          have HC := Lib.hid (fun j (hj : j < l) => (HR.out.base.cell (p := ⟨b, off + j, none⟩) hbl).trans (hcc j (by rw [HL.out]; exact hj)))
          clear hcc
          go_wp2_with (at_builtin; refine wpList_appN rfl (.tmp 31) (.tmp 32) 22 rfl q Try.underlying22 hi hz0 hz1 hz2 HR.out (i := 0) rfl HL.out rfl rfl HC.out (by simp) (by omega) (by omega) rfl ?_; intro g5 c5 w5 hS5; have HB5 := Lib.hid hS5; clear hS5)
          go_roundw
          case rel => exact ⟨2, g5, c5, n + l, _, by go_num, rfl, by omega, .inr (.inr ⟨rfl, rfl, rfl⟩), HB5.out⟩
          case measure => simp [intOf]
        · go_wp2
          go_ret
          exact ⟨some ⟨g', 0, none⟩, c', by rw [hlen]; rfl, by rw [hlen]; exact HR.out.ownI (i := 0) rfl, HR.out.base⟩

end Go.Proofs.Ytpefnfkodcidkaa.C
