/-
  Texts that are drawn.
-/
import Derived.Test.YtielfnjkfceliaaGreatDoorDrawG
namespace Go.Proofs.YtielfnjkfceliaaGreatDoor.C
open Go.RowKit M K
set_option linter.unusedVariables false
set_option linter.unusedSimpArgs false

/-- A list of bytes. -/
def rb (v : Value) (n : Nat) (l : List UInt8) : Cel := ⟨5, 1, v, n, cellsOf l⟩


section

variable {w0 w w' : World} {L : List Cel}
theorem run_app1b {i n g : Nat} {v : Value} {xs : List UInt8} {y : Int} (hy0 : 0 ≤ y) (hy1 : y ≤ 255) {t ty : TypeId} {o : TypeInfo} (ht : Tryz.prog.underlying t = some (.slice 5)) (hio : Tryz.prog.info? 5 = some o) (hz : o.zero = some (.int .u8 0)) (hs : o.size = 1) (hy : o.bytes = 1)
    (h : St w0 w L) (hi : L[i]? = some (rb v n xs)) (hc : w.cell? ⟨g, 0, none⟩ = some (.int .u8 y)) (hn : n ≤ 1048576) :
    ∃ A' c' w', (Builtin.append_ #[t, t] ty #[v, .slice (some ⟨g, 0, none⟩) 1 1]).run Tryz.prog w = .ok (.slice A' (n + 1) c') w' ∧ St w0 w' (L.set i (rb (.slice A' (n + 1) c') (n + 1) (xs ++ [UInt8.ofNat y.toNat]))) := by
  obtain ⟨v', w', hr, h2, h3, _, h5⟩ := run_append_own_at (P := Tryz.prog) w w0.heap.size t ty 5 o (.int .u8 0) 1 1 ht hio hz hs hy rfl (by decide) v n (cellsOf xs) (h.own hi) ⟨g, 0, none⟩ 1 1 [.int .u8 y] rfl (fun j u hu => by
      have : j = 0 := by
        have := (List.getElem?_eq_some_iff.1 hu).1
        simpa using this
      subst this
      rw [List.getElem?_cons_zero] at hu
      cases hu
      simpa [Addr.add] using hc) (fun u hu => by simp at hu; subst hu; rfl) (by unfold maxLen; omega) (by omega) h.size
  obtain ⟨g', cap, hv, _⟩ := h2.form (by omega)
  subst hv
  refine ⟨_, cap, w', hr, ?_⟩
  have := h.app hi h3 h2 h5
  rw [cellsOf_snoc xs y hy0 hy1] at this
  exact this

theorem wp_app1b {o' : Oper} {a : Act} {K : Act → World → Prop} {Q : Exit → Act → World → Prop} (s x : Operand) (t : TypeId)
    (ho : o'.op = .call { callee := .builtin .append, args := #[s, x], argTypes := #[t, t] })
    {i n g : Nat} {v : Value} {xs : List UInt8} (y : Int) (hy0 : 0 ≤ y) (hy1 : y ≤ 255) {o : TypeInfo} (ht : Tryz.prog.underlying t = some (.slice 5)) (hio : Tryz.prog.info? 5 = some o) (hz : o.zero = some (.int .u8 0)) (hsz : o.size = 1) (hy : o.bytes = 1)
    (h : St w0 w L) (hi : L[i]? = some (rb v n xs)) (hs : a.eval s = v) (hx : a.eval x = .slice (some ⟨g, 0, none⟩) 1 1) (hc : w.cell? ⟨g, 0, none⟩ = some (.int .u8 y)) (hn : n ≤ 1048576)
    (hK : ∀ A' c' w', St w0 w' (L.set i (rb (.slice A' (n + 1) c') (n + 1) (xs ++ [UInt8.ofNat y.toNat]))) → K (a.put o'.dst (.slice A' (n + 1) c')) w') : o'.wp Tryz.prog a w K Q := by
  obtain ⟨A', c', w', hr, h2⟩ := run_app1b (ty := o'.type) hy0 hy1 ht hio hz hsz hy h hi hc hn
  unfold Oper.wp execOp
  simp only [ho, resolve, invoke, builtin, Sem.run_bind, Sem.run_pure, Result.andThen_ok, List.map_toArray, List.map_cons, List.map_nil, hs, hx, hr]
  exact hK _ _ _ h2

theorem wpList_app1b {ops : Array Oper} {rest : List Oper} {o' : Oper} {a : Act} {Q : Exit → Act → World → Prop} (hgd : o'.guard = none) (s x : Operand) (t : TypeId)
    (ho : o'.op = .call { callee := .builtin .append, args := #[s, x], argTypes := #[t, t] })
    {i n g : Nat} {v : Value} {xs : List UInt8} (y : Int) (hy0 : 0 ≤ y) (hy1 : y ≤ 255) {o : TypeInfo} (ht : Tryz.prog.underlying t = some (.slice 5)) (hio : Tryz.prog.info? 5 = some o) (hz : o.zero = some (.int .u8 0)) (hsz : o.size = 1) (hy : o.bytes = 1)
    (h : St w0 w L) (hi : L[i]? = some (rb v n xs)) (hs : a.eval s = v) (hx : a.eval x = .slice (some ⟨g, 0, none⟩) 1 1) (hc : w.cell? ⟨g, 0, none⟩ = some (.int .u8 y)) (hn : n ≤ 1048576)
    (hK : ∀ A' c' w', St w0 w' (L.set i (rb (.slice A' (n + 1) c') (n + 1) (xs ++ [UInt8.ofNat y.toNat]))) → wpList Tryz.prog ops Q rest (a.put o'.dst (.slice A' (n + 1) c')) w') : wpList Tryz.prog ops Q (o' :: rest) a w :=
  wpList_plain hgd fun _ hk => wp_app1b s x t ho y hy0 hy1 ht hio hz hsz hy h hi hs hx hc hn fun A' c' w' h2 => hk _ _ (hK A' c' w' h2)


end


/-- A text that was drawn. -/
def DrT (w0 : World) (v : Value) (len B : Nat) (L : List Cel) (most : Nat) (e : Ending) (w' : World) : Prop := ∃ l : List UInt8, e = .returned (.string ⟨l.toArray⟩) ∧ l.length ≤ most ∧ Dr w0 v len B w' L


section

variable {w0 : World} {v : Value} {len B : Nat} {L : List Cel} {w : World}
theorem Dr.bytes (h : Dr w0 v len B w L) : Dr w0 v len B (w.alloc (.cells #[] 5)) (rb (.slice (some ⟨w.heap.size, 0, none⟩) 0 0) 0 [] :: L) := h.map fun c hS => St.swap (hS.new ((Below.refl _ _).alloc (Nat.le_refl _) _) (World.ownsRow_lit w #[] 0 (Nat.le_refl _) (by unfold maxLen; omega) (by simp)))

set_option maxRecDepth 100000 in
set_option maxHeartbeats 3200000 in
theorem text_dr (most : Nat) (h : Hid (Dr w0 v len B w L)) (hm : most ≤ 200) :
    Calls Tryz.prog 78 #[.pointer (some ⟨B, 0, none⟩), .int .i64 most] w (DrT w0 v len B L most) := by
  obtain ⟨i0, hi, hz0, hz1, hz2⟩ := info_parts info_u8
  go_enter Tryz.func78, Tryz.ntmps78
  go_wp2_with fail
  refine (below_dr 4 (Lib.hid h.out.bytes) (by omega) (by omega)).mono ?_
  rintro e w1 ⟨st, rfl, ⟨st0, st1⟩, hd⟩
  have HD := Lib.hid hd
  clear hd
  go_wp2_with fail
  refine (below_dr ((most : Int) + 1) HD (by omega) (by omega)).mono ?_
  rintro e w2 ⟨nn, rfl, ⟨n0, n1⟩, hd⟩
  obtain ⟨N, rfl⟩ := Int.eq_ofNat_of_zero_le n0
  have HD2 := Lib.hid hd
  clear hd HD
  go_wp2
  go_loopw [5, 7, 8] (fun o c _ wr => ∃ (m q : Nat) (A : Option Addr) (d : Nat) (acc : List UInt8), c = .int .i64 m ∧ o = .slice A q d ∧ q + m = N ∧ (¬ (.slice A q d : Value) = .slice none 0 0) ∧ Dr w0 v len B wr (rb (.slice A q d) q acc :: L)) (fun _ c _ _ => (intOf c).toNat)
  case atStart => exact ⟨N, 0, _, _, [], rfl, rfl, by omega, by simp, HD2.out⟩
  case round =>
    obtain ⟨m, q, A, d, acc, rfl, rfl, hN, hne, hD⟩ := hrel
    have HE := Lib.hid hD
    have HN := Lib.hid hne
    clear hD hne
    by_cases hm0 : 0 < m
    · have hmi : (0 : Int) < (m : Int) := by omega
      go_wp2_with fail
      refine (byte_dr HE.out).mono ?_
      rintro e w3 ⟨b, rfl, ⟨b0, b1⟩, hd⟩
      have HE2 := Lib.hid hd
      clear hd HE
      by_cases s1 : st = 1
      · subst s1
        go_wp2_with (at_builtin; obtain ⟨hy, ci, cx, ca, cb, hS⟩ := HE2.out; refine wpList_app1b rfl (.tmp 31) (.tmp 34) 22 rfl (b % 2) (by omega) (by omega) Tryz.underlying22 hi hz0 hz1 hz2 ((hS.alloc _ _).drop 0) (i := 1) rfl rfl rfl (by simp) (by omega) ?_; intro V' c' w4 hS4; have HE3 := Lib.hid (show Dr w0 v len B w4 _ from ⟨hy, ci, cx, ca, cb, hS4⟩); clear hS hS4 HE2 hy cb ca)
        go_roundw
        case rel => exact ⟨m - 1, q + 1, V', c', acc ++ [_], by go_num, rfl, by omega, by simp, HE3.out⟩
        case measure => simp [intOf]; omega
      · have f1 : (st == 1) = false := by simpa using s1
        by_cases s2 : st = 2
        · subst s2
          clear s1 f1
          go_wp2_with (at_builtin; obtain ⟨hy, ci, cx, ca, cb, hS⟩ := HE2.out; refine wpList_app1b rfl (.tmp 31) (.tmp 34) 22 rfl (97 + b % 4) (by omega) (by omega) Tryz.underlying22 hi hz0 hz1 hz2 ((hS.alloc _ _).drop 0) (i := 1) rfl rfl rfl (by simp) (by omega) ?_; intro V' c' w4 hS4; have HE3 := Lib.hid (show Dr w0 v len B w4 _ from ⟨hy, ci, cx, ca, cb, hS4⟩); clear hS hS4 HE2 hy cb ca)
          go_roundw
          case rel => exact ⟨m - 1, q + 1, V', c', acc ++ [_], by go_num, rfl, by omega, by simp, HE3.out⟩
          case measure => simp [intOf]; omega
        · have f2 : (st == 2) = false := by simpa using s2
          clear s1 s2
          go_wp2_with (at_builtin; obtain ⟨hy, ci, cx, ca, cb, hS⟩ := HE2.out; refine wpList_app1b rfl (.tmp 31) (.tmp 34) 22 rfl (b) (by omega) (by omega) Tryz.underlying22 hi hz0 hz1 hz2 ((hS.alloc _ _).drop 0) (i := 1) rfl rfl rfl (by simp) (by omega) ?_; intro V' c' w4 hS4; have HE3 := Lib.hid (show Dr w0 v len B w4 _ from ⟨hy, ci, cx, ca, cb, hS4⟩); clear hS hS4 HE2 hy cb ca)
          go_roundw
          case rel => exact ⟨m - 1, q + 1, V', c', acc ++ [_], by go_num, rfl, by omega, by simp, HE3.out⟩
          case measure => simp [intOf]; omega
    · obtain rfl : m = 0 := by omega
      have hmi : ¬ (0 : Int) < ((0 : Nat) : Int) := by omega
      have hq : acc.length = q := by have := (HE.out.rest.own (i := 0) rfl).1; simpa [rb, cellsOf] using this
      have hcv := conv_own (P := Tryz.prog) wr 22 9 5 w0.heap.size q (.slice A q d) acc Tryz.underlying22 Tryz.underlying5 Tryz.underlying9 hq (HE.out.rest.own (i := 0) rfl) HN.out
      have HQ := Lib.hid hq
      clear hq
      go_wp2
      go_ret
      exact ⟨acc, rfl, by have := HQ.out; omega, HE.out.map fun c hS => hS.drop 1⟩

end


end Go.Proofs.YtielfnjkfceliaaGreatDoor.C
