/-
  The contracts of GainOf and EqualFunctions, spec and impl.
-/
import Derived.Test.YtfpoiiennlhphaaDoorVal
import Derived.Test.YtfpoiiennlhphaaDoorBase
namespace Go.Proofs.YtfpoiiennlhphaaDoor.C
open Go.RowKit K M
set_option linter.unusedVariables false
set_option linter.unusedSimpArgs false

/-- Whether two functions are equal in every field. -/
def eqFn (n : Int) (xs : List Int) (m : Int) (ys : List Int) : Bool := decide (n = m) && decide (xs = ys)


theorem eqS_num (n : Int) (A : Option Addr) (xs : List Int) (cap : Nat) (n2 : Int) (A2 : Option Addr) (ys : List Int) (cap2 : Nat) (w : World) (h : Hid (Ints w w.heap.size A xs)) (g : Hid (Ints w w.heap.size A2 ys)) (hl : xs.length ≤ 9223372036854775807) (hn : n ≠ n2) : Calls Tryd.prog 22 #[.agg #[.int .i64 n, .slice A xs.length cap], .agg #[.int .i64 n2, .slice A2 ys.length cap2]] w (RetV w (.bool false)) := by
  have h1 : (n == n2) = false := beq_eq_false_iff_ne.2 hn
  clear hn
  have HW := Lib.hid (St.start w)
  go_enter Tryd.func22, Tryd.ntmps22
  go_wp2
  go_ret
  exact ⟨rfl, ((HW.out.alloc _ _).alloc _ _).base⟩

set_option maxRecDepth 100000 in
theorem eqS_yes (n : Int) (A : Option Addr) (xs : List Int) (cap : Nat) (A2 : Option Addr) (cap2 : Nat) (w : World) (h : Hid (Ints w w.heap.size A xs)) (g : Hid (Ints w w.heap.size A2 xs)) (hl : xs.length ≤ 9223372036854775807) : Calls Tryd.prog 22 #[.agg #[.int .i64 n, .slice A xs.length cap], .agg #[.int .i64 n, .slice A2 xs.length cap2]] w (RetV w (.bool true)) := by
  have HW := Lib.hid (St.start w)
  go_enter Tryd.func22, Tryd.ntmps22
  go_wp2_with fail
  refine St.use (w0 := w) (by exact (HW.out.alloc _ _).alloc _ _) ?_
  intro hS
  refine (same_yes A A2 xs cap cap2 _ (Lib.hid ((h.out.below hS.base).mono hS.size)) (Lib.hid ((g.out.below hS.base).mono hS.size)) hl).mono ?_
  rintro e w1 ⟨rfl, m, rfl⟩
  have HS := Lib.hid (hS.drewN m)
  clear hS
  go_wp2
  go_ret
  exact ⟨rfl, HS.out.base⟩

set_option maxRecDepth 100000 in
theorem eqS_no (n : Int) (A : Option Addr) (xs : List Int) (cap : Nat) (A2 : Option Addr) (ys : List Int) (cap2 : Nat) (w : World) (h : Hid (Ints w w.heap.size A xs)) (g : Hid (Ints w w.heap.size A2 ys)) (hl : xs.length ≤ 9223372036854775807) (hne : ¬ xs = ys) : Calls Tryd.prog 22 #[.agg #[.int .i64 n, .slice A xs.length cap], .agg #[.int .i64 n, .slice A2 ys.length cap2]] w (RetV w (.bool false)) := by
  have HW := Lib.hid (St.start w)
  have HN := Lib.hid hne
  clear hne
  go_enter Tryd.func22, Tryd.ntmps22
  go_wp2_with fail
  refine St.use (w0 := w) (by exact (HW.out.alloc _ _).alloc _ _) ?_
  intro hS
  refine (same_no A A2 xs ys cap cap2 _ (Lib.hid ((h.out.below hS.base).mono hS.size)) (Lib.hid ((g.out.below hS.base).mono hS.size)) hl HN.out).mono ?_
  rintro e w1 ⟨rfl, m, rfl⟩
  have HS := Lib.hid (hS.drewN m)
  clear hS
  go_wp2
  go_ret
  exact ⟨rfl, HS.out.base⟩

theorem eqS_any (n : Int) (A : Option Addr) (xs : List Int) (cap : Nat) (n2 : Int) (A2 : Option Addr) (ys : List Int) (cap2 : Nat) (w : World) (h : Hid (Ints w w.heap.size A xs)) (g : Hid (Ints w w.heap.size A2 ys)) (hl : xs.length ≤ 9223372036854775807) : Calls Tryd.prog 22 #[.agg #[.int .i64 n, .slice A xs.length cap], .agg #[.int .i64 n2, .slice A2 ys.length cap2]] w (RetV w (.bool (eqFn n xs n2 ys))) := by
  unfold eqFn
  by_cases hn : n = n2
  · subst hn
    by_cases hx : xs = ys
    · subst hx
      simpa using eqS_yes n A xs cap A2 cap2 w h g hl
    · simpa [hx] using eqS_no n A xs cap A2 ys cap2 w h g hl hx
  · simpa [hn] using eqS_num n A xs cap n2 A2 ys cap2 w h g hl hn


set_option maxRecDepth 100000 in
set_option maxHeartbeats 1600000 in
theorem gainI_bad (n : Int) (A : Option Addr) (xs : List Int) (cap : Nat) (s e : Int) (w : World) (h : Hid (Ints w w.heap.size A xs)) (hf : isFn n xs = false) : Calls Tryd.prog 63 #[.agg #[.int .i64 n, .slice A xs.length cap], .int .i64 s, .int .i64 e] w (RetV w (.int .i64 (-9999))) := by
  have HW := Lib.hid (St.start w)
  have HF := Lib.hid hf
  clear hf
  go_enter Tryd.func63, Tryd.ntmps63
  go_wp2_with fail
  refine St.use (w0 := w) (by exact HW.out.alloc _ _) ?_
  intro hS
  refine (isFnI_no n A xs cap _ (Lib.hid ((h.out.below hS.base).mono hS.size)) HF.out).mono ?_
  rintro e' w1 ⟨rfl, hb⟩
  have hS1 := hS.below hb
  obtain ⟨b0, -⟩ := hS1.box (i := 0) rfl
  have b00 := b0 0 _ rfl
  have b01 := b0 1 _ rfl
  have HS1 := Lib.hid hS1
  clear hS hb b0 hS1
  go_wp2
  go_ret
  exact ⟨rfl, HS1.out.base⟩

set_option maxRecDepth 100000 in
set_option maxHeartbeats 1600000 in
theorem gainI_set (n : Int) (A : Option Addr) (xs : List Int) (cap : Nat) (s e : Int) (w : World) (h : Hid (Ints w w.heap.size A xs)) (hf : isFn n xs = true) (hs : isSet n s = false) : Calls Tryd.prog 63 #[.agg #[.int .i64 n, .slice A xs.length cap], .int .i64 s, .int .i64 e] w (RetV w (.int .i64 (-9999))) := by
  have HW := Lib.hid (St.start w)
  have HF := Lib.hid hf
  obtain ⟨h0, h5, hl, -⟩ := isFn_yes hf
  have HL := Lib.hid hl
  have HN := Lib.hid hs
  clear hf hs hl
  go_enter Tryd.func63, Tryd.ntmps63
  go_wp2_with fail
  refine St.use (w0 := w) (by exact HW.out.alloc _ _) ?_
  intro hS
  refine (isFnI_yes n A xs cap _ (Lib.hid ((h.out.below hS.base).mono hS.size)) HF.out).mono ?_
  rintro e' w1 ⟨rfl, hb⟩
  have hS1 := hS.below hb
  obtain ⟨b0, -⟩ := hS1.box (i := 0) rfl
  have b00 := b0 0 _ rfl
  have b01 := b0 1 _ rfl
  have HS1 := Lib.hid hS1
  clear hS hb b0 hS1
  go_wp2_with (go_at_call 62; refine (isOf_no s n _ h0 (by omega) HN.out).mono ?_; rintro e' w' ⟨rfl, rfl⟩)
  go_ret
  exact ⟨rfl, HS1.out.base⟩


set_option maxRecDepth 100000 in
set_option maxHeartbeats 1600000 in
theorem gainI_el (n : Int) (A : Option Addr) (xs : List Int) (cap : Nat) (s e : Int) (w : World) (h : Hid (Ints w w.heap.size A xs)) (hf : isFn n xs = true) (hs : isSet n s = true) (he : e < 0 ∨ n ≤ e) : Calls Tryd.prog 63 #[.agg #[.int .i64 n, .slice A xs.length cap], .int .i64 s, .int .i64 e] w (RetV w (.int .i64 (-9999))) := by
  have HW := Lib.hid (St.start w)
  have HF := Lib.hid hf
  obtain ⟨h0, h5, hl, -⟩ := isFn_yes hf
  have HL := Lib.hid hl
  have HN := Lib.hid hs
  by_cases he0 : e < 0
  · clear hf hs hl he
    go_enter Tryd.func63, Tryd.ntmps63
    go_wp2_with fail
    refine St.use (w0 := w) (by exact HW.out.alloc _ _) ?_
    intro hS
    refine (isFnI_yes n A xs cap _ (Lib.hid ((h.out.below hS.base).mono hS.size)) HF.out).mono ?_
    rintro e' w1 ⟨rfl, hb⟩
    have hS1 := hS.below hb
    obtain ⟨b0, -⟩ := hS1.box (i := 0) rfl
    have b00 := b0 0 _ rfl
    have b01 := b0 1 _ rfl
    have HS1 := Lib.hid hS1
    clear hS hb b0 hS1
    go_wp2_with (go_at_call 62; refine (isOf_yes s n _ h0 (by omega) HN.out).mono ?_; rintro e' w' ⟨rfl, rfl⟩)
    go_ret
    exact ⟨rfl, HS1.out.base⟩
  · have e1 : decide (e < 0) = false := by simpa using he0
    have e2 : n ≤ e := by omega
    clear hf hs hl he
    go_enter Tryd.func63, Tryd.ntmps63
    go_wp2_with fail
    refine St.use (w0 := w) (by exact HW.out.alloc _ _) ?_
    intro hS
    refine (isFnI_yes n A xs cap _ (Lib.hid ((h.out.below hS.base).mono hS.size)) HF.out).mono ?_
    rintro e' w1 ⟨rfl, hb⟩
    have hS1 := hS.below hb
    obtain ⟨b0, -⟩ := hS1.box (i := 0) rfl
    have b00 := b0 0 _ rfl
    have b01 := b0 1 _ rfl
    have HS1 := Lib.hid hS1
    clear hS hb b0 hS1
    go_wp2_with (go_at_call 62; refine (isOf_yes s n _ h0 (by omega) HN.out).mono ?_; rintro e' w' ⟨rfl, rfl⟩)
    go_ret
    exact ⟨rfl, HS1.out.base⟩


set_option maxRecDepth 100000 in
set_option maxHeartbeats 1600000 in
theorem gainI_yes (n : Int) (A : Option Addr) (xs : List Int) (cap : Nat) (s e : Int) (w : World) (h : Hid (Ints w w.heap.size A xs)) (hf : isFn n xs = true) (hs : isSet n s = true) (e0 : 0 ≤ e) (en : e < n) : Calls Tryd.prog 63 #[.agg #[.int .i64 n, .slice A xs.length cap], .int .i64 s, .int .i64 e] w (RetV w (.int .i64 (xs.getD (withE s e) 0 - xs.getD s.toNat 0))) := by
  have hq := withE_lt (isFn_yes hf).1 hs e0 en
  have hor := or_shl (s := s) (e := e) (isSet_yes hs).1 (by have := (isSet_yes hs).2; have := p2_le (isFn_yes hf).1 (isFn_yes hf).2.1; omega) e0 (by have := (isFn_yes hf).2.1; omega)
  have hwi := fun W => with_any s e W (isSet_yes hs).1 (by have := (isSet_yes hs).2; have := p2_le (isFn_yes hf).1 (isFn_yes hf).2.1; omega) e0 (by have := (isFn_yes hf).2.1; omega)
  obtain ⟨q, hqq⟩ : ∃ q, withE s e = q := ⟨_, rfl⟩
  rw [hqq] at hq hor hwi ⊢
  have HWI := Lib.hid hwi
  clear hqq hwi
  obtain ⟨k, rfl, hk⟩ := set_index hf hs
  have HW := Lib.hid (St.start w)
  have HF := Lib.hid hf
  obtain ⟨h0, h5, hl, hv⟩ := isFn_yes hf
  rw [← hl] at hq
  have HL := Lib.hid hl
  have HN := Lib.hid hs
  obtain ⟨v1, v2⟩ := hv k hk
  obtain ⟨u1, u2⟩ := hv q hq
  obtain ⟨b, off, rfl, hbl, hcc⟩ := h.out (by omega)
  have hc := hcc k hk
  have hc2 := hcc q hq
  simp only [Int.toNat_natCast]
  obtain ⟨x, hx⟩ : ∃ x, xs.getD k 0 = x := ⟨_, rfl⟩
  obtain ⟨y, hy⟩ : ∃ y, xs.getD q 0 = y := ⟨_, rfl⟩
  rw [hx] at hc v1 v2 ⊢
  rw [hy] at hc2 u1 u2 ⊢
  have HC := Lib.hid hc
  have HC2 := Lib.hid hc2
  have hk0 : (0 : Int) ≤ (k : Int) := by omega
  have hkn : (k : Int) < (xs.length : Int) := by omega
  have hq0 : (0 : Int) ≤ (q : Int) := by omega
  have hqn : (q : Int) < (xs.length : Int) := by omega
  have hyx : IntKind.i64.wrap (y - x) = y - x := IntWalk.i64_in _ (by omega)
  have e1 : decide (e < 0) = false := by simpa using e0
  have e2 : decide (n ≤ e) = false := by simpa using en
  clear hf hs hl hv hc hc2 hcc hx hy
  go_enter Tryd.func63, Tryd.ntmps63
  go_wp2_with fail
  refine St.use (w0 := w) (by exact HW.out.alloc _ _) ?_
  intro hS
  refine (isFnI_yes n _ xs cap _ (Lib.hid ((h.out.below hS.base).mono hS.size)) HF.out).mono ?_
  rintro e' w1 ⟨rfl, hb⟩
  have hS1 := hS.below hb
  obtain ⟨b0, -⟩ := hS1.box (i := 0) rfl
  have b00 := b0 0 _ rfl
  have b01 := b0 1 _ rfl
  have d0 := (hS1.base.cell (p := ⟨b, off + k, none⟩) hbl).trans HC.out
  have d1 := (hS1.base.cell (p := ⟨b, off + q, none⟩) hbl).trans HC2.out
  have HS1 := Lib.hid hS1
  clear hS hb b0 hS1
  go_wp2_with (go_at_call 62; refine (isOf_yes _ n _ h0 (by omega) HN.out).mono ?_; rintro e' w' ⟨rfl, rfl⟩)
  go_quiet ((go_at_call 64; first | exact quiet_left (HWI.out _) | exact quiet_add_left (HWI.out _)))
  go_wp2
  go_ret
  exact ⟨rfl, (HS1.out.drewN _).base⟩

theorem gainI_any (n : Int) (A : Option Addr) (xs : List Int) (cap : Nat) (s e : Int) (w : World) (h : Hid (Ints w w.heap.size A xs)) : Calls Tryd.prog 63 #[.agg #[.int .i64 n, .slice A xs.length cap], .int .i64 s, .int .i64 e] w (RetV w (.int .i64 (gainOf n xs s e))) := by
  unfold gainOf
  cases hf : isFn n xs
  · simpa using gainI_bad n A xs cap s e w h hf
  · cases hs : isSet n s
    · simpa using gainI_set n A xs cap s e w h hf hs
    · by_cases he : 0 ≤ e ∧ e < n
      · simpa [he.1, he.2] using gainI_yes n A xs cap s e w h hf hs he.1 he.2
      · rw [if_neg (fun hh => he ⟨hh.2.2.1, hh.2.2.2⟩)]
        exact gainI_el n A xs cap s e w h hf hs (by omega)



end Go.Proofs.YtfpoiiennlhphaaDoor.C
