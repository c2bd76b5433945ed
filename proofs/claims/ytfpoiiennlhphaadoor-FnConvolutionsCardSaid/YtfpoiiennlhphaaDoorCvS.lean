/-
  The contracts of spec.SplitOf, spec.ConvolveFunctions and of what they call.
-/
import Derived.Test.YtfpoiiennlhphaaDoorAllM
import Derived.Test.YtfpoiiennlhphaaDoorClS
import Derived.Test.YtfpoiiennlhphaaDoorFunS2
import Derived.Deep.RegionHeld3
namespace Go.Proofs.YtfpoiiennlhphaaDoor.C
open Go.RowKit K M
set_option linter.unusedVariables false
set_option linter.unusedSimpArgs false

theorem and_nat (S P : Nat) (hS : S < 4294967296) (hP : P < 4294967296) : bits .and .i64 (S : Int) (P : Int) = ((S &&& P : Nat) : Int) := by
  have hx : S &&& P < 2 ^ 32 := Nat.and_lt_two_pow _ (by omega)
  have ofI : ∀ a : Nat, a < 9223372036854775808 → (BitVec.ofInt 64 (a : Int)).toNat = a := fun a ha => by
    rw [BitVec.ofInt_natCast, BitVec.toNat_ofNat]; exact Nat.mod_eq_of_lt (by omega)
  show IntKind.i64.wrap ((BitVec.ofInt 64 (S : Int) &&& BitVec.ofInt 64 (P : Int)).toNat : Int) = _
  rw [BitVec.toNat_and, ofI S (by omega), ofI P (by omega), IntKind.wrap_i64]
  omega


section

variable (n : Int) (A : Option Addr) (xs : List Int) (cap : Nat) (m : Int) (D : Option Addr) (ys : List Int) (dap : Nat) (w : World) (h : Hid (Ints w w.heap.size A xs)) (g : Hid (Ints w w.heap.size D ys))
include h g
set_option maxRecDepth 100000 in
set_option maxHeartbeats 1600000 in
theorem fitS_any : Calls Tryd.prog 98 #[.agg #[.int .i64 n, .slice A xs.length cap], .agg #[.int .i64 m, .slice D ys.length dap]] w (RetV w (.bool (fits n xs m ys))) := by
  have HW := Lib.hid (St.start w)
  have HF := Lib.hid (fun W hW => isFnS_any n A xs cap W (Lib.hid hW))
  have HG := Lib.hid (fun W hW => isFnS_any m D ys dap W (Lib.hid hW))
  unfold fits
  obtain ⟨q, hq⟩ : ∃ q, decide (n = m) = q := ⟨_, rfl⟩
  rw [hq]
  have HQ := Lib.hid hq
  clear hq
  generalize isFn n xs = a at *
  generalize isFn m ys = b at *
  cases a
  · go_enter Tryd.func98, Tryd.ntmps98
    go_wp2_with (go_at_call 81; refine St.use (w0 := w) (by exact (HW.out.alloc _ _).alloc _ _) ?_; intro hS; (try simp only [World.size_alloc] at hS); refine (HF.out _ ((h.out.below hS.base).mono hS.size)).mono ?_; rintro e w2 ⟨rfl, hb⟩; have HS2 := Lib.hid (hS.below hb); clear hS hb)
    go_ret
    exact ⟨rfl, HS2.out.base⟩
  · go_enter Tryd.func98, Tryd.ntmps98
    go_wp2_with fail
    refine St.use (w0 := w) (by exact (HW.out.alloc _ _).alloc _ _) ?_
    intro hS
    (try simp only [World.size_alloc] at hS)
    refine (HF.out _ ((h.out.below hS.base).mono hS.size)).mono ?_
    rintro e w2 ⟨rfl, hb⟩
    have hS2 := hS.below hb
    obtain ⟨b0, -⟩ := hS2.box (i := 0) rfl
    have b00 := b0 0 _ rfl
    have b01 := b0 1 _ rfl
    have HS2 := Lib.hid hS2
    clear hS hb hS2 b0
    go_wp2_with fail
    refine St.use (w0 := w) (by exact HS2.out) ?_
    intro hS
    refine (HG.out _ ((g.out.below hS.base).mono hS.size)).mono ?_
    rintro e w3 ⟨rfl, hb⟩
    have hS3 := hS.below hb
    obtain ⟨b0, -⟩ := hS3.box (i := 0) rfl
    have c00 := b0 0 _ rfl
    obtain ⟨b0, -⟩ := hS3.box (i := 1) rfl
    have c10 := b0 0 _ rfl
    have HS3 := Lib.hid hS3
    clear hS hb hS3 b0 b00 b01
    cases b
    · go_wp2
      go_ret
      exact ⟨rfl, HS3.out.base⟩
    · by_cases e : n = m
      · have hq := HQ.out
        rw [decide_eq_true e] at hq
        subst hq e
        go_wp2
        go_ret
        exact ⟨rfl, HS3.out.base⟩
      · have e1 : (n == m) = false := beq_eq_false_iff_ne.2 e
        have hq := HQ.out
        rw [decide_eq_false e] at hq
        subst hq
        clear e HQ
        go_wp2
        go_ret
        exact ⟨rfl, HS3.out.base⟩

end


set_option maxRecDepth 100000 in
set_option maxHeartbeats 4000000 in
theorem splitS_any (n : Int) (A : Option Addr) (xs : List Int) (cap : Nat) (m : Int) (D : Option Addr) (ys : List Int) (dap : Nat) (s : Nat) (w : World) (h : Hid (Ints w w.heap.size A xs)) (g : Hid (Ints w w.heap.size D ys))
    (hl : ys.length = xs.length) (h32 : xs.length ≤ 32) (hs : s < xs.length) (hv : ∀ k, k < xs.length → -1000 ≤ xs.getD k 0 ∧ xs.getD k 0 ≤ 1000) (hu : ∀ k, k < xs.length → -1000 ≤ ys.getD k 0 ∧ ys.getD k 0 ≤ 1000) :
    Calls Tryd.prog 99 #[.agg #[.int .i64 n, .slice A xs.length cap], .agg #[.int .i64 m, .slice D ys.length dap], .int .i64 s] w (RetV w (.int .i64 (split xs ys s))) := by
  have HW := Lib.hid (St.start w)
  have HV := Lib.hid hv
  have HU := Lib.hid hu
  rw [hl]
  obtain ⟨p, hp⟩ : ∃ p, xs.length = p := ⟨_, rfl⟩
  rw [hp] at hl h32 hs ⊢
  have HX := Lib.hid hp
  have HY := Lib.hid hl
  have HIN := Lib.hid (fun c => splitTo_in xs ys s c)
  have hsp : split xs ys s = splitTo xs ys s s := rfl
  rw [hsp]
  clear hv hu hp hl hsp
  go_enter Tryd.func99, Tryd.ntmps99
  go_wp2
  have HS := Lib.hid ((HW.out.alloc [.int .i64 n, .slice A p cap] 26).alloc [.int .i64 m, .slice D p dap] 26)
  go_loopw [7, 8] (fun b x wr => ∃ c : Nat, x = .int .i64 (c + 1) ∧ c ≤ s ∧ b = .int .i64 (splitTo xs ys s c) ∧ St w wr [bx (w.heap.size + 1) 26 [.int .i64 m, .slice D p dap], bx w.heap.size 26 [.int .i64 n, .slice A p cap]]) (fun _ x _ => s + 1 - (intOf x).toNat)
  case atStart => exact ⟨0, rfl, Nat.zero_le _, rfl, by have e := HS.out; (try rw [World.size_alloc] at e); exact e⟩
  case round =>
    obtain ⟨c, rfl, hc, rfl, hS⟩ := hrel
    have HS2 := Lib.hid hS
    by_cases hlt : c < s
    · obtain ⟨b0, -⟩ := hS.box (i := 1) rfl
      have b01 := b0 1 _ rfl
      obtain ⟨b0, -⟩ := hS.box (i := 0) rfl
      have c01 := b0 1 _ rfl
      clear b0
      obtain ⟨X, hX⟩ : ∃ X, c + 1 = X := ⟨_, rfl⟩
      have hcX : (c : Int) + 1 = (X : Int) := by omega
      have hXs : X ≤ s := by omega
      have hand := and_nat X s (by omega) (by omega)
      have hstep : splitTo xs ys s (c + 1) = if X &&& s = X ∧ partV xs ys s X < partV xs ys s (splitTo xs ys s c) then X else splitTo xs ys s c := by rw [← hX]; rfl
      obtain ⟨-, hbc⟩ := HIN.out c
      rw [hX] at hstep
      obtain ⟨B, hB⟩ : ∃ B, splitTo xs ys s c = B := ⟨_, rfl⟩
      rw [hB] at hstep hbc ⊢
      have hXi : (X : Int) ≤ (s : Int) := by omega
      by_cases hsub : X &&& s = X
      · rw [hsub] at hand
        obtain ⟨v1, v2⟩ := HV.out X (by rw [HX.out]; omega)
        obtain ⟨v3, v4⟩ := HU.out (s - X) (by rw [HX.out]; omega)
        obtain ⟨v5, v6⟩ := HV.out B (by rw [HX.out]; omega)
        obtain ⟨v7, v8⟩ := HU.out (s - B) (by rw [HX.out]; omega)
        obtain ⟨b, off, rfl, hbl, d1⟩ := (h.out.below hS.base).at_ (k := X) (by rw [HX.out]; omega)
        obtain ⟨b', off', e', -, d2⟩ := (h.out.below hS.base).at_ (k := B) (by rw [HX.out]; omega)
        obtain ⟨rfl, rfl⟩ : b = b' ∧ off = off' := by cases e'; exact ⟨rfl, rfl⟩
        obtain ⟨r, ro, rfl, hrl, d3⟩ := (g.out.below hS.base).at_ (k := s - X) (by rw [HY.out]; omega)
        obtain ⟨r', ro', e'', -, d4⟩ := (g.out.below hS.base).at_ (k := s - B) (by rw [HY.out]; omega)
        obtain ⟨rfl, rfl⟩ : r = r' ∧ ro = ro' := by cases e''; exact ⟨rfl, rfl⟩
        unfold partV at hstep
        obtain ⟨Y1, hY1⟩ : ∃ Y, s - X = Y := ⟨_, rfl⟩
        obtain ⟨Y2, hY2⟩ : ∃ Y, s - B = Y := ⟨_, rfl⟩
        rw [hY1] at d3 v3 v4 hstep
        rw [hY2] at d4 v7 v8 hstep
        generalize xs.getD X 0 = x1 at d1 v1 v2 hstep
        generalize ys.getD Y1 0 = y1 at d3 v3 v4 hstep
        generalize xs.getD B 0 = x2 at d2 v5 v6 hstep
        generalize ys.getD Y2 0 = y2 at d4 v7 v8 hstep
        have f1 : IntKind.i64.wrap ((s : Int) - (X : Int)) = (Y1 : Int) := by rw [IntWalk.i64_in _ (by omega)]; omega
        have f2 : IntKind.i64.wrap ((s : Int) - (B : Int)) = (Y2 : Int) := by rw [IntWalk.i64_in _ (by omega)]; omega
        have f3 : IntKind.i64.wrap (x1 + y1) = x1 + y1 := IntWalk.i64_in _ (by omega)
        have f4 : IntKind.i64.wrap (x2 + y2) = x2 + y2 := IntWalk.i64_in _ (by omega)
        have g1 : (0 : Int) ≤ (X : Int) := by omega
        have g2 : (X : Int) < (p : Int) := by omega
        have g3 : (0 : Int) ≤ (Y1 : Int) := by omega
        have g4 : (Y1 : Int) < (p : Int) := by omega
        have g5 : (0 : Int) ≤ (B : Int) := by omega
        have g6 : (B : Int) < (p : Int) := by omega
        have g7 : (0 : Int) ≤ (Y2 : Int) := by omega
        have g8 : (Y2 : Int) < (p : Int) := by omega
        have g9 : (X : Int) ≤ (s : Int) := by omega
        clear hS hY1 hY2 hB e' e'' v1 v2 v3 v4 v5 v6 v7 v8
        by_cases hlt3 : x1 + y1 < x2 + y2
        · rw [if_pos ⟨hsub, hlt3⟩] at hstep
          have HST := Lib.hid hstep
          have hlt4 : decide (x1 + y1 < x2 + y2) = true := decide_eq_true hlt3
          clear hstep hsub
          simp only [hcX]
          go_wp2
          go_quiet (fail)
          go_wp2
          go_roundw
          case rel => exact ⟨X, by go_num, by omega, by rw [HST.out], by first | exact HS2.out | exact HS2.out.drew | exact HS2.out.drewN _⟩
          case measure => simp [intOf]; omega
        · rw [if_neg fun hh => hlt3 hh.2] at hstep
          have HST := Lib.hid hstep
          have hlt4 : decide (x1 + y1 < x2 + y2) = false := decide_eq_false hlt3
          clear hstep hsub
          simp only [hcX]
          go_wp2
          go_quiet (fail)
          go_wp2
          go_roundw
          case rel => exact ⟨X, by go_num, by omega, by rw [HST.out], by first | exact HS2.out | exact HS2.out.drew | exact HS2.out.drewN _⟩
          case measure => simp [intOf]; omega
      · rw [if_neg fun hh => hsub hh.1] at hstep
        have HST := Lib.hid hstep
        have hne : (((X &&& s : Nat) : Int) == (X : Int)) = false := beq_eq_false_iff_ne.2 (by omega)
        generalize X &&& s = Z at hand hne hsub
        clear hstep hS hB hsub
        simp only [hcX]
        go_wp2
        go_quiet (fail)
        go_wp2
        go_roundw
        case rel => exact ⟨X, by go_num, by omega, by rw [HST.out], by first | exact HS2.out | exact HS2.out.drew | exact HS2.out.drewN _⟩
        case measure => simp [intOf]; omega
    · obtain rfl : c = s := by omega
      have hcc : ¬ (c : Int) + 1 ≤ (c : Int) := by omega
      clear hS
      go_wp2
      go_ret
      exact ⟨rfl, HS2.out.base⟩

end Go.Proofs.YtfpoiiennlhphaaDoor.C
