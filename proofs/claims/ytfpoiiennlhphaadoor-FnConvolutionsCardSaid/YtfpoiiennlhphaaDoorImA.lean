/-
  The contracts of spec.SizeFunction and spec.IsConcaveList and of what they call.
  The contracts of ElementsOf, spec and impl, and of what they call.
  The contracts of the law's own helpers on functions (a number and a list): size, copy, comparison, marks.
  The parts of a set, one after another, as plain mathematics.
  The contract of impl.makeFunction, for functionOn's closure.
  The contract of impl.makeFunction, for SizeFunction's closure.
  The contracts of impl.SizeFunction and impl.IsConcaveList and of what they call.
  The contract of impl.makeFunction, for ModularFunction's closure.
  The contracts of impl.isWeight, weightOf and of ModularFunction's closure.
  The contracts of impl.areWithin, areWeights, isVector, areVectors.
  The contracts of impl.areWeights and of DualFunction's closure.
  The least part of a set: what a walk over its parts keeps, as plain mathematics.
  The contract of impl.makeFunction, for ConvolveFunctions's closure.
  The contract of impl.makeFunction, for IncreasingHull's closure.
  The contract of impl.makeFunction, for TruncateFunction's closure.
  The contract of impl.ModularFunction.
-/
import Derived.Test.YtfpoiiennlhphaaDoorAllM
import Derived.Test.YtfpoiiennlhphaaDoorFunS
import Derived.Test.YtfpoiiennlhphaaDoorSub
import Derived.Test.YtfpoiiennlhphaaDoorVal
import Derived.Shelf.Spec.TrailingZeros
import Derived.Lib.LaidTab
import Derived.Lib.SmallJoins
import Derived.Test.YtfpoiiennlhphaaDoorBase
import Derived.Test.YtfpoiiennlhphaaDoorFunI
import Derived.Deep.RegionHeld3
import Derived.Test.YtfpoiiennlhphaaDoorModS
namespace Go.Proofs.YtfpoiiennlhphaaDoor.C
open Go.RowKit K M
set_option linter.unusedVariables false
set_option linter.unusedSimpArgs false

theorem and_one (X : Nat) (hX : X < 4294967296) : bits .and .i64 (X : Int) 1 = ((X % 2 : Nat) : Int) := by
  have h1 : (BitVec.ofInt 64 1).toNat = 2 ^ 1 - 1 := by decide
  have ofI : (BitVec.ofInt 64 (X : Int)).toNat = X := by
    rw [BitVec.ofInt_natCast, BitVec.toNat_ofNat]; exact Nat.mod_eq_of_lt (by omega)
  show IntKind.i64.wrap ((BitVec.ofInt 64 (X : Int) &&& BitVec.ofInt 64 1).toNat : Int) = _
  rw [BitVec.toNat_and, ofI, h1, Nat.and_two_pow_sub_one_eq_mod, IntKind.wrap_i64]
  omega

set_option maxRecDepth 100000 in
theorem sizeS_any (S : Nat) (w : World) (hS : S < 1024) :
    Calls Tryd.prog 73 #[.int .i64 S] w fun e w' => e = .returned (.int .i64 (ones S)) ∧ w = w' := by
  have ho := onesF_le 10 S
  go_enter Tryd.func73, Tryd.ntmps73
  go_wp2
  go_loop [3, 4] (fun n x => ∃ (f X c : Nat), x = .int .i64 X ∧ n = .int .i64 c ∧ X < 1024 ∧ Hid (X < 2 ^ f ∧ c + onesF f X = ones S)) (fun _ x => (intOf x).toNat)
  case atStart => exact ⟨10, S, 0, rfl, rfl, hS, Lib.hid ⟨hS, by rw [Nat.zero_add]; rfl⟩⟩
  case round =>
    obtain ⟨f, X, c, rfl, rfl, hX, hh⟩ := hrel
    by_cases h0 : 0 < X
    · obtain ⟨h1, h2⟩ := hh.out
      cases f with
      | zero => simp at h1; omega
      | succ f =>
        have h3 : X / 2 < 2 ^ f := by rw [Nat.pow_succ] at h1; omega
        have h4 : c + X % 2 + onesF f (X / 2) = ones S := by rw [← h2, show onesF (f + 1) X = X % 2 + onesF f (X / 2) from rfl]; omega
        have hc : c + X % 2 ≤ 10 := by unfold ones at h4; omega
        have HH := Lib.hid (And.intro h3 h4)
        have hand := and_one X (by omega)
        have hdiv : ((X / 2 : Nat) : Int) = (X : Int) / 2 := by omega
        have HD := Lib.hid hdiv
        have h0i : (0 : Int) < (X : Int) := by omega
        generalize hY : X % 2 = Y at hand HH hc
        have hY2 : Y < 2 := by omega
        have hsum : IntKind.i64.wrap ((c : Int) + (Y : Int)) = ((c + Y : Nat) : Int) := by rw [IntWalk.i64_in _ (by omega)]; omega
        clear h1 h2 h3 h4 hdiv hY
        go_wp2
        go_round
        case rel => exact ⟨f, X / 2, c + Y, by rw [HD.out], by go_num, by omega, HH⟩
        case measure => simp [intOf]; omega
    · obtain rfl : X = 0 := by omega
      have h2 := hh.out.2
      rw [onesF_zero, Nat.add_zero] at h2
      subst h2
      go_wp2
      go_ret
      exact ⟨rfl, rfl⟩

/-- The second loop, with the values in range. -/
theorem concTo_succ {v : List Int} {c : Nat} (h : concaveTo v c) (hs : v.getD c 0 - v.getD (c - 1) 0 ≤ v.getD (c - 1) 0 - v.getD (c - 2) 0) : concaveTo v (c + 1) := fun i hi h2 => by
  by_cases e : i = c
  · subst e; exact hs
  · exact h i (by omega) h2

end Go.Proofs.YtfpoiiennlhphaaDoor.C

namespace Go.Proofs.YtfpoiiennlhphaaDoor.C
open Go.RowKit K M
set_option linter.unusedVariables false
set_option linter.unusedSimpArgs false

/-- Where the library's table of trailing zeros reads as it is laid. -/
def Brujn (w : World) : Prop := Lib.TabIs Tryd.prog w "math/bits.deBruijn64tab" .u8 (Lib.deBruijn64tab.map fun n : Nat => (n : Int))
theorem brujn_on {w w' : World} (h : Brujn w) (hb : Below w.heap.size w w') : Brujn w' :=
  Joins.tab_stays (g := 1) (by kernel_rfl) h hb (Nat.le_refl _)

set_option maxHeartbeats 1000000 in
theorem tz64_core (x k idx : Nat) (w : World) (hx0 : ((x : Int) == 0) = false)
    (key : IntKind.u64.wrap (bits BinOp.and IntKind.u64 (x : Int) (IntKind.u64.wrap (-(x : Int))) * 285870213051353865) / 288230376151711744 = (idx : Int))
    (hi : idx < 64) (hk : k < 64) (hcell : w.cell? ⟨1, idx, none⟩ = some (.int .u8 k)) :
    Calls Tryd.prog 132 #[.int .u64 x] w fun e w' => e = .returned (.int .i64 k) ∧ w = w' := by
  go_enter Tryd.func132, Tryd.ntmps132
  go_wp2_with (simp only [key])
  go_ret
  exact ⟨rfl, rfl⟩

theorem brujn_cell {w : World} (h : Brujn w) (idx k : Nat) (hi : idx < 64) (ht : Lib.deBruijn64tab.getD idx 0 = k) : w.cell? ⟨1, idx, none⟩ = some (.int .u8 k) := by
  have hl : idx < (Lib.deBruijn64tab.map fun n : Nat => (n : Int)).length := by
    rw [List.length_map]; exact hi
  have := Lib.TabIs.cell (g := 1) h (by kernel_rfl) idx hl
  rw [this, ← ht]
  have hl2 : idx < Lib.deBruijn64tab.length := hi
  simp only [List.getD_eq_getElem?_getD, List.getElem?_map, List.getElem?_eq_getElem hl2, Option.map_some, Option.getD_some]

theorem tz64_any (x : Nat) (hx : x < 18446744073709551616) (hx0 : x ≠ 0) (w : World) (h : Hid (Brujn w)) :
    Calls Tryd.prog 132 #[.int .u64 x] w fun e w' => e = .returned (.int .i64 (Lib.ctz 64 x)) ∧ w = w' := by
  obtain ⟨hlow, hk⟩ := Lib.lowest_bit 64 x hx0 hx
  obtain ⟨hi, htab⟩ := Lib.deBruijn64_at _ hk
  exact tz64_core x _ _ w (beq_eq_false_iff_ne.2 (by omega)) (tz64_key x _ hx hx0 hlow) hi hk (brujn_cell h.out _ _ hi htab)

theorem tz_any (x : Nat) (hx : x < 18446744073709551616) (hx0 : x ≠ 0) (w : World) (h : Hid (Brujn w)) :
    Calls Tryd.prog 128 #[.int .u64 x] w fun e w' => e = .returned (.int .i64 (Lib.ctz 64 x)) ∧ w = w' := by
  have hw : IntKind.u64.wrap (x : Int) = (x : Int) := by rw [IntKind.wrap_u64]; omega
  go_enter Tryd.func128, Tryd.ntmps128
  go_wp2_with (first | (go_at_call 132; refine (tz64_any x hx hx0 _ h).mono ?_; rintro e w' ⟨rfl, rfl⟩))
  go_ret
  exact ⟨rfl, rfl⟩

theorem and1 (X : Nat) (hX : X < 4294967296) : bits .and .i64 (X : Int) 1 = ((X % 2 : Nat) : Int) := by
  have h1 : (BitVec.ofInt 64 1).toNat = 2 ^ 1 - 1 := by decide
  have ofI : (BitVec.ofInt 64 (X : Int)).toNat = X := by
    rw [BitVec.ofInt_natCast, BitVec.toNat_ofNat]; exact Nat.mod_eq_of_lt (by omega)
  show IntKind.i64.wrap ((BitVec.ofInt 64 (X : Int) &&& BitVec.ofInt 64 1).toNat : Int) = _
  rw [BitVec.toNat_and, ofI, h1, Nat.and_two_pow_sub_one_eq_mod, IntKind.wrap_i64]
  omega
theorem andPred (X : Nat) (h0 : 0 < X) (hX : X < 4294967296) : bits .and .i64 (X : Int) ((X : Int) - 1) = ((X &&& (X - 1) : Nat) : Int) := by
  have ofI : ∀ a : Nat, a < 9223372036854775808 → (BitVec.ofInt 64 (a : Int)).toNat = a := fun a ha => by
    rw [BitVec.ofInt_natCast, BitVec.toNat_ofNat]; exact Nat.mod_eq_of_lt (by omega)
  have e : (X : Int) - 1 = ((X - 1 : Nat) : Int) := by omega
  have hx : X &&& (X - 1) ≤ X := Nat.and_le_left
  show IntKind.i64.wrap ((BitVec.ofInt 64 (X : Int) &&& BitVec.ofInt 64 ((X : Int) - 1)).toNat : Int) = _
  rw [e, BitVec.toNat_and, ofI X (by omega), ofI (X - 1) (by omega), IntKind.wrap_i64]
  omega

set_option maxRecDepth 100000 in
set_option maxHeartbeats 1600000 in
theorem listS_any (S : Nat) (w : World) (hS : S < 1024) :
    Calls Tryd.prog 114 #[.int .i64 S] w (RetI w (els S)) := by
  have HW := Lib.hid (St.start w)
  obtain ⟨i0, hi, hz0, hz1, hz2⟩ := info_parts info_int
  go_enter Tryd.func114, Tryd.ntmps114
  go_wp2
  go_loopw [3, 4, 5] (fun o i x wr => ∃ (f j X n : Nat) (V : Option Addr) (c : Nat) (ys : List Int), x = .int .i64 X ∧ i = .int .i64 j ∧ o = .slice V n c ∧ j + f = 10 ∧ n ≤ j ∧ X < 2 ^ f ∧ ys ++ elsF f j X = els S ∧ St w wr [il (.slice V n c) n ys]) (fun _ _ x _ => (intOf x).toNat)
  case atStart => exact ⟨10, 0, S, 0, _, _, [], rfl, rfl, rfl, rfl, Nat.le_refl _, by omega, rfl, HW.out.empty⟩
  case round =>
    obtain ⟨f, j, X, n, V, c, ys, rfl, rfl, rfl, hjf, hn, hX, he, hS1⟩ := hrel
    have HS := Lib.hid hS1
    have HE := Lib.hid he
    have hXb : X < 1024 := Nat.lt_of_lt_of_le hX (Nat.pow_le_pow_right (by decide) (by omega : f ≤ 10))
    clear hS1 he
    by_cases h0 : 0 < X
    · cases f with
      | zero => simp at hX; omega
      | succ f =>
        have hX2 : X / 2 < 2 ^ f := by rw [Nat.pow_succ] at hX; omega
        have HX := Lib.hid hX2
        clear hX hX2
        have h0i : (0 : Int) < (X : Int) := by omega
        have hdiv : ((X / 2 : Nat) : Int) = (X : Int) / 2 := by omega
        have HD := Lib.hid hdiv
        clear hdiv
        by_cases hodd : X % 2 = 1
        · have hand : bits .and .i64 (X : Int) 1 = 1 := by rw [and1 X (by omega), hodd]; rfl
          have HO := Lib.hid (elsF_odd (f := f) (i := j) hodd)
          clear hodd
          go_wp2_with (at_builtin; refine wpList_app1 rfl (.tmp 15) (.tmp 17) 24 rfl (j : Int) Tryd.underlying24 hi hz0 hz1 hz2 ((HS.out.alloc _ _).drop 0) (i := 0) rfl rfl rfl (by simp) (by omega) ?_; intro V' c' w2 hS2)
          have HS2 := Lib.hid hS2
          clear hS2 hand
          go_wp2
          go_roundw
          case rel => exact ⟨f, j + 1, X / 2, n + 1, V', c', ys ++ [(j : Int)], by rw [HD.out], by go_num, rfl, by omega, by omega, HX.out, by rw [List.append_assoc, List.singleton_append, ← HO.out]; exact HE.out, HS2.out⟩
          case measure => simp [intOf]; omega
        · have hand : bits .and .i64 (X : Int) 1 = 0 := by rw [and1 X (by omega)]; omega
          have HO := Lib.hid (elsF_even (f := f) (i := j) h0 hodd)
          clear hodd
          go_wp2
          go_roundw
          case rel => exact ⟨f, j + 1, X / 2, n, V, c, ys, by rw [HD.out], by go_num, rfl, by omega, by omega, HX.out, by rw [← HO.out]; exact HE.out, HS.out⟩
          case measure => simp [intOf]; omega
    · obtain rfl : X = 0 := by omega
      have hfin := HE.out
      rw [elsF_zero, List.append_nil] at hfin
      have HF := Lib.hid hfin
      clear hfin hX hXb h0
      go_wp2
      go_ret
      have ho := HS.out.ownI (i := 0) rfl
      have hl : ys.length = n := OwnN.len (HS.out.own (i := 0) rfl)
      rw [← HF.out]
      exact ⟨V, c, by rw [hl]; rfl, by rw [hl]; exact ho, HS.out.base⟩

set_option maxRecDepth 100000 in
set_option maxHeartbeats 1600000 in
theorem listI_any (S : Nat) (w : World) (hS : S < 1024) (hb : Hid (Brujn w)) :
    Calls Tryd.prog 120 #[.int .i64 S] w (RetI w (els S)) := by
  have HW := Lib.hid (St.start w)
  obtain ⟨i0, hi, hz0, hz1, hz2⟩ := info_parts info_int
  go_enter Tryd.func120, Tryd.ntmps120
  go_wp2
  go_loopw [3, 4] (fun o x wr => ∃ (X n : Nat) (V : Option Addr) (c : Nat) (ys : List Int), x = .int .i64 X ∧ o = .slice V n c ∧ X < 1024 ∧ n ≤ 10 ∧ ys ++ els X = els S ∧ St w wr [il (.slice V n c) n ys]) (fun _ x _ => (intOf x).toNat)
  case atStart => exact ⟨S, 0, _, _, [], rfl, rfl, hS, by omega, rfl, HW.out.nil⟩
  case round =>
    obtain ⟨X, n, V, c, ys, rfl, rfl, hX, hn, he, hS1⟩ := hrel
    have HB := Lib.hid (brujn_on hb.out (hS1.base.mono (Nat.le_refl _)))
    have HS := Lib.hid hS1
    have HE := Lib.hid he
    by_cases h0 : X = 0
    · subst h0
      have hl : ys.length = n := OwnN.len (hS1.own (i := 0) rfl)
      have HL := Lib.hid hl
      clear hS1 he hX hl
      go_wp2
      go_ret
      have ho := HS.out.ownI (i := 0) rfl
      have hf := HE.out
      rw [show els 0 = [] from rfl, List.append_nil] at hf
      rw [← hf]
      exact ⟨V, c, by rw [HL.out]; rfl, by rw [HL.out]; exact ho, HS.out.base⟩
    · have hlow := els_low X hX h0
      have hless := els_less X hX h0
      have hn9 : n + 1 ≤ 10 := by
        have h1 := congrArg List.length he
        have h2 := els_len S
        have h3 : ys.length = n := OwnN.len (hS1.own (i := 0) rfl)
        rw [hlow] at h1
        simp at h1
        omega
      have hap := andPred X (by omega) (by omega)
      have hw64 : IntKind.u64.wrap (X : Int) = (X : Int) := by rw [IntKind.wrap_u64]; omega
      have HLO := Lib.hid hlow
      have hne : ((X : Int) == 0) = false := beq_eq_false_iff_ne.2 (by omega)
      have hne2 : ((X : Int) != 0) = true := bne_iff_ne.2 (by omega)
      have hpos : (1 : Int) ≤ (X : Int) := by omega
      have HT := Lib.hid (tz_any X (by omega) h0 wr HB)
      generalize Lib.ctz 64 X = k at HLO HT
      generalize X &&& (X - 1) = Y at HLO hless hap
      clear hS1 he hlow h0
      go_wp2_with (first
        | (go_at_call 128; refine HT.out.mono ?_; rintro e w' ⟨rfl, rfl⟩)
        | (at_builtin; refine wpList_app1 rfl (.tmp 12) (.tmp 16) 24 rfl (k : Int) Tryd.underlying24 hi hz0 hz1 hz2 ((HS.out.alloc _ _).drop 0) (i := 0) rfl rfl rfl (by simp) (by omega) ?_; intro V' c' w2 hS2; have HS2 := Lib.hid hS2; clear hS2))
      go_roundw
      case rel => exact ⟨Y, n + 1, V', c', ys ++ [(k : Int)], rfl, rfl, by omega, by omega, by rw [List.append_assoc, List.singleton_append, ← HLO.out]; exact HE.out, HS2.out⟩
      case measure => simp [intOf]; omega

end Go.Proofs.YtfpoiiennlhphaaDoor.C

namespace Go.Proofs.YtfpoiiennlhphaaDoor.C
open Go.RowKit K
set_option linter.unusedVariables false
set_option linter.unusedSimpArgs false

theorem szFun_ok (n : Int) (A : Option Addr) (m cap : Nat) (left : Int) (w : World) (h : (m : Int) ≤ left) (hl : left ≤ 1048576) :
    Calls Tryd.prog 52 #[.agg #[.int .i64 n, .slice A m cap], .int .i64 left] w fun e w' => e = .returned (.int .i64 (left - m)) ∧ Below w.heap.size w w' := by
  go_enter Tryd.func52, Tryd.ntmps52
  go_wp2_with (go_at_call 107; refine (szInts_ok A m cap left _ h hl).mono ?_; rintro e w' ⟨rfl, rfl⟩)
  go_ret
  exact ⟨rfl, (Below.refl _ _).alloc (Nat.le_refl _) _⟩

theorem szFun_over (n : Int) (A : Option Addr) (m cap : Nat) (left : Int) (w : World) (h : left < (m : Int)) (h0 : 0 ≤ left) (hm : m ≤ 9223372036854775807) :
    Calls Tryd.prog 52 #[.agg #[.int .i64 n, .slice A m cap], .int .i64 left] w fun e w' => e = .returned (.int .i64 (-1)) ∧ Below w.heap.size w w' := by
  go_enter Tryd.func52, Tryd.ntmps52
  go_wp2_with (go_at_call 107; refine (szInts_over A m cap left _ h h0 hm).mono ?_; rintro e w' ⟨rfl, rfl⟩)
  go_ret
  exact ⟨rfl, (Below.refl _ _).alloc (Nat.le_refl _) _⟩

set_option maxHeartbeats 800000 in
theorem toFun_any (n : Int) (A : Option Addr) (xs : List Int) (cap : Nat) (w : World) (h : Hid (Ints w w.heap.size A xs)) (hn : xs.length ≤ 1048576) :
    Calls Tryd.prog 53 #[.agg #[.int .i64 n, .slice A xs.length cap]] w (RetF w n xs) := by
  go_enter Tryd.func53, Tryd.ntmps53
  go_wp2_with fail
  refine St.use (w0 := w) (L := ?L) ?sa ?sb
  case sa => exact (((St.start w).alloc _ _).alloc _ _).alloc _ _
  intro hS
  simp only [World.size_alloc] at hS
  refine (toInts_any A xs cap _ (Lib.hid ((h.out.below hS.base).mono hS.size)) hn).mono ?_
  rintro e w1 ⟨A1, c1, rfl, ho, hb⟩
  have hS1 := hS.newI hb ho
  obtain ⟨p1, q1⟩ := hS1.box (i := 1) rfl
  have p10 := p1 0 _ rfl
  have p11 := p1 1 _ rfl
  have q11 := q1 1
  obtain ⟨p2, q2⟩ := hS1.box (i := 2) rfl
  have p20 := p2 0 _ rfl
  have p21 := p2 1 _ rfl
  have q20 := q2 0
  have q21 := q2 1
  have HO := Lib.hid (hS1.ownI (i := 0) rfl)
  clear p1 q1 p2 q2 hS ho hb
  have HS1 := Lib.hid hS1
  clear hS1
  go_wp2
  have hS2 := ((HS1.out.store (i := 1) rfl 1 (.slice A1 xs.length c1)).store (i := 2) rfl 0 (.int .i64 n)).store (i := 2) rfl 1 (.slice A1 xs.length c1)
  exact bodyPost_ret (v := .agg #[.int .i64 n, .slice A1 xs.length c1]) (by simp [results, Tryd.results53, go_sem, p10, p11, p20, p21, q11, q20, q21]) rfl ⟨A1, c1, rfl, hS2.ownI (i := 0) rfl, hS2.base⟩

set_option maxHeartbeats 800000 in
theorem eqFun_same (n : Int) (A C : Option Addr) (xs : List Int) (cap dap : Nat) (w : World) (h : Hid (Ints w w.heap.size A xs)) (g : Hid (Ints w w.heap.size C xs)) (hn : xs.length ≤ 9223372036854775807) :
    Calls Tryd.prog 55 #[.agg #[.int .i64 n, .slice A xs.length cap], .agg #[.int .i64 n, .slice C xs.length dap]] w (RetV w (.bool true)) := by
  go_enter Tryd.func55, Tryd.ntmps55
  go_wp2_with fail
  refine St.use (w0 := w) (L := ?L) ?sa ?sb
  case sa => exact ((St.start w).alloc _ _).alloc _ _
  intro hS
  refine (eqInts_same A C xs cap dap _ (Lib.hid ((h.out.below hS.base).mono hS.size)) (Lib.hid ((g.out.below hS.base).mono hS.size)) hn).mono ?_
  rintro e w1 ⟨rfl, m, rfl⟩
  have HS := Lib.hid (hS.drewN m)
  clear hS
  go_wp2
  go_ret
  exact ⟨rfl, HS.out.base⟩

set_option maxHeartbeats 800000 in
theorem markFun_any (n : Int) (A : Option Addr) (xs : List Int) (cap lo : Nat) (k : Int) (w : World) (h : Hid (Own w lo (.slice A xs.length cap) xs)) (h0 : 0 ≤ k) (hk : k ≤ 4611686018427387904) (hn : xs.length ≤ 1048576) :
    Calls Tryd.prog 57 #[.agg #[.int .i64 n, .slice A xs.length cap], .int .i64 k] w fun e w' => e = .returned (.int .i64 (k + xs.length)) ∧ OwnN w' lo (.slice A xs.length cap) xs.length (iota k xs.length) ∧ w.grownBy w' (Value.ownBlock (.slice A xs.length cap)) := by
  go_enter Tryd.func57, Tryd.ntmps57
  go_wp2_with fail
  refine (markInts_any A xs cap lo k _ (Lib.hid (h.out.below ((Below.refl _ _).alloc (Nat.le_refl _) _))) h0 hk hn).mono ?_
  rintro e w1 ⟨rfl, ho, hg⟩
  have HO := Lib.hid ho
  have HG := Lib.hid (World.grownBy.trans (World.grownBy_alloc w _ _) hg)
  clear ho hg
  go_wp2
  go_ret
  exact ⟨rfl, HO.out, HG.out⟩

set_option maxHeartbeats 800000 in
theorem heldFun_any (n : Int) (A : Option Addr) (m cap : Nat) (k : Int) (w : World) (h : Hid (Ints w w.heap.size A (iota k m))) (h0 : 0 ≤ k) (hk : k ≤ 4611686018427387904) (hn : m ≤ 1048576) :
    Calls Tryd.prog 59 #[.agg #[.int .i64 n, .slice A m cap], .int .i64 k] w (RetV w (.int .i64 (k + m))) := by
  go_enter Tryd.func59, Tryd.ntmps59
  go_wp2_with fail
  refine (heldInts_any A m cap k _ (Lib.hid ((h.out.below ((Below.refl _ _).alloc (Nat.le_refl _) _)).mono (by simp))) h0 hk hn).mono ?_
  rintro e w1 ⟨rfl, rfl⟩
  go_wp2
  go_ret
  exact ⟨rfl, (Below.refl _ _).alloc (Nat.le_refl _) _⟩

end Go.Proofs.YtfpoiiennlhphaaDoor.C

namespace Go.Proofs.YtfpoiiennlhphaaDoor.M
open Go.RowKit
set_option linter.unusedVariables false

/-- Part number i of s, in ascending order. -/
def partN (s i : Nat) : Nat := spread (els s) i (ones s)
def parts (s : Nat) : List Int := tab (2 ^ ones s) fun i => ((partN s i : Nat) : Int)
theorem parts_len (s : Nat) : (parts s).length = 2 ^ ones s := tab_length _ _
theorem parts_at {s i : Nat} (h : i < 2 ^ ones s) : (parts s).getD i 0 = ((partN s i : Nat) : Int) := by unfold parts; rw [tab_at _ h]
theorem part_zero (s : Nat) : partN s 0 = 0 := spread_zero _ _
theorem part_le : ∀ s, s < 32 → ∀ i, i < 32 → partN s i ≤ s := by decide +kernel
theorem part_up : ∀ s, s < 32 → ∀ i, i < 32 → i + 1 < 2 ^ ones s → partN s i < partN s (i + 1) := by decide +kernel
theorem part_last : ∀ s, s < 32 → partN s (2 ^ ones s - 1) = s := by decide +kernel
theorem part_next : ∀ s, s < 32 → ∀ i, i < 32 → i + 1 < 2 ^ ones s → bits .and .i64 (IntKind.i64.wrap (bits .or .i64 (partN s i : Int) (bits .xor .i64 (-1) (s : Int)) + 1)) (s : Int) = ((partN s (i + 1) : Nat) : Int) := by decide +kernel
theorem ones_pow {s : Nat} (h : s < 32) : 2 ^ ones s ≤ 32 := by
  have h1 := ones_le5 5 (Nat.le_refl _) s (by omega)
  exact Nat.le_trans (Nat.pow_le_pow_right (by decide) h1) (by decide)
theorem part_ne {s i : Nat} (h : s < 32) (hi : i + 1 < 2 ^ ones s) : ((partN s i : Int) == (s : Int)) = false := by
  have h1 := ones_pow h
  have h2 := part_up s h i (by omega) hi
  have h3 := part_le s h (i + 1) (by omega)
  exact beq_eq_false_iff_ne.2 (by omega)
theorem part_end {s i : Nat} (h : s < 32) (hi : i + 1 = 2 ^ ones s) : partN s i = s := by
  have := part_last s h
  rwa [← hi, Nat.add_sub_cancel] at this
theorem restV_part (xs : List Int) (s i : Nat) : restV xs s i = xs.getD (partN s i) 0 := rfl
theorem contV_part (xs : List Int) (s r i : Nat) : contV xs s r i = xs.getD (s ||| partN r i) 0 - xs.getD s 0 := rfl

end Go.Proofs.YtfpoiiennlhphaaDoor.M

namespace Go.Proofs.YtfpoiiennlhphaaDoor.C
open Go.RowKit K M
set_option linter.unusedVariables false
set_option linter.unusedSimpArgs false

set_option maxRecDepth 100000 in
set_option maxHeartbeats 4000000 in
theorem make_on (n : Int) (m : Nat) (f : Nat → Int) (p1 p2 : Value) (w : World) (h0 : 0 ≤ n) (h5 : n ≤ 5) (hm : m = 2 ^ n.toNat) (rn : Int) (rx : List Int) (rb : Bool) (HR : Hid (made n (tab m f) = (rn, rx, rb)))
    (hf : Hid (∀ j, j < m → ∀ W, Below w.heap.size w W → Calls Tryd.prog 113 #[.int .i64 j, p1, p2] W (RetV W (.int .i64 (f j))))) :
    Calls Tryd.prog 84 #[.int .i64 n, .func (.func 113) #[] #[p1, p2]] w (RetFB w rn rx rb) := by
  have hsh := shl_one h0 (by omega) hm
  have hp := p2_le h0 h5
  rw [← hm] at hp
  obtain ⟨hp1, hp2⟩ := hp
  clear hm
  have HW := Lib.hid (St.start w)
  obtain ⟨i0, hi, hi0, hi1, hi2⟩ := info_parts info_int
  go_enter Tryd.func84, Tryd.ntmps84
  go_wp2_with (refine wpList_make_full _ rfl _ _ _ rfl (w.heap.size + 1) 3 i0 (.int .i64 0) 1 Tryd.underlying24 hi hi0 hi1 .i64 .i64 _ _ m rfl rfl (by simp [hsh]) (by simp [hsh]) (by rw [hi2]; omega) (by unfold maxLen; omega) (by simp) ?_; intro w1 hown1 hg1)
  rw [zeros] at hown1
  simp only [World.size_alloc] at hown1
  have HS1 := Lib.hid (show St w _ [bx w1.heap.size 26 [.int .i64 n, .slice (some ⟨w.heap.size + 1, 0, none⟩) m m], il (.slice (some ⟨w.heap.size + 1, 0, none⟩) m m) m (List.replicate m 0), bx w.heap.size 26 [.int .i64 0, .slice none 0 0]] from ((HW.out.alloc _ _).new ((Below.refl _ _).grown hg1 (Nat.le_refl _) (by simp)) (by rw [World.size_alloc]; exact hown1)).alloc _ _)
  have hz1 : w.heap.size + 1 < w1.heap.size := (hown1.lt _ rfl).2
  have hne : ¬ w.heap.size + 1 = w1.heap.size := by omega
  clear hown1 hg1 hsh
  go_loopw [7, 16] (fun _ i wr => ∃ (j : Nat) (ys : List Int), i = .int .i64 j ∧ j ≤ m ∧ ys.length = m ∧ ys.take j = tab j f ∧ St w wr [bx w1.heap.size 26 [.int .i64 n, .slice (some ⟨w.heap.size + 1, 0, none⟩) m m], il (.slice (some ⟨w.heap.size + 1, 0, none⟩) m m) m ys, bx w.heap.size 26 [.int .i64 0, .slice none 0 0]]) (fun _ i _ => m - (intOf i).toNat)
  case atStart => exact ⟨0, _, rfl, Nat.zero_le _, by simp, by simp [tab], HS1.out⟩
  case round =>
    obtain ⟨j, ys, rfl, hj, hy, ht, hS⟩ := hrel
    obtain ⟨b0, f0⟩ := hS.box (i := 0) rfl
    have b00 := b0 0 _ rfl
    have b01 := b0 1 _ rfl
    clear b0 f0
    have HL := Lib.hid hy
    have HT := Lib.hid ht
    have HS := Lib.hid hS
    by_cases hlt : j < m
    · obtain ⟨c1, c2⟩ := hS.cellI (i := 1) rfl hlt
      have hcall := Lib.hid (hf.out j hlt)
      have hj0 : (0 : Int) ≤ (j : Int) := by omega
      have hjn : (j : Int) < (m : Int) := by omega
      clear hS hy ht
      go_wp2
      go_region_held3 (fun w' => w'.cell? ⟨w1.heap.size, 1, none⟩ = some (.slice (some ⟨w.heap.size + 1, 0, none⟩) m m)) (first | assumption | go_keep) ((go_at_call 113; refine (hcall.out _ ?_).mono ?_; (first | exact HS.out.base | exact HS.out.drew.base); rintro e w2 ⟨rfl, hb⟩; have hS2 := HS.out.drew.below hb; obtain ⟨b0, -⟩ := hS2.box (i := 0) rfl; have b01' := b0 1 _ rfl; obtain ⟨c1', c2'⟩ := hS2.cellI (i := 1) rfl hlt; have HS2 := Lib.hid hS2; clear hS2 b0 hb b00 b01 c1 c2))
      have hS2 := HS2.out.setI (i := 1) rfl j (f j)
      clear HS2
      have HS2 := Lib.hid hS2
      clear hS2
      go_wp2
      go_roundw
      case rel => exact ⟨j + 1, ys.set j (f j), by go_num, by omega, by rw [List.length_set]; exact HL.out, tab_set f HL.out HT.out hlt, HS2.out⟩
      case measure => simp [intOf]; omega
    · obtain rfl : j = m := by omega
      have hjn : ¬ (j : Int) < (j : Int) := by omega
      obtain rfl : ys = tab j f := by rw [← ht, List.take_of_length_le (by omega)]
      clear hS hy ht
      cases hfn : isFn n (tab j f)
      · obtain ⟨rfl, rfl, rfl⟩ : 0 = rn ∧ [] = rx ∧ false = rb := by simpa [made, hfn] using HR.out
        have HF := isFnI_tab n (some ⟨w.heap.size + 1, 0, none⟩) (tab j f) j j _ (tab_length _ _) (Lib.hid (HS.out.ints (i := 1) rfl))
        rw [hfn] at HF
        have HG := Lib.hid HF
        clear hfn HF
        go_wp2_with fail
        refine HG.out.mono ?_
        rintro e w2 ⟨rfl, hb⟩
        have hS2 := HS.out.below hb
        obtain ⟨b0, -⟩ := hS2.box (i := 0) rfl
        have b00' := b0 0 _ rfl
        have b01' := b0 1 _ rfl
        obtain ⟨r1, rf⟩ := hS2.box (i := 2) rfl
        have r10 := r1 0 _ rfl
        have r11 := r1 1 _ rfl
        have rf0 := rf 0
        have rf1 := rf 1
        clear b0 r1 rf hb b00 b01
        have HS2 := Lib.hid hS2
        clear hS2
        go_wp2
        have hZ := (HS2.out.store (i := 2) rfl 0 (.int .i64 0)).store (i := 2) rfl 1 (.slice none 0 0)
        exact bodyPost_ret (v := .tuple #[.agg #[.int .i64 0, .slice none 0 0], .bool false]) (by simp [results, Tryd.results84, go_sem, r10, r11, rf0, rf1]) rfl ⟨none, 0, rfl, Own.nil _ _, hZ.base⟩
      · obtain ⟨rfl, rfl, rfl⟩ : n = rn ∧ tab j f = rx ∧ true = rb := by simpa [made, hfn] using HR.out
        have HF := isFnI_tab n (some ⟨w.heap.size + 1, 0, none⟩) (tab j f) j j _ (tab_length _ _) (Lib.hid (HS.out.ints (i := 1) rfl))
        rw [hfn] at HF
        have HG := Lib.hid HF
        clear hfn HF
        go_wp2_with fail
        refine HG.out.mono ?_
        rintro e w2 ⟨rfl, hb⟩
        have hS2 := HS.out.below hb
        obtain ⟨b0, -⟩ := hS2.box (i := 0) rfl
        have b00' := b0 0 _ rfl
        have b01' := b0 1 _ rfl
        obtain ⟨r1, rf⟩ := hS2.box (i := 2) rfl
        have r10 := r1 0 _ rfl
        have r11 := r1 1 _ rfl
        have rf0 := rf 0
        have rf1 := rf 1
        clear b0 r1 rf hb b00 b01
        have HS2 := Lib.hid hS2
        clear hS2
        go_wp2
        have hZ := (HS2.out.store (i := 2) rfl 0 (.int .i64 n)).store (i := 2) rfl 1 (.slice (some ⟨w.heap.size + 1, 0, none⟩) j j)
        exact bodyPost_ret (v := .tuple #[.agg #[.int .i64 n, .slice (some ⟨w.heap.size + 1, 0, none⟩) j j], .bool true]) (by simp [results, Tryd.results84, go_sem, r10, r11, rf0, rf1, b00', b01']) rfl ⟨some ⟨w.heap.size + 1, 0, none⟩, j, by rw [tab_length], by rw [tab_length]; exact hZ.ownI (i := 1) rfl, hZ.base⟩


end Go.Proofs.YtfpoiiennlhphaaDoor.C

namespace Go.Proofs.YtfpoiiennlhphaaDoor.C
open Go.RowKit K M
set_option linter.unusedVariables false
set_option linter.unusedSimpArgs false


end Go.Proofs.YtfpoiiennlhphaaDoor.C

namespace Go.Proofs.YtfpoiiennlhphaaDoor.C
open Go.RowKit K M
set_option linter.unusedVariables false
set_option linter.unusedSimpArgs false

set_option maxRecDepth 100000 in
theorem ones64 (S : Nat) (w : World) (hS : S < 64) :
    Calls Tryd.prog 130 #[.int .u64 S] w fun e w' => e = .returned (.int .i64 (ones S)) ∧ w = w' := by
  go_enter Tryd.func130, Tryd.ntmps130
  go_wp2
  go_ret
  refine ⟨congrArg (fun x : Int => Ending.returned (Value.int .i64 x)) ?_, rfl⟩
  revert S
  decide +kernel

theorem onesC (S : Nat) (w : World) (hS : S < 64) :
    Calls Tryd.prog 127 #[.int .u64 S] w fun e w' => e = .returned (.int .i64 (ones S)) ∧ w = w' := by
  go_enter Tryd.func127, Tryd.ntmps127
  go_wp2_with (go_at_call 130; refine (ones64 S _ hS).mono ?_; rintro e w' ⟨rfl, rfl⟩)
  go_ret
  exact ⟨rfl, rfl⟩

theorem sizeI_any (S : Nat) (w : World) (hS : S < 64) :
    Calls Tryd.prog 112 #[.int .i64 S] w fun e w' => e = .returned (.int .i64 (ones S)) ∧ w = w' := by
  have hw : IntKind.u64.wrap (S : Int) = (S : Int) := by rw [IntKind.wrap_u64]; omega
  go_enter Tryd.func112, Tryd.ntmps112
  go_wp2_with (go_at_call 127; refine (onesC S _ hS).mono ?_; rintro e w' ⟨rfl, rfl⟩)
  go_ret
  exact ⟨rfl, rfl⟩

end Go.Proofs.YtfpoiiennlhphaaDoor.C

namespace Go.Proofs.YtfpoiiennlhphaaDoor.C
open Go.RowKit K M
set_option linter.unusedVariables false
set_option linter.unusedSimpArgs false

set_option maxRecDepth 100000 in
set_option maxHeartbeats 4000000 in
theorem make_mod (n : Int) (m : Nat) (f : Nat → Int) (p1 p2 : Value) (w : World) (h0 : 0 ≤ n) (h5 : n ≤ 5) (hm : m = 2 ^ n.toNat) (rn : Int) (rx : List Int) (rb : Bool) (HR : Hid (made n (tab m f) = (rn, rx, rb)))
    (hf : Hid (∀ j, j < m → ∀ W, Below w.heap.size w W → Calls Tryd.prog 124 #[.int .i64 j, p1, p2] W (RetV W (.int .i64 (f j))))) :
    Calls Tryd.prog 84 #[.int .i64 n, .func (.func 124) #[] #[p1, p2]] w (RetFB w rn rx rb) := by
  have hsh := shl_one h0 (by omega) hm
  have hp := p2_le h0 h5
  rw [← hm] at hp
  obtain ⟨hp1, hp2⟩ := hp
  clear hm
  have HW := Lib.hid (St.start w)
  obtain ⟨i0, hi, hi0, hi1, hi2⟩ := info_parts info_int
  go_enter Tryd.func84, Tryd.ntmps84
  go_wp2_with (refine wpList_make_full _ rfl _ _ _ rfl (w.heap.size + 1) 3 i0 (.int .i64 0) 1 Tryd.underlying24 hi hi0 hi1 .i64 .i64 _ _ m rfl rfl (by simp [hsh]) (by simp [hsh]) (by rw [hi2]; omega) (by unfold maxLen; omega) (by simp) ?_; intro w1 hown1 hg1)
  rw [zeros] at hown1
  simp only [World.size_alloc] at hown1
  have HS1 := Lib.hid (show St w _ [bx w1.heap.size 26 [.int .i64 n, .slice (some ⟨w.heap.size + 1, 0, none⟩) m m], il (.slice (some ⟨w.heap.size + 1, 0, none⟩) m m) m (List.replicate m 0), bx w.heap.size 26 [.int .i64 0, .slice none 0 0]] from ((HW.out.alloc _ _).new ((Below.refl _ _).grown hg1 (Nat.le_refl _) (by simp)) (by rw [World.size_alloc]; exact hown1)).alloc _ _)
  have hz1 : w.heap.size + 1 < w1.heap.size := (hown1.lt _ rfl).2
  have hne : ¬ w.heap.size + 1 = w1.heap.size := by omega
  clear hown1 hg1 hsh
  go_loopw [7, 16] (fun _ i wr => ∃ (j : Nat) (ys : List Int), i = .int .i64 j ∧ j ≤ m ∧ ys.length = m ∧ ys.take j = tab j f ∧ St w wr [bx w1.heap.size 26 [.int .i64 n, .slice (some ⟨w.heap.size + 1, 0, none⟩) m m], il (.slice (some ⟨w.heap.size + 1, 0, none⟩) m m) m ys, bx w.heap.size 26 [.int .i64 0, .slice none 0 0]]) (fun _ i _ => m - (intOf i).toNat)
  case atStart => exact ⟨0, _, rfl, Nat.zero_le _, by simp, by simp [tab], HS1.out⟩
  case round =>
    obtain ⟨j, ys, rfl, hj, hy, ht, hS⟩ := hrel
    obtain ⟨b0, f0⟩ := hS.box (i := 0) rfl
    have b00 := b0 0 _ rfl
    have b01 := b0 1 _ rfl
    clear b0 f0
    have HL := Lib.hid hy
    have HT := Lib.hid ht
    have HS := Lib.hid hS
    by_cases hlt : j < m
    · obtain ⟨c1, c2⟩ := hS.cellI (i := 1) rfl hlt
      have hcall := Lib.hid (hf.out j hlt)
      have hj0 : (0 : Int) ≤ (j : Int) := by omega
      have hjn : (j : Int) < (m : Int) := by omega
      clear hS hy ht
      go_wp2
      go_region_held3 (fun w' => w'.cell? ⟨w1.heap.size, 1, none⟩ = some (.slice (some ⟨w.heap.size + 1, 0, none⟩) m m)) (first | assumption | go_keep) ((go_at_call 124; refine (hcall.out _ ?_).mono ?_; (first | exact HS.out.base | exact HS.out.drew.base); rintro e w2 ⟨rfl, hb⟩; have hS2 := HS.out.drew.below hb; obtain ⟨b0, -⟩ := hS2.box (i := 0) rfl; have b01' := b0 1 _ rfl; obtain ⟨c1', c2'⟩ := hS2.cellI (i := 1) rfl hlt; have HS2 := Lib.hid hS2; clear hS2 b0 hb b00 b01 c1 c2))
      have hS2 := HS2.out.setI (i := 1) rfl j (f j)
      clear HS2
      have HS2 := Lib.hid hS2
      clear hS2
      go_wp2
      go_roundw
      case rel => exact ⟨j + 1, ys.set j (f j), by go_num, by omega, by rw [List.length_set]; exact HL.out, tab_set f HL.out HT.out hlt, HS2.out⟩
      case measure => simp [intOf]; omega
    · obtain rfl : j = m := by omega
      have hjn : ¬ (j : Int) < (j : Int) := by omega
      obtain rfl : ys = tab j f := by rw [← ht, List.take_of_length_le (by omega)]
      clear hS hy ht
      cases hfn : isFn n (tab j f)
      · obtain ⟨rfl, rfl, rfl⟩ : 0 = rn ∧ [] = rx ∧ false = rb := by simpa [made, hfn] using HR.out
        have HF := isFnI_tab n (some ⟨w.heap.size + 1, 0, none⟩) (tab j f) j j _ (tab_length _ _) (Lib.hid (HS.out.ints (i := 1) rfl))
        rw [hfn] at HF
        have HG := Lib.hid HF
        clear hfn HF
        go_wp2_with fail
        refine HG.out.mono ?_
        rintro e w2 ⟨rfl, hb⟩
        have hS2 := HS.out.below hb
        obtain ⟨b0, -⟩ := hS2.box (i := 0) rfl
        have b00' := b0 0 _ rfl
        have b01' := b0 1 _ rfl
        obtain ⟨r1, rf⟩ := hS2.box (i := 2) rfl
        have r10 := r1 0 _ rfl
        have r11 := r1 1 _ rfl
        have rf0 := rf 0
        have rf1 := rf 1
        clear b0 r1 rf hb b00 b01
        have HS2 := Lib.hid hS2
        clear hS2
        go_wp2
        have hZ := (HS2.out.store (i := 2) rfl 0 (.int .i64 0)).store (i := 2) rfl 1 (.slice none 0 0)
        exact bodyPost_ret (v := .tuple #[.agg #[.int .i64 0, .slice none 0 0], .bool false]) (by simp [results, Tryd.results84, go_sem, r10, r11, rf0, rf1]) rfl ⟨none, 0, rfl, Own.nil _ _, hZ.base⟩
      · obtain ⟨rfl, rfl, rfl⟩ : n = rn ∧ tab j f = rx ∧ true = rb := by simpa [made, hfn] using HR.out
        have HF := isFnI_tab n (some ⟨w.heap.size + 1, 0, none⟩) (tab j f) j j _ (tab_length _ _) (Lib.hid (HS.out.ints (i := 1) rfl))
        rw [hfn] at HF
        have HG := Lib.hid HF
        clear hfn HF
        go_wp2_with fail
        refine HG.out.mono ?_
        rintro e w2 ⟨rfl, hb⟩
        have hS2 := HS.out.below hb
        obtain ⟨b0, -⟩ := hS2.box (i := 0) rfl
        have b00' := b0 0 _ rfl
        have b01' := b0 1 _ rfl
        obtain ⟨r1, rf⟩ := hS2.box (i := 2) rfl
        have r10 := r1 0 _ rfl
        have r11 := r1 1 _ rfl
        have rf0 := rf 0
        have rf1 := rf 1
        clear b0 r1 rf hb b00 b01
        have HS2 := Lib.hid hS2
        clear hS2
        go_wp2
        have hZ := (HS2.out.store (i := 2) rfl 0 (.int .i64 n)).store (i := 2) rfl 1 (.slice (some ⟨w.heap.size + 1, 0, none⟩) j j)
        exact bodyPost_ret (v := .tuple #[.agg #[.int .i64 n, .slice (some ⟨w.heap.size + 1, 0, none⟩) j j], .bool true]) (by simp [results, Tryd.results84, go_sem, r10, r11, rf0, rf1, b00', b01']) rfl ⟨some ⟨w.heap.size + 1, 0, none⟩, j, by rw [tab_length], by rw [tab_length]; exact hZ.ownI (i := 1) rfl, hZ.base⟩


end Go.Proofs.YtfpoiiennlhphaaDoor.C

namespace Go.Proofs.YtfpoiiennlhphaaDoor.C
open Go.RowKit K M
set_option linter.unusedVariables false
set_option linter.unusedSimpArgs false

set_option maxRecDepth 100000 in
set_option maxHeartbeats 1600000 in
theorem weighI_any (A : Option Addr) (ws : List Int) (cap S : Nat) (w : World) (h : Hid (Ints w w.heap.size A ws)) (hv : ∀ k, k < ws.length → -1000 ≤ ws.getD k 0 ∧ ws.getD k 0 ≤ 1000) (hm : ws.length ≤ 5) (hS : S < 2 ^ ws.length) (hb : Hid (Brujn w)) :
    Calls Tryd.prog 91 #[.slice A ws.length cap, .int .i64 S] w (RetV w (.int .i64 (weigh ws S ws.length))) := by
  have hS32 : S < 1024 := Nat.lt_of_lt_of_le hS (Nat.le_trans (Nat.pow_le_pow_right (by decide) hm) (by decide))
  have HT := Lib.hid (weigh_els ws S ws.length hS (by omega))
  have hat := Lib.hid (fun k (hk : k < (els S).length) => els_at S ws.length hS hk)
  have hdr := Lib.hid (fun k (hk : k < (els S).length) => wsum_drop ws (els S) hk)
  have hlen := els_len S
  have HE := Lib.hid (listI_any S w hS32 hb)
  obtain ⟨m, hxm⟩ : ∃ m, ws.length = m := ⟨_, rfl⟩
  rw [hxm] at hm HT hat hS ⊢
  generalize els S = es at *
  obtain ⟨l, hel⟩ : ∃ l, es.length = l := ⟨_, rfl⟩
  have HW := Lib.hid (St.start w)
  have HX := Lib.hid hxm
  have HV := Lib.hid hv
  have HL := Lib.hid hel
  rw [hel] at hlen hat hdr
  clear hv hxm hS hS32
  go_enter Tryd.func91, Tryd.ntmps91
  go_wp2_with fail
  refine HE.out.mono ?_
  rintro e w1 ⟨V, cc, rfl, ho, hb1⟩
  rw [hel]
  rw [hel] at ho
  have HS1 := Lib.hid (HW.out.newI hb1 ho)
  rw [hel] at HS1
  clear ho hb1 hel
  go_wp2
  go_loopw [5, 11] (fun y i wr => ∃ (k : Nat) (t : Int), i = .int .i64 k ∧ k ≤ l ∧ y = .int .i64 t ∧ Hid (-1000 * (k : Int) ≤ t ∧ t ≤ 1000 * (k : Int)) ∧ Hid (t + wsum ws (es.drop k) = weigh ws S m) ∧ St w wr [il (.slice V l cc) l es]) (fun _ i _ => l - (intOf i).toNat)
  case atStart => exact ⟨0, 0, rfl, Nat.zero_le _, rfl, Lib.hid (by omega), Lib.hid (by rw [List.drop_zero, HT.out]; omega), HS1.out⟩
  case round =>
    obtain ⟨k, t, rfl, hk, rfl, hbd, hsum, hS⟩ := hrel
    have HS := Lib.hid hS
    clear hS
    by_cases hlt : k < l
    · obtain ⟨b, off, rfl, hbl, hc0⟩ := (HS.out.ints (i := 0) rfl).at_ (k := k) (by rw [HL.out]; exact hlt)
      obtain ⟨g1, g2⟩ := hat.out k hlt
      have hd := hdr.out k hlt
      obtain ⟨E, hE⟩ : ∃ E : Nat, es.getD k 0 = (E : Int) := ⟨_, (Int.toNat_of_nonneg g1).symm⟩
      rw [hE] at hc0 g1 g2 hd
      rw [Int.toNat_natCast] at hd
      have hEm : E < m := by omega
      obtain ⟨b', off', rfl, hbl', hc'⟩ := h.out.at_ (k := E) (by rw [HX.out]; exact hEm)
      have d1 := (HS.out.base.cell (p := ⟨b', off' + E, none⟩) hbl').trans hc'
      obtain ⟨v1, v2⟩ := HV.out E (by rw [HX.out]; exact hEm)
      obtain ⟨t1, t2⟩ := hbd.out
      have hs := hsum.out
      rw [hd] at hs
      generalize ws.getD E 0 = x at d1 v1 v2 hs
      have hw : IntKind.i64.wrap (t + x) = t + x := IntWalk.i64_in _ (by omega)
      have HB := Lib.hid (show -1000 * ((k + 1 : Nat) : Int) ≤ t + x ∧ t + x ≤ 1000 * ((k + 1 : Nat) : Int) by omega)
      have HU := Lib.hid (show (t + x) + wsum ws (es.drop (k + 1)) = weigh ws S m by omega)
      have hk0 : (0 : Int) ≤ (k : Int) := by omega
      have hkl : (k : Int) < (l : Int) := by omega
      have hE0 : (0 : Int) ≤ (E : Int) := by omega
      have hEi : (E : Int) < (m : Int) := by omega
      clear hc' hs hd t1 t2 hE
      go_wp2
      go_roundw
      case rel => exact ⟨k + 1, t + x, by go_num, by omega, rfl, HB, HU, HS.out⟩
      case measure => simp [intOf]; omega
    · obtain rfl : k = l := by omega
      have hkl : ¬ (k : Int) < (k : Int) := by omega
      have hfin := hsum.out
      rw [List.drop_of_length_le (by rw [HL.out]; exact Nat.le_refl _)] at hfin
      have HF := Lib.hid (show t = weigh ws S m by simpa [wsum] using hfin)
      clear hfin
      go_wp2
      go_ret
      exact ⟨by rw [HF.out]; rfl, HS.out.base⟩

set_option maxRecDepth 100000 in
set_option maxHeartbeats 1600000 in
theorem modC (A : Option Addr) (ws : List Int) (cap S : Nat) (c : Int) (cb wb : Nat) (w : World) (h : Hid (Ints w w.heap.size A ws)) (hv : ∀ k, k < ws.length → -1000 ≤ ws.getD k 0 ∧ ws.getD k 0 ≤ 1000) (hm : ws.length ≤ 5) (hS : S < 2 ^ ws.length) (hb : Hid (Brujn w)) (c1 : -1000 ≤ c) (c2 : c ≤ 1000)
    (hc : w.cell? ⟨cb, 0, none⟩ = some (.int .i64 c)) (hw : w.cell? ⟨wb, 0, none⟩ = some (.slice A ws.length cap)) (lc : cb < w.heap.size) (lw : wb < w.heap.size) :
    Calls Tryd.prog 124 #[.int .i64 S, .pointer (some ⟨cb, 0, none⟩), .pointer (some ⟨wb, 0, none⟩)] w (RetV w (.int .i64 (c + weigh ws S ws.length))) := by
  have HC := Lib.hid (fun W (hW : Ints W W.heap.size A ws) (hB : Brujn W) => weighI_any A ws cap S W (Lib.hid hW) hv hm hS (Lib.hid hB))
  obtain ⟨g1, g2⟩ := weigh_bd hv S ws.length (Nat.le_refl _)
  generalize ws.length = m at *
  generalize weigh ws S m = y at *
  have hy : IntKind.i64.wrap (c + y) = c + y := IntWalk.i64_in _ (by omega)
  have HW := Lib.hid (St.start w)
  clear hv hS
  go_enter Tryd.func124, Tryd.ntmps124
  go_wp2
  go_region_held3 (fun w' => w'.cell? ⟨cb, 0, none⟩ = some (.int .i64 c) ∧ w'.cell? ⟨wb, 0, none⟩ = some (.slice A m cap)) (first | assumption | go_keep) ((go_at_call 91; refine (HC.out _ ?_ ?_).mono ?_; (first | exact h.out | exact h.out.drew); (first | exact hb.out | exact hb.out); rintro e w2 ⟨rfl, hb2⟩; have HB2 := Lib.hid (HW.out.drew.below hb2); have hc' := (hb2.cell (p := ⟨cb, 0, none⟩) lc).trans hc; have hw' := (hb2.cell (p := ⟨wb, 0, none⟩) lw).trans hw; clear hb2))
  go_wp2
  go_ret
  exact ⟨rfl, HB2.out.base⟩

end Go.Proofs.YtfpoiiennlhphaaDoor.C

namespace Go.Proofs.YtfpoiiennlhphaaDoor.C
open Go.RowKit K M
set_option linter.unusedVariables false
set_option linter.unusedSimpArgs false

theorem withinI_yes (L : Int) (A : Option Addr) (ws : List Int) (cap : Nat) (w : World) (h : Hid (Ints w w.heap.size A ws)) (h0 : 0 ≤ L) (h1 : L ≤ 1000) (hl : ws.length ≤ 1048576) (hv : ∀ k, k < ws.length → -L ≤ ws.getD k 0 ∧ ws.getD k 0 ≤ L) :
    Calls Tryd.prog 119 #[.int .i64 L, .slice A ws.length cap] w fun e w' => e = .returned (.bool true) ∧ w = w' := by
  have HV := Lib.hid hv
  obtain ⟨m, hm⟩ : ∃ m, ws.length = m := ⟨_, rfl⟩
  have HX := Lib.hid hm
  have hng : IntKind.i64.wrap (-L) = -L := IntWalk.i64_in _ (by omega)
  rw [hm] at hl ⊢
  clear hv hm
  go_enter Tryd.func119, Tryd.ntmps119
  go_wp2
  go_loop [9] (fun i => ∃ k : Nat, k ≤ m ∧ i = .int .i64 k) (fun i => m - (intOf i).toNat)
  case atStart => exact ⟨0, Nat.zero_le _, rfl⟩
  case round =>
    obtain ⟨k, hk, rfl⟩ := hrel
    by_cases hlt : k < m
    · obtain ⟨b, off, rfl, hbl, hc⟩ := h.out.at_ (k := k) (by rw [HX.out]; omega)
      have hk0 : (0 : Int) ≤ (k : Int) := by omega
      have hkn : (k : Int) < (m : Int) := by omega
      obtain ⟨v1, v2⟩ := HV.out k (by rw [HX.out]; exact hlt)
      generalize ws.getD k 0 = x at hc v1 v2
      have v1' : ¬ x < -L := by omega
      have v2' : ¬ L < x := by omega
      go_wp2
      go_round
      case rel => exact ⟨k + 1, by omega, by go_num⟩
      case measure => simp [intOf]; omega
    · obtain rfl : k = m := by omega
      have hkn : ¬ (k : Int) < (k : Int) := by omega
      go_wp2
      go_ret
      exact ⟨rfl, rfl⟩

theorem withinI_no (L : Int) (A : Option Addr) (ws : List Int) (cap : Nat) (w : World) (h : Hid (Ints w w.heap.size A ws)) (h0 : 0 ≤ L) (h1 : L ≤ 1000) (hl : ws.length ≤ 1048576) (j : Nat) (hj : j < ws.length) (hb : ws.getD j 0 < -L ∨ L < ws.getD j 0) (hv : ∀ k, k < j → -L ≤ ws.getD k 0 ∧ ws.getD k 0 ≤ L) :
    Calls Tryd.prog 119 #[.int .i64 L, .slice A ws.length cap] w fun e w' => e = .returned (.bool false) ∧ w = w' := by
  have HV := Lib.hid hv
  have HB := Lib.hid hb
  obtain ⟨m, hm⟩ : ∃ m, ws.length = m := ⟨_, rfl⟩
  have HX := Lib.hid hm
  have hng : IntKind.i64.wrap (-L) = -L := IntWalk.i64_in _ (by omega)
  rw [hm] at hj hl ⊢
  clear hv hm hb
  go_enter Tryd.func119, Tryd.ntmps119
  go_wp2
  go_loop [9] (fun i => ∃ k : Nat, k ≤ j ∧ i = .int .i64 k) (fun i => m - (intOf i).toNat)
  case atStart => exact ⟨0, Nat.zero_le _, rfl⟩
  case round =>
    obtain ⟨k, hk, rfl⟩ := hrel
    obtain ⟨b, off, rfl, hbl, hc⟩ := h.out.at_ (k := k) (by rw [HX.out]; omega)
    have hk0 : (0 : Int) ≤ (k : Int) := by omega
    have hkn : (k : Int) < (m : Int) := by omega
    by_cases hlt : k < j
    · obtain ⟨v1, v2⟩ := HV.out k hlt
      generalize ws.getD k 0 = x at hc v1 v2
      have v1' : ¬ x < -L := by omega
      have v2' : ¬ L < x := by omega
      go_wp2
      go_round
      case rel => exact ⟨k + 1, by omega, by go_num⟩
      case measure => simp [intOf]; omega
    · obtain rfl : k = j := by omega
      have hb := HB.out
      clear HB HV
      generalize ws.getD k 0 = x at hc hb
      by_cases c1 : x < -L
      · clear hb
        go_wp2
        go_ret
        exact ⟨rfl, rfl⟩
      · have c2 : L < x := by omega
        clear hb
        go_wp2
        go_ret
        exact ⟨rfl, rfl⟩

theorem areI_yes (A : Option Addr) (ws : List Int) (cap : Nat) (w : World) (h : Hid (Ints w w.heap.size A ws)) (hl : ws.length ≤ 1048576) (hv : weightsOk ws) :
    Calls Tryd.prog 89 #[.slice A ws.length cap] w fun e w' => e = .returned (.bool true) ∧ w = w' := by
  have HC := Lib.hid (withinI_yes 1000 A ws cap w h (by decide) (by decide) hl hv)
  clear hv h
  go_enter Tryd.func89, Tryd.ntmps89
  go_wp2_with (go_at_call 119; refine HC.out.mono ?_; rintro e w' ⟨rfl, rfl⟩)
  go_ret
  exact ⟨rfl, rfl⟩

theorem areI_no (A : Option Addr) (ws : List Int) (cap : Nat) (w : World) (h : Hid (Ints w w.heap.size A ws)) (hl : ws.length ≤ 1048576) (j : Nat) (hj : j < ws.length) (hb : ws.getD j 0 < -1000 ∨ 1000 < ws.getD j 0) (hv : ∀ k, k < j → -1000 ≤ ws.getD k 0 ∧ ws.getD k 0 ≤ 1000) :
    Calls Tryd.prog 89 #[.slice A ws.length cap] w fun e w' => e = .returned (.bool false) ∧ w = w' := by
  have HC := Lib.hid (withinI_no 1000 A ws cap w h (by decide) (by decide) hl j hj hb hv)
  clear hv h hb hj
  go_enter Tryd.func89, Tryd.ntmps89
  go_wp2_with (go_at_call 119; refine HC.out.mono ?_; rintro e w' ⟨rfl, rfl⟩)
  go_ret
  exact ⟨rfl, rfl⟩

end Go.Proofs.YtfpoiiennlhphaaDoor.C

namespace Go.Proofs.YtfpoiiennlhphaaDoor.C
open Go.RowKit K M
set_option linter.unusedVariables false
set_option linter.unusedSimpArgs false

theorem compl_valD : ∀ n : Nat, n < 6 → ∀ s : Nat, s < 2 ^ n → bits .xor .i64 (s : Int) (((2 ^ n : Nat) : Int) - 1) = ((compl n s : Nat) : Int) := by decide +kernel

theorem complD (N S : Nat) (w : World) (h5 : N ≤ 5) (hS : S < 2 ^ N) : Calls Tryd.prog 75 #[.int .i64 S, .int .i64 N] w fun e w' => e = .returned (.int .i64 (compl N S : Nat)) ∧ w = w' := by
  have hx := compl_valD N (by omega) S hS
  have hsh := shl_one (n := (N : Int)) (m := 2 ^ N) (by omega) (by omega) (by rw [Int.toNat_natCast])
  rw [Int.toNat_natCast] at hsh
  generalize compl N S = q at hx ⊢
  have hp32 : 2 ^ N ≤ 32 := Nat.le_trans (Nat.pow_le_pow_right (by decide) h5) (by decide)
  have hp1 : 1 ≤ 2 ^ N := Nat.two_pow_pos N
  generalize 2 ^ N = p at hx hsh hp32 hp1
  have hN : (0 : Int) ≤ (N : Int) := by omega
  clear hS
  go_enter Tryd.func75, Tryd.ntmps75
  go_wp2
  go_ret
  exact ⟨rfl, rfl⟩

set_option maxRecDepth 100000 in
set_option maxHeartbeats 4000000 in
theorem dualC (D : Option Addr) (ws : List Int) (dap N S q : Nat) (x z : Int) (wb fb ab b off m cap : Nat) (w : World) (g : Hid (Ints w w.heap.size D ws)) (hv : weightsOk ws) (hN : ws.length = N) (h5 : N ≤ 5) (hS : S < 2 ^ N) (hq : compl N S = q) (hqm : q < m) (hbr : Hid (Brujn w))
    (x1 : -1000 ≤ x) (x2 : x ≤ 1000) (z1 : -1000 ≤ z) (z2 : z ≤ 1000)
    (hw : w.cell? ⟨wb, 0, none⟩ = some (.slice D N dap)) (hf0 : w.cell? ⟨fb, 0, none⟩ = some (.int .i64 N)) (hf1 : w.cell? ⟨fb, 1, none⟩ = some (.slice (some ⟨b, off, none⟩) m cap)) (ha : w.cell? ⟨ab, 0, none⟩ = some (.int .i64 z)) (hc : w.cell? ⟨b, off + q, none⟩ = some (.int .i64 x))
    (lw : wb < w.heap.size) (lf : fb < w.heap.size) (la : ab < w.heap.size) (lb : b < w.heap.size) :
    Calls Tryd.prog 90 #[.int .i64 S, .pointer (some ⟨wb, 0, none⟩), .pointer (some ⟨fb, 0, none⟩), .pointer (some ⟨ab, 0, none⟩)] w (RetV w (.int .i64 (weigh ws S N + x - z))) := by
  have HC := Lib.hid (fun W (hW : Ints W W.heap.size D ws) (hB : Brujn W) => weighI_any D ws dap S W (Lib.hid hW) hv (by omega) (by rw [hN]; exact hS) (Lib.hid hB))
  obtain ⟨g1, g2⟩ := weigh_bd hv S ws.length (Nat.le_refl _)
  have HK := Lib.hid (fun W => complD N S W h5 hS)
  rw [hq] at HK
  rw [hN] at HC g1 g2
  generalize weigh ws S N = y at *
  have hy1 : IntKind.i64.wrap (y + x) = y + x := IntWalk.i64_in _ (by omega)
  have hy2 : IntKind.i64.wrap (y + x - z) = y + x - z := IntWalk.i64_in _ (by omega)
  have hq0 : (0 : Int) ≤ (q : Int) := by omega
  have hqi : (q : Int) < (m : Int) := by omega
  have HW := Lib.hid (St.start w)
  have hf := hf1
  clear hv hS hq hf
  go_enter Tryd.func90, Tryd.ntmps90
  go_wp2
  go_region_held3 (fun w' => w'.cell? ⟨wb, 0, none⟩ = some (.slice D N dap) ∧ w'.cell? ⟨fb, 0, none⟩ = some (.int .i64 N) ∧ w'.cell? ⟨fb, 1, none⟩ = some (.slice (some ⟨b, off, none⟩) m cap) ∧ w'.cell? ⟨ab, 0, none⟩ = some (.int .i64 z) ∧ w'.cell? ⟨b, off + q, none⟩ = some (.int .i64 x)) (first | (refine ⟨?_, ?_, ?_, ?_, ?_⟩ <;> assumption) | assumption | go_keep) (first
    | (go_at_call 91; refine (HC.out _ ?_ ?_).mono ?_; (first | exact g.out | exact g.out.drew); (first | exact hbr.out | exact hbr.out); rintro e w2 ⟨rfl, hb2⟩; have HB2 := Lib.hid (HW.out.drew.below hb2); have hw' := (hb2.cell (p := ⟨wb, 0, none⟩) lw).trans hw; have hf0' := (hb2.cell (p := ⟨fb, 0, none⟩) lf).trans hf0; have hf1' := (hb2.cell (p := ⟨fb, 1, none⟩) lf).trans hf1; have ha' := (hb2.cell (p := ⟨ab, 0, none⟩) la).trans ha; have hc' := (hb2.cell (p := ⟨b, off + q, none⟩) lb).trans hc; clear hb2)
    | (go_at_call 75; refine (HK.out _).mono ?_; rintro e' w' ⟨rfl, rfl⟩))
  go_wp2
  go_ret
  exact ⟨rfl, HB2.out.base⟩

end Go.Proofs.YtfpoiiennlhphaaDoor.C

namespace Go.Proofs.YtfpoiiennlhphaaDoor.M
open Go.RowKit
set_option linter.unusedVariables false
set_option linter.unusedSimpArgs false

/-- The best of those that have come. -/
def bestOf (v : Nat → Int) (l : List Nat) : Nat := l.foldl (fun b x => if v x < v b then x else b) 0
theorem best_nil (v : Nat → Int) : bestOf v [] = 0 := rfl
theorem best_snoc (v : Nat → Int) (l : List Nat) (x : Nat) : bestOf v (l ++ [x]) = if v x < v (bestOf v l) then x else bestOf v l := by
  unfold bestOf; rw [List.foldl_append]; rfl
/-- The least part of s up to c of the least value. -/
def leastTo (v : Nat → Int) (s : Nat) : Nat → Nat
  | 0 => 0
  | x + 1 => if (x + 1) &&& s = x + 1 ∧ v (x + 1) < v (leastTo v s x) then x + 1 else leastTo v s x
theorem least_split (xs ys : List Int) (s : Nat) : ∀ c, leastTo (partV xs ys s) s c = splitTo xs ys s c
  | 0 => rfl
  | c + 1 => by unfold leastTo splitTo; rw [least_split xs ys s c]
theorem least_in (v : Nat → Int) (s : Nat) : ∀ c, leastTo v s c &&& s = leastTo v s c ∧ leastTo v s c ≤ c
  | 0 => by simp [leastTo]
  | c + 1 => by
    have ih := least_in v s c
    unfold leastTo
    split
    · rename_i h; exact ⟨h.1, Nat.le_refl _⟩
    · exact ⟨ih.1, by omega⟩
theorem least_min (v : Nat → Int) (s : Nat) : ∀ c x, x ≤ c → x &&& s = x → v (leastTo v s c) ≤ v x
  | 0, x, hx, _ => by
    obtain rfl : x = 0 := by omega
    exact Int.le_refl _
  | c + 1, x, hx, hs => by
    have ih := least_min v s c
    unfold leastTo
    split
    · rename_i h
      by_cases e : x = c + 1
      · subst e; exact Int.le_refl _
      · have := ih x (by omega) hs; omega
    · rename_i h
      by_cases e : x = c + 1
      · subst e
        by_cases hlt : v (c + 1) < v (leastTo v s c)
        · exact absurd ⟨hs, hlt⟩ h
        · omega
      · exact ih x (by omega) hs
theorem best_least (v : Nat → Int) (s : Nat) : ∀ c, bestOf v ((List.range (c + 1)).filter fun x => x &&& s == x) = leastTo v s c
  | 0 => by
    have h : (List.range (0 + 1)).filter (fun x => x &&& s == x) = [0] := by
      simp [List.range_succ]
    rw [h]
    unfold bestOf leastTo
    simp
  | c + 1 => by
    have ih := best_least v s c
    rw [List.range_succ, List.filter_append]
    unfold leastTo
    by_cases h : (c + 1) &&& s = c + 1
    · rw [List.filter_cons_of_pos (by simpa using h), List.filter_nil, best_snoc, ih]
      by_cases hv : v (c + 1) < v (leastTo v s c)
      · rw [if_pos hv, if_pos ⟨h, hv⟩]
      · rw [if_neg hv, if_neg fun hh => hv hh.2]
    · rw [List.filter_cons_of_neg (by simpa using h), List.filter_nil, List.append_nil, ih, if_neg fun hh => h hh.1]
theorem parts_filter : ∀ s, s < 32 → (List.range (2 ^ ones s)).map (partN s) = (List.range (s + 1)).filter fun x => x &&& s == x := by decide +kernel
theorem best_parts (v : Nat → Int) {s : Nat} (h : s < 32) : bestOf v ((List.range (2 ^ ones s)).map (partN s)) = leastTo v s s := by
  rw [parts_filter s h, best_least]
theorem part_in : ∀ s, s < 32 → ∀ i, i < 32 → i < 2 ^ ones s → partN s i &&& s = partN s i := by decide +kernel
/-- A part of s. -/
abbrev Part (s : Nat) := { x : Nat // x &&& s = x }
def partP (s : Nat) (i : Nat) : Part s := if h : partN s i &&& s = partN s i then ⟨partN s i, h⟩ else ⟨0, by simp⟩
theorem partP_val {s i : Nat} (h : s < 32) (hi : i < 2 ^ ones s) : (partP s i).1 = partN s i := by
  unfold partP
  rw [dif_pos (part_in s h i (by have := ones_pow h; omega) hi)]
theorem best_partsP (v : Nat → Int) {s : Nat} (h : s < 32) : bestOf v (((List.range (2 ^ ones s)).map (partP s)).map Subtype.val) = leastTo v s s := by
  rw [← best_parts v h, List.map_map]
  refine congrArg _ (List.map_congr_left fun i hi => ?_)
  exact partP_val h (List.mem_range.1 hi)
theorem split_best (xs ys : List Int) {s : Nat} (h : s < 32) : bestOf (partV xs ys s) (((List.range (2 ^ ones s)).map (partP s)).map Subtype.val) = split xs ys s := by
  rw [best_partsP _ h, least_split]; rfl
-- hulls
def supV (xs : List Int) (s x : Nat) : Int := xs.getD (s ||| x) 0
theorem compl_sup : ∀ n, n < 6 → ∀ s, s < 2 ^ n → ∀ x, x < 2 ^ n → x &&& s = s → s ||| (x &&& compl n s) = x := by decide +kernel
theorem hull_least {n : Nat} {xs : List Int} {s : Nat} (h5 : n ≤ 5) (hl : xs.length = 2 ^ n) (hs : s < 2 ^ n) : supV xs s (leastTo (supV xs s) (compl n s) (compl n s)) = hullV xs s := by
  obtain ⟨h1, h2⟩ := least_in (supV xs s) (compl n s) (compl n s)
  have hmin := least_min (supV xs s) (compl n s) (compl n s)
  obtain ⟨x, hx1, hx2, hx3⟩ := hull_at (xs := xs) (s := s) (by omega)
  have hc : compl n s < 2 ^ n := by unfold compl; have := Nat.two_pow_pos n; omega
  have ha := hmin (x &&& compl n s) Nat.and_le_right (by rw [Nat.and_assoc, Nat.and_self])
  unfold supV at ha ⊢
  rw [compl_sup n (by omega) s hs x (by omega) hx1] at ha
  have hb := hull_le (xs := xs) (s := s) (x := s ||| leastTo (supV xs s) (compl n s) (compl n s)) (by rw [hl]; exact Nat.or_lt_two_pow hs (by omega)) (by
    apply Nat.eq_of_testBit_eq; intro q
    rw [Nat.testBit_and, Nat.testBit_or]
    cases s.testBit q <;> simp)
  unfold supV at hb
  omega
theorem xor_part : ∀ s : Nat, s < 32 → ∀ x : Nat, x < 32 → x &&& s = x → bits .xor .i64 (s : Int) (x : Int) = ((s - x : Nat) : Int) := by decide +kernel

end Go.Proofs.YtfpoiiennlhphaaDoor.M

namespace Go.Proofs.YtfpoiiennlhphaaDoor.C
open Go.RowKit K M
set_option linter.unusedVariables false
set_option linter.unusedSimpArgs false

set_option maxRecDepth 100000 in
set_option maxHeartbeats 4000000 in
theorem make_conv (n : Int) (m : Nat) (f : Nat → Int) (p1 : Value) (w : World) (h0 : 0 ≤ n) (h5 : n ≤ 5) (hm : m = 2 ^ n.toNat) (rn : Int) (rx : List Int) (rb : Bool) (HR : Hid (made n (tab m f) = (rn, rx, rb)))
    (hf : Hid (∀ j, j < m → ∀ W, Below w.heap.size w W → Calls Tryd.prog 96 #[.int .i64 j, p1] W (RetV W (.int .i64 (f j))))) :
    Calls Tryd.prog 84 #[.int .i64 n, .func (.func 96) #[] #[p1]] w (RetFB w rn rx rb) := by
  have hsh := shl_one h0 (by omega) hm
  have hp := p2_le h0 h5
  rw [← hm] at hp
  obtain ⟨hp1, hp2⟩ := hp
  clear hm
  have HW := Lib.hid (St.start w)
  obtain ⟨i0, hi, hi0, hi1, hi2⟩ := info_parts info_int
  go_enter Tryd.func84, Tryd.ntmps84
  go_wp2_with (refine wpList_make_full _ rfl _ _ _ rfl (w.heap.size + 1) 3 i0 (.int .i64 0) 1 Tryd.underlying24 hi hi0 hi1 .i64 .i64 _ _ m rfl rfl (by simp [hsh]) (by simp [hsh]) (by rw [hi2]; omega) (by unfold maxLen; omega) (by simp) ?_; intro w1 hown1 hg1)
  rw [zeros] at hown1
  simp only [World.size_alloc] at hown1
  have HS1 := Lib.hid (show St w _ [bx w1.heap.size 26 [.int .i64 n, .slice (some ⟨w.heap.size + 1, 0, none⟩) m m], il (.slice (some ⟨w.heap.size + 1, 0, none⟩) m m) m (List.replicate m 0), bx w.heap.size 26 [.int .i64 0, .slice none 0 0]] from ((HW.out.alloc _ _).new ((Below.refl _ _).grown hg1 (Nat.le_refl _) (by simp)) (by rw [World.size_alloc]; exact hown1)).alloc _ _)
  have hz1 : w.heap.size + 1 < w1.heap.size := (hown1.lt _ rfl).2
  have hne : ¬ w.heap.size + 1 = w1.heap.size := by omega
  clear hown1 hg1 hsh
  go_loopw [7, 16] (fun _ i wr => ∃ (j : Nat) (ys : List Int), i = .int .i64 j ∧ j ≤ m ∧ ys.length = m ∧ ys.take j = tab j f ∧ St w wr [bx w1.heap.size 26 [.int .i64 n, .slice (some ⟨w.heap.size + 1, 0, none⟩) m m], il (.slice (some ⟨w.heap.size + 1, 0, none⟩) m m) m ys, bx w.heap.size 26 [.int .i64 0, .slice none 0 0]]) (fun _ i _ => m - (intOf i).toNat)
  case atStart => exact ⟨0, _, rfl, Nat.zero_le _, by simp, by simp [tab], HS1.out⟩
  case round =>
    obtain ⟨j, ys, rfl, hj, hy, ht, hS⟩ := hrel
    obtain ⟨b0, f0⟩ := hS.box (i := 0) rfl
    have b00 := b0 0 _ rfl
    have b01 := b0 1 _ rfl
    clear b0 f0
    have HL := Lib.hid hy
    have HT := Lib.hid ht
    have HS := Lib.hid hS
    by_cases hlt : j < m
    · obtain ⟨c1, c2⟩ := hS.cellI (i := 1) rfl hlt
      have hcall := Lib.hid (hf.out j hlt)
      have hj0 : (0 : Int) ≤ (j : Int) := by omega
      have hjn : (j : Int) < (m : Int) := by omega
      clear hS hy ht
      go_wp2
      go_region_held3 (fun w' => w'.cell? ⟨w1.heap.size, 1, none⟩ = some (.slice (some ⟨w.heap.size + 1, 0, none⟩) m m)) (first | assumption | go_keep) ((go_at_call 96; refine (hcall.out _ ?_).mono ?_; (first | exact HS.out.base | exact HS.out.drew.base); rintro e w2 ⟨rfl, hb⟩; have hS2 := HS.out.drew.below hb; obtain ⟨b0, -⟩ := hS2.box (i := 0) rfl; have b01' := b0 1 _ rfl; obtain ⟨c1', c2'⟩ := hS2.cellI (i := 1) rfl hlt; have HS2 := Lib.hid hS2; clear hS2 b0 hb b00 b01 c1 c2))
      have hS2 := HS2.out.setI (i := 1) rfl j (f j)
      clear HS2
      have HS2 := Lib.hid hS2
      clear hS2
      go_wp2
      go_roundw
      case rel => exact ⟨j + 1, ys.set j (f j), by go_num, by omega, by rw [List.length_set]; exact HL.out, tab_set f HL.out HT.out hlt, HS2.out⟩
      case measure => simp [intOf]; omega
    · obtain rfl : j = m := by omega
      have hjn : ¬ (j : Int) < (j : Int) := by omega
      obtain rfl : ys = tab j f := by rw [← ht, List.take_of_length_le (by omega)]
      clear hS hy ht
      cases hfn : isFn n (tab j f)
      · obtain ⟨rfl, rfl, rfl⟩ : 0 = rn ∧ [] = rx ∧ false = rb := by simpa [made, hfn] using HR.out
        have HF := isFnI_tab n (some ⟨w.heap.size + 1, 0, none⟩) (tab j f) j j _ (tab_length _ _) (Lib.hid (HS.out.ints (i := 1) rfl))
        rw [hfn] at HF
        have HG := Lib.hid HF
        clear hfn HF
        go_wp2_with fail
        refine HG.out.mono ?_
        rintro e w2 ⟨rfl, hb⟩
        have hS2 := HS.out.below hb
        obtain ⟨b0, -⟩ := hS2.box (i := 0) rfl
        have b00' := b0 0 _ rfl
        have b01' := b0 1 _ rfl
        obtain ⟨r1, rf⟩ := hS2.box (i := 2) rfl
        have r10 := r1 0 _ rfl
        have r11 := r1 1 _ rfl
        have rf0 := rf 0
        have rf1 := rf 1
        clear b0 r1 rf hb b00 b01
        have HS2 := Lib.hid hS2
        clear hS2
        go_wp2
        have hZ := (HS2.out.store (i := 2) rfl 0 (.int .i64 0)).store (i := 2) rfl 1 (.slice none 0 0)
        exact bodyPost_ret (v := .tuple #[.agg #[.int .i64 0, .slice none 0 0], .bool false]) (by simp [results, Tryd.results84, go_sem, r10, r11, rf0, rf1]) rfl ⟨none, 0, rfl, Own.nil _ _, hZ.base⟩
      · obtain ⟨rfl, rfl, rfl⟩ : n = rn ∧ tab j f = rx ∧ true = rb := by simpa [made, hfn] using HR.out
        have HF := isFnI_tab n (some ⟨w.heap.size + 1, 0, none⟩) (tab j f) j j _ (tab_length _ _) (Lib.hid (HS.out.ints (i := 1) rfl))
        rw [hfn] at HF
        have HG := Lib.hid HF
        clear hfn HF
        go_wp2_with fail
        refine HG.out.mono ?_
        rintro e w2 ⟨rfl, hb⟩
        have hS2 := HS.out.below hb
        obtain ⟨b0, -⟩ := hS2.box (i := 0) rfl
        have b00' := b0 0 _ rfl
        have b01' := b0 1 _ rfl
        obtain ⟨r1, rf⟩ := hS2.box (i := 2) rfl
        have r10 := r1 0 _ rfl
        have r11 := r1 1 _ rfl
        have rf0 := rf 0
        have rf1 := rf 1
        clear b0 r1 rf hb b00 b01
        have HS2 := Lib.hid hS2
        clear hS2
        go_wp2
        have hZ := (HS2.out.store (i := 2) rfl 0 (.int .i64 n)).store (i := 2) rfl 1 (.slice (some ⟨w.heap.size + 1, 0, none⟩) j j)
        exact bodyPost_ret (v := .tuple #[.agg #[.int .i64 n, .slice (some ⟨w.heap.size + 1, 0, none⟩) j j], .bool true]) (by simp [results, Tryd.results84, go_sem, r10, r11, rf0, rf1, b00', b01']) rfl ⟨some ⟨w.heap.size + 1, 0, none⟩, j, by rw [tab_length], by rw [tab_length]; exact hZ.ownI (i := 1) rfl, hZ.base⟩


end Go.Proofs.YtfpoiiennlhphaaDoor.C

namespace Go.Proofs.YtfpoiiennlhphaaDoor.C
open Go.RowKit K M
set_option linter.unusedVariables false
set_option linter.unusedSimpArgs false

set_option maxRecDepth 100000 in
set_option maxHeartbeats 4000000 in
theorem make_hull (n : Int) (m : Nat) (f : Nat → Int) (p1 : Value) (w : World) (h0 : 0 ≤ n) (h5 : n ≤ 5) (hm : m = 2 ^ n.toNat) (rn : Int) (rx : List Int) (rb : Bool) (HR : Hid (made n (tab m f) = (rn, rx, rb)))
    (hf : Hid (∀ j, j < m → ∀ W, Below w.heap.size w W → Calls Tryd.prog 102 #[.int .i64 j, p1] W (RetV W (.int .i64 (f j))))) :
    Calls Tryd.prog 84 #[.int .i64 n, .func (.func 102) #[] #[p1]] w (RetFB w rn rx rb) := by
  have hsh := shl_one h0 (by omega) hm
  have hp := p2_le h0 h5
  rw [← hm] at hp
  obtain ⟨hp1, hp2⟩ := hp
  clear hm
  have HW := Lib.hid (St.start w)
  obtain ⟨i0, hi, hi0, hi1, hi2⟩ := info_parts info_int
  go_enter Tryd.func84, Tryd.ntmps84
  go_wp2_with (refine wpList_make_full _ rfl _ _ _ rfl (w.heap.size + 1) 3 i0 (.int .i64 0) 1 Tryd.underlying24 hi hi0 hi1 .i64 .i64 _ _ m rfl rfl (by simp [hsh]) (by simp [hsh]) (by rw [hi2]; omega) (by unfold maxLen; omega) (by simp) ?_; intro w1 hown1 hg1)
  rw [zeros] at hown1
  simp only [World.size_alloc] at hown1
  have HS1 := Lib.hid (show St w _ [bx w1.heap.size 26 [.int .i64 n, .slice (some ⟨w.heap.size + 1, 0, none⟩) m m], il (.slice (some ⟨w.heap.size + 1, 0, none⟩) m m) m (List.replicate m 0), bx w.heap.size 26 [.int .i64 0, .slice none 0 0]] from ((HW.out.alloc _ _).new ((Below.refl _ _).grown hg1 (Nat.le_refl _) (by simp)) (by rw [World.size_alloc]; exact hown1)).alloc _ _)
  have hz1 : w.heap.size + 1 < w1.heap.size := (hown1.lt _ rfl).2
  have hne : ¬ w.heap.size + 1 = w1.heap.size := by omega
  clear hown1 hg1 hsh
  go_loopw [7, 16] (fun _ i wr => ∃ (j : Nat) (ys : List Int), i = .int .i64 j ∧ j ≤ m ∧ ys.length = m ∧ ys.take j = tab j f ∧ St w wr [bx w1.heap.size 26 [.int .i64 n, .slice (some ⟨w.heap.size + 1, 0, none⟩) m m], il (.slice (some ⟨w.heap.size + 1, 0, none⟩) m m) m ys, bx w.heap.size 26 [.int .i64 0, .slice none 0 0]]) (fun _ i _ => m - (intOf i).toNat)
  case atStart => exact ⟨0, _, rfl, Nat.zero_le _, by simp, by simp [tab], HS1.out⟩
  case round =>
    obtain ⟨j, ys, rfl, hj, hy, ht, hS⟩ := hrel
    obtain ⟨b0, f0⟩ := hS.box (i := 0) rfl
    have b00 := b0 0 _ rfl
    have b01 := b0 1 _ rfl
    clear b0 f0
    have HL := Lib.hid hy
    have HT := Lib.hid ht
    have HS := Lib.hid hS
    by_cases hlt : j < m
    · obtain ⟨c1, c2⟩ := hS.cellI (i := 1) rfl hlt
      have hcall := Lib.hid (hf.out j hlt)
      have hj0 : (0 : Int) ≤ (j : Int) := by omega
      have hjn : (j : Int) < (m : Int) := by omega
      clear hS hy ht
      go_wp2
      go_region_held3 (fun w' => w'.cell? ⟨w1.heap.size, 1, none⟩ = some (.slice (some ⟨w.heap.size + 1, 0, none⟩) m m)) (first | assumption | go_keep) ((go_at_call 102; refine (hcall.out _ ?_).mono ?_; (first | exact HS.out.base | exact HS.out.drew.base); rintro e w2 ⟨rfl, hb⟩; have hS2 := HS.out.drew.below hb; obtain ⟨b0, -⟩ := hS2.box (i := 0) rfl; have b01' := b0 1 _ rfl; obtain ⟨c1', c2'⟩ := hS2.cellI (i := 1) rfl hlt; have HS2 := Lib.hid hS2; clear hS2 b0 hb b00 b01 c1 c2))
      have hS2 := HS2.out.setI (i := 1) rfl j (f j)
      clear HS2
      have HS2 := Lib.hid hS2
      clear hS2
      go_wp2
      go_roundw
      case rel => exact ⟨j + 1, ys.set j (f j), by go_num, by omega, by rw [List.length_set]; exact HL.out, tab_set f HL.out HT.out hlt, HS2.out⟩
      case measure => simp [intOf]; omega
    · obtain rfl : j = m := by omega
      have hjn : ¬ (j : Int) < (j : Int) := by omega
      obtain rfl : ys = tab j f := by rw [← ht, List.take_of_length_le (by omega)]
      clear hS hy ht
      cases hfn : isFn n (tab j f)
      · obtain ⟨rfl, rfl, rfl⟩ : 0 = rn ∧ [] = rx ∧ false = rb := by simpa [made, hfn] using HR.out
        have HF := isFnI_tab n (some ⟨w.heap.size + 1, 0, none⟩) (tab j f) j j _ (tab_length _ _) (Lib.hid (HS.out.ints (i := 1) rfl))
        rw [hfn] at HF
        have HG := Lib.hid HF
        clear hfn HF
        go_wp2_with fail
        refine HG.out.mono ?_
        rintro e w2 ⟨rfl, hb⟩
        have hS2 := HS.out.below hb
        obtain ⟨b0, -⟩ := hS2.box (i := 0) rfl
        have b00' := b0 0 _ rfl
        have b01' := b0 1 _ rfl
        obtain ⟨r1, rf⟩ := hS2.box (i := 2) rfl
        have r10 := r1 0 _ rfl
        have r11 := r1 1 _ rfl
        have rf0 := rf 0
        have rf1 := rf 1
        clear b0 r1 rf hb b00 b01
        have HS2 := Lib.hid hS2
        clear hS2
        go_wp2
        have hZ := (HS2.out.store (i := 2) rfl 0 (.int .i64 0)).store (i := 2) rfl 1 (.slice none 0 0)
        exact bodyPost_ret (v := .tuple #[.agg #[.int .i64 0, .slice none 0 0], .bool false]) (by simp [results, Tryd.results84, go_sem, r10, r11, rf0, rf1]) rfl ⟨none, 0, rfl, Own.nil _ _, hZ.base⟩
      · obtain ⟨rfl, rfl, rfl⟩ : n = rn ∧ tab j f = rx ∧ true = rb := by simpa [made, hfn] using HR.out
        have HF := isFnI_tab n (some ⟨w.heap.size + 1, 0, none⟩) (tab j f) j j _ (tab_length _ _) (Lib.hid (HS.out.ints (i := 1) rfl))
        rw [hfn] at HF
        have HG := Lib.hid HF
        clear hfn HF
        go_wp2_with fail
        refine HG.out.mono ?_
        rintro e w2 ⟨rfl, hb⟩
        have hS2 := HS.out.below hb
        obtain ⟨b0, -⟩ := hS2.box (i := 0) rfl
        have b00' := b0 0 _ rfl
        have b01' := b0 1 _ rfl
        obtain ⟨r1, rf⟩ := hS2.box (i := 2) rfl
        have r10 := r1 0 _ rfl
        have r11 := r1 1 _ rfl
        have rf0 := rf 0
        have rf1 := rf 1
        clear b0 r1 rf hb b00 b01
        have HS2 := Lib.hid hS2
        clear hS2
        go_wp2
        have hZ := (HS2.out.store (i := 2) rfl 0 (.int .i64 n)).store (i := 2) rfl 1 (.slice (some ⟨w.heap.size + 1, 0, none⟩) j j)
        exact bodyPost_ret (v := .tuple #[.agg #[.int .i64 n, .slice (some ⟨w.heap.size + 1, 0, none⟩) j j], .bool true]) (by simp [results, Tryd.results84, go_sem, r10, r11, rf0, rf1, b00', b01']) rfl ⟨some ⟨w.heap.size + 1, 0, none⟩, j, by rw [tab_length], by rw [tab_length]; exact hZ.ownI (i := 1) rfl, hZ.base⟩


end Go.Proofs.YtfpoiiennlhphaaDoor.C

namespace Go.Proofs.YtfpoiiennlhphaaDoor.C
open Go.RowKit K M
set_option linter.unusedVariables false
set_option linter.unusedSimpArgs false

set_option maxRecDepth 100000 in
set_option maxHeartbeats 4000000 in
theorem make_trunc (n : Int) (m : Nat) (f : Nat → Int) (p1 p2 : Value) (w : World) (h0 : 0 ≤ n) (h5 : n ≤ 5) (hm : m = 2 ^ n.toNat) (rn : Int) (rx : List Int) (rb : Bool) (HR : Hid (made n (tab m f) = (rn, rx, rb)))
    (hf : Hid (∀ j, j < m → ∀ W, Below w.heap.size w W → Calls Tryd.prog 105 #[.int .i64 j, p1, p2] W (RetV W (.int .i64 (f j))))) :
    Calls Tryd.prog 84 #[.int .i64 n, .func (.func 105) #[] #[p1, p2]] w (RetFB w rn rx rb) := by
  have hsh := shl_one h0 (by omega) hm
  have hp := p2_le h0 h5
  rw [← hm] at hp
  obtain ⟨hp1, hp2⟩ := hp
  clear hm
  have HW := Lib.hid (St.start w)
  obtain ⟨i0, hi, hi0, hi1, hi2⟩ := info_parts info_int
  go_enter Tryd.func84, Tryd.ntmps84
  go_wp2_with (refine wpList_make_full _ rfl _ _ _ rfl (w.heap.size + 1) 3 i0 (.int .i64 0) 1 Tryd.underlying24 hi hi0 hi1 .i64 .i64 _ _ m rfl rfl (by simp [hsh]) (by simp [hsh]) (by rw [hi2]; omega) (by unfold maxLen; omega) (by simp) ?_; intro w1 hown1 hg1)
  rw [zeros] at hown1
  simp only [World.size_alloc] at hown1
  have HS1 := Lib.hid (show St w _ [bx w1.heap.size 26 [.int .i64 n, .slice (some ⟨w.heap.size + 1, 0, none⟩) m m], il (.slice (some ⟨w.heap.size + 1, 0, none⟩) m m) m (List.replicate m 0), bx w.heap.size 26 [.int .i64 0, .slice none 0 0]] from ((HW.out.alloc _ _).new ((Below.refl _ _).grown hg1 (Nat.le_refl _) (by simp)) (by rw [World.size_alloc]; exact hown1)).alloc _ _)
  have hz1 : w.heap.size + 1 < w1.heap.size := (hown1.lt _ rfl).2
  have hne : ¬ w.heap.size + 1 = w1.heap.size := by omega
  clear hown1 hg1 hsh
  go_loopw [7, 16] (fun _ i wr => ∃ (j : Nat) (ys : List Int), i = .int .i64 j ∧ j ≤ m ∧ ys.length = m ∧ ys.take j = tab j f ∧ St w wr [bx w1.heap.size 26 [.int .i64 n, .slice (some ⟨w.heap.size + 1, 0, none⟩) m m], il (.slice (some ⟨w.heap.size + 1, 0, none⟩) m m) m ys, bx w.heap.size 26 [.int .i64 0, .slice none 0 0]]) (fun _ i _ => m - (intOf i).toNat)
  case atStart => exact ⟨0, _, rfl, Nat.zero_le _, by simp, by simp [tab], HS1.out⟩
  case round =>
    obtain ⟨j, ys, rfl, hj, hy, ht, hS⟩ := hrel
    obtain ⟨b0, f0⟩ := hS.box (i := 0) rfl
    have b00 := b0 0 _ rfl
    have b01 := b0 1 _ rfl
    clear b0 f0
    have HL := Lib.hid hy
    have HT := Lib.hid ht
    have HS := Lib.hid hS
    by_cases hlt : j < m
    · obtain ⟨c1, c2⟩ := hS.cellI (i := 1) rfl hlt
      have hcall := Lib.hid (hf.out j hlt)
      have hj0 : (0 : Int) ≤ (j : Int) := by omega
      have hjn : (j : Int) < (m : Int) := by omega
      clear hS hy ht
      go_wp2
      go_region_held3 (fun w' => w'.cell? ⟨w1.heap.size, 1, none⟩ = some (.slice (some ⟨w.heap.size + 1, 0, none⟩) m m)) (first | assumption | go_keep) ((go_at_call 105; refine (hcall.out _ ?_).mono ?_; (first | exact HS.out.base | exact HS.out.drew.base); rintro e w2 ⟨rfl, hb⟩; have hS2 := HS.out.drew.below hb; obtain ⟨b0, -⟩ := hS2.box (i := 0) rfl; have b01' := b0 1 _ rfl; obtain ⟨c1', c2'⟩ := hS2.cellI (i := 1) rfl hlt; have HS2 := Lib.hid hS2; clear hS2 b0 hb b00 b01 c1 c2))
      have hS2 := HS2.out.setI (i := 1) rfl j (f j)
      clear HS2
      have HS2 := Lib.hid hS2
      clear hS2
      go_wp2
      go_roundw
      case rel => exact ⟨j + 1, ys.set j (f j), by go_num, by omega, by rw [List.length_set]; exact HL.out, tab_set f HL.out HT.out hlt, HS2.out⟩
      case measure => simp [intOf]; omega
    · obtain rfl : j = m := by omega
      have hjn : ¬ (j : Int) < (j : Int) := by omega
      obtain rfl : ys = tab j f := by rw [← ht, List.take_of_length_le (by omega)]
      clear hS hy ht
      cases hfn : isFn n (tab j f)
      · obtain ⟨rfl, rfl, rfl⟩ : 0 = rn ∧ [] = rx ∧ false = rb := by simpa [made, hfn] using HR.out
        have HF := isFnI_tab n (some ⟨w.heap.size + 1, 0, none⟩) (tab j f) j j _ (tab_length _ _) (Lib.hid (HS.out.ints (i := 1) rfl))
        rw [hfn] at HF
        have HG := Lib.hid HF
        clear hfn HF
        go_wp2_with fail
        refine HG.out.mono ?_
        rintro e w2 ⟨rfl, hb⟩
        have hS2 := HS.out.below hb
        obtain ⟨b0, -⟩ := hS2.box (i := 0) rfl
        have b00' := b0 0 _ rfl
        have b01' := b0 1 _ rfl
        obtain ⟨r1, rf⟩ := hS2.box (i := 2) rfl
        have r10 := r1 0 _ rfl
        have r11 := r1 1 _ rfl
        have rf0 := rf 0
        have rf1 := rf 1
        clear b0 r1 rf hb b00 b01
        have HS2 := Lib.hid hS2
        clear hS2
        go_wp2
        have hZ := (HS2.out.store (i := 2) rfl 0 (.int .i64 0)).store (i := 2) rfl 1 (.slice none 0 0)
        exact bodyPost_ret (v := .tuple #[.agg #[.int .i64 0, .slice none 0 0], .bool false]) (by simp [results, Tryd.results84, go_sem, r10, r11, rf0, rf1]) rfl ⟨none, 0, rfl, Own.nil _ _, hZ.base⟩
      · obtain ⟨rfl, rfl, rfl⟩ : n = rn ∧ tab j f = rx ∧ true = rb := by simpa [made, hfn] using HR.out
        have HF := isFnI_tab n (some ⟨w.heap.size + 1, 0, none⟩) (tab j f) j j _ (tab_length _ _) (Lib.hid (HS.out.ints (i := 1) rfl))
        rw [hfn] at HF
        have HG := Lib.hid HF
        clear hfn HF
        go_wp2_with fail
        refine HG.out.mono ?_
        rintro e w2 ⟨rfl, hb⟩
        have hS2 := HS.out.below hb
        obtain ⟨b0, -⟩ := hS2.box (i := 0) rfl
        have b00' := b0 0 _ rfl
        have b01' := b0 1 _ rfl
        obtain ⟨r1, rf⟩ := hS2.box (i := 2) rfl
        have r10 := r1 0 _ rfl
        have r11 := r1 1 _ rfl
        have rf0 := rf 0
        have rf1 := rf 1
        clear b0 r1 rf hb b00 b01
        have HS2 := Lib.hid hS2
        clear hS2
        go_wp2
        have hZ := (HS2.out.store (i := 2) rfl 0 (.int .i64 n)).store (i := 2) rfl 1 (.slice (some ⟨w.heap.size + 1, 0, none⟩) j j)
        exact bodyPost_ret (v := .tuple #[.agg #[.int .i64 n, .slice (some ⟨w.heap.size + 1, 0, none⟩) j j], .bool true]) (by simp [results, Tryd.results84, go_sem, r10, r11, rf0, rf1, b00', b01']) rfl ⟨some ⟨w.heap.size + 1, 0, none⟩, j, by rw [tab_length], by rw [tab_length]; exact hZ.ownI (i := 1) rfl, hZ.base⟩


end Go.Proofs.YtfpoiiennlhphaaDoor.C

namespace Go.Proofs.YtfpoiiennlhphaaDoor.C
open Go.RowKit K M
set_option linter.unusedVariables false
set_option linter.unusedSimpArgs false

set_option maxHeartbeats 1600000 in
theorem modfnI_len (A : Option Addr) (m cap : Nat) (c : Int) (w : World) (hm : 5 < m) :
    Calls Tryd.prog 100 #[.slice A m cap, .int .i64 c] w (RetFB w 0 [] false) := by
  have HW := Lib.hid (St.start w)
  have hg : (5 : Int) < (m : Int) := by omega
  go_enter Tryd.func100, Tryd.ntmps100
  go_wp2
  have hS := ((HW.out.alloc [.slice A m cap] 24).alloc [.int .i64 c] 3).alloc [.int .i64 0, .slice none 0 0] 26
  exact bodyPost_ret (v := .tuple #[.agg #[.int .i64 0, .slice none 0 0], .bool false]) (by simp [results, Tryd.results100, go_sem]) rfl ⟨none, 0, rfl, K.Own.nil _ _, hS.base⟩

set_option maxHeartbeats 1600000 in
theorem modfnI_val (A : Option Addr) (ws : List Int) (cap : Nat) (c : Int) (w : World) (h : Hid (Ints w w.heap.size A ws)) (hm : ws.length ≤ 5)
    (j : Nat) (hj : j < ws.length) (hb : ws.getD j 0 < -1000 ∨ 1000 < ws.getD j 0) (hv : ∀ k, k < j → -1000 ≤ ws.getD k 0 ∧ ws.getD k 0 ≤ 1000) :
    Calls Tryd.prog 100 #[.slice A ws.length cap, .int .i64 c] w (RetFB w 0 [] false) := by
  have HW := Lib.hid (St.start w)
  have HA := Lib.hid (fun W (hW : Ints W W.heap.size A ws) => areI_no A ws cap W (Lib.hid hW) (by omega) j hj hb hv)
  obtain ⟨m, hxm⟩ : ∃ m, ws.length = m := ⟨_, rfl⟩
  rw [hxm] at hm HA ⊢
  have hg : ¬ (5 : Int) < (m : Int) := by omega
  clear hv hxm hb hj
  go_enter Tryd.func100, Tryd.ntmps100
  go_wp2_with (go_at_call 89; refine (HA.out _ ?_).mono ?_; exact (h.out.below ((((HW.out.alloc _ _).alloc _ _).alloc _ _).base)).mono (by simp only [World.size_alloc]; omega); rintro e w' ⟨rfl, rfl⟩)
  have hS := ((HW.out.alloc [.slice A m cap] 24).alloc [.int .i64 c] 3).alloc [.int .i64 0, .slice none 0 0] 26
  exact bodyPost_ret (v := .tuple #[.agg #[.int .i64 0, .slice none 0 0], .bool false]) (by simp [results, Tryd.results100, go_sem]) rfl ⟨none, 0, rfl, K.Own.nil _ _, hS.base⟩

theorem one_ok {c : Int} (c1 : -1000 ≤ c) (c2 : c ≤ 1000) : weightsOk [c] := fun k hk => by
  obtain rfl : k = 0 := by simp at hk; omega
  exact ⟨c1, c2⟩

theorem one_ints {w0 w : World} {L : List Cel} {i g : Nat} {t : TypeId} {c : Int} (h : St w0 w L) (hi : L[i]? = some (bx g t [.int .i64 c])) : Ints w w.heap.size (some ⟨g, 0, none⟩) [c] := by
  intro h0
  refine ⟨g, 0, rfl, (h.lt hi).2, fun k hk => ?_⟩
  obtain rfl : k = 0 := by simp at hk; omega
  exact (h.box hi).1 0 _ rfl

set_option maxHeartbeats 1600000 in
theorem modfnI_c2 (A : Option Addr) (ws : List Int) (cap : Nat) (c : Int) (w : World) (h : Hid (Ints w w.heap.size A ws)) (hm : ws.length ≤ 5) (hv : ∀ k, k < ws.length → -1000 ≤ ws.getD k 0 ∧ ws.getD k 0 ≤ 1000) (hc : c < -1000 ∨ 1000 < c) :
    Calls Tryd.prog 100 #[.slice A ws.length cap, .int .i64 c] w (RetFB w 0 [] false) := by
  have HW := Lib.hid (St.start w)
  have HC := Lib.hid hc
  have HA := Lib.hid (fun W (hW : Ints W W.heap.size A ws) => areI_yes A ws cap W (Lib.hid hW) (by omega) hv)
  obtain ⟨m, hxm⟩ : ∃ m, ws.length = m := ⟨_, rfl⟩
  rw [hxm] at hm HA ⊢
  have hg : ¬ (5 : Int) < (m : Int) := by omega
  clear hv hxm hc
  go_enter Tryd.func100, Tryd.ntmps100
  go_wp2_with (first
    | (go_at_call_of 89 (Value.slice A m cap); refine (HA.out _ ?_).mono ?_; exact (h.out.below ((((HW.out.alloc _ _).alloc _ _).alloc _ _).base)).mono (by simp only [World.size_alloc]; omega); rintro e w' ⟨rfl, rfl⟩)
    | (go_at_call 89; refine St.use (w0 := w) (by exact (((HW.out.alloc _ _).alloc _ _).alloc _ _).alloc _ _) ?_; intro hS; (try simp only [World.size_alloc] at hS); refine (areI_no _ [c] 1 _ (Lib.hid (one_ints hS (i := 0) rfl)) (by simp) 0 (by simp) HC.out (fun k hk => absurd hk (by omega))).mono ?_; rintro e w' ⟨rfl, rfl⟩; have HS9 := Lib.hid hS; clear hS))
  have hS := HS9.out
  exact bodyPost_ret (v := .tuple #[.agg #[.int .i64 0, .slice none 0 0], .bool false]) (by simp [results, Tryd.results100, go_sem]) rfl ⟨none, 0, rfl, K.Own.nil _ _, hS.base⟩

set_option maxRecDepth 100000 in
set_option maxHeartbeats 4000000 in
theorem modfnI_good2 (A : Option Addr) (ws : List Int) (cap : Nat) (c : Int) (w : World) (h : Hid (Ints w w.heap.size A ws)) (hm : ws.length ≤ 5) (c1 : -1000 ≤ c) (c2 : c ≤ 1000) (hv : ∀ k, k < ws.length → -1000 ≤ ws.getD k 0 ∧ ws.getD k 0 ≤ 1000) (hbr : Hid (Brujn w)) :
    Calls Tryd.prog 100 #[.slice A ws.length cap, .int .i64 c] w (RetFB w (made (ws.length : Int) (tab (2 ^ ws.length) fun s => c + weigh ws s ws.length)).1 (made (ws.length : Int) (tab (2 ^ ws.length) fun s => c + weigh ws s ws.length)).2.1 (made (ws.length : Int) (tab (2 ^ ws.length) fun s => c + weigh ws s ws.length)).2.2) := by
  have HW := Lib.hid (St.start w)
  have HA := Lib.hid (fun W (hW : Ints W W.heap.size A ws) => areI_yes A ws cap W (Lib.hid hW) (by omega) hv)
  have hC := Lib.hid (fun (W : World) (S cb wb : Nat) (hW : Ints W W.heap.size A ws) (hS : S < 2 ^ ws.length) (hB : Brujn W) => modC A ws cap S c cb wb W (Lib.hid hW) hv hm hS (Lib.hid hB) c1 c2)
  obtain ⟨f, hf⟩ : ∃ f : Nat → Int, f = fun s => c + weigh ws s ws.length := ⟨_, rfl⟩
  have hfs : ∀ s, c + weigh ws s ws.length = f s := fun s => by rw [hf]
  simp only [hfs] at hC
  rw [← hf]
  obtain ⟨rn, rx, rb, hr⟩ : ∃ rn rx rb, made (ws.length : Int) (tab (2 ^ ws.length) f) = (rn, rx, rb) := ⟨_, _, _, rfl⟩
  rw [hr]
  have HR := Lib.hid hr
  obtain ⟨m, hxm⟩ : ∃ m, ws.length = m := ⟨_, rfl⟩
  rw [hxm] at hm hC HR HA ⊢
  have HX := Lib.hid hxm
  have HV := Lib.hid hv
  have hg : ¬ (5 : Int) < (m : Int) := by omega
  clear hv hxm hf hfs hr
  go_enter Tryd.func100, Tryd.ntmps100
  go_wp2_with (first
    | (go_at_call_of 89 (Value.slice A m cap); refine (HA.out _ ?_).mono ?_; exact (h.out.below ((((HW.out.alloc _ _).alloc _ _).alloc _ _).base)).mono (by simp only [World.size_alloc]; omega); rintro e w' ⟨rfl, rfl⟩)
    | (go_at_call 89; refine St.use (w0 := w) (by exact (((HW.out.alloc _ _).alloc _ _).alloc _ _).alloc _ _) ?_; intro hS; (try simp only [World.size_alloc] at hS); refine (areI_yes _ [c] 1 _ (Lib.hid (one_ints hS (i := 0) rfl)) (by simp) (one_ok c1 c2)).mono ?_; rintro e w' ⟨rfl, rfl⟩; clear hS))
  have HS := Lib.hid ((((HW.out.alloc [.slice A m cap] 24).alloc [.int .i64 c] 3).alloc [.int .i64 0, .slice none 0 0] 26).alloc [.int .i64 c] 3)
  have HK := Lib.hid (fun (W : World) (hb : Below w.heap.size w W) => make_mod (m : Int) (2 ^ m) f (.pointer (some ⟨w.heap.size + 1, 0, none⟩)) (.pointer (some ⟨w.heap.size, 0, none⟩)) W (by omega) (by omega) (by rw [Int.toNat_natCast]) rn rx rb HR)
  refine (HK.out _ HS.out.base (Lib.hid fun j hj W hW => hC.out W j _ _ ((h.out.below (HS.out.base.trans (hW.mono HS.out.size))).mono (Nat.le_trans HS.out.size hW.size)) hj (brujn_on hbr.out (HS.out.base.trans (hW.mono HS.out.size))) ((hW.cell (p := ⟨w.heap.size + 1, 0, none⟩) (by simp)).trans (by simp [go_sem])) ((hW.cell (p := ⟨w.heap.size, 0, none⟩) (by simp; omega)).trans (by simp [go_sem])) (Nat.lt_of_lt_of_le (by simp) hW.size) (Nat.lt_of_lt_of_le (by simp; omega) hW.size))).mono ?_
  rintro e w1 ⟨B, d, rfl, ho, hb⟩
  have hS1 := HS.out.newI hb ho
  obtain ⟨r1, rf⟩ := hS1.box (i := 2) rfl
  have r10 := r1 0 _ rfl
  have r11 := r1 1 _ rfl
  have rf0 := rf 0
  have rf1 := rf 1
  have HS1 := Lib.hid hS1
  clear r1 rf hb ho hS1
  simp only [World.size_alloc] at r10 r11 rf0 rf1 HS1
  go_wp2
  have hZ := (HS1.out.store (i := 2) rfl 0 (.int .i64 rn)).store (i := 2) rfl 1 (.slice B rx.length d)
  exact bodyPost_ret (v := .tuple #[.agg #[.int .i64 rn, .slice B rx.length d], .bool rb]) (by simp [results, Tryd.results100, go_sem, r10, r11, rf0, rf1]) rfl ⟨B, d, rfl, hZ.ownI (i := 0) rfl, hZ.base⟩

theorem modfnI_any (A : Option Addr) (ws : List Int) (cap : Nat) (c : Int) (w : World) (h : Hid (Ints w w.heap.size A ws)) (hbr : Hid (Brujn w)) :
    Calls Tryd.prog 100 #[.slice A ws.length cap, .int .i64 c] w (RetFB w (modFn ws c).1 (modFn ws c).2.1 (modFn ws c).2.2) := by
  unfold modFn
  split
  · rename_i hh
    exact modfnI_good2 A ws cap c w h hh.1 hh.2.1 hh.2.2.1 (weights_all.1 hh.2.2.2) hbr
  · rename_i hh
    by_cases h1 : ws.length ≤ 5
    · by_cases h3 : ∀ k, k < ws.length → -1000 ≤ ws.getD k 0 ∧ ws.getD k 0 ≤ 1000
      · exact modfnI_c2 A ws cap c w h h1 h3 (by
          by_cases h2 : -1000 ≤ c ∧ c ≤ 1000
          · exact absurd ⟨h1, h2.1, h2.2, weights_all.2 h3⟩ hh
          · omega)
      · obtain ⟨j, hj, hb, hv⟩ := weight_bad h3
        exact modfnI_val A ws cap c w h h1 j hj hb hv
    · exact modfnI_len A _ cap c w (by omega)

end Go.Proofs.YtfpoiiennlhphaaDoor.C
