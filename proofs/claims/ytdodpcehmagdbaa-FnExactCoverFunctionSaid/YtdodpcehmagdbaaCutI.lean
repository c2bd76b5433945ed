/-
  The contracts of what impl.CutFunction, impl.DirectedCut and impl.CoverFunction call.
-/
import Derived.Test.YtdodpcehmagdbaaCutM
import Derived.Test.YtdodpcehmagdbaaMany
import Derived.Test.YtdodpcehmagdbaaIsFnI
import Derived.Test.YtdodpcehmagdbaaSub
import Derived.Test.YtdodpcehmagdbaaVal
import Derived.Deep.RegionWith
import Derived.Deep.RegionHeld3
namespace Go.Proofs.Ytdodpcehmagdbaa.C
open Go.RowKit K M
set_option linter.unusedVariables false
set_option linter.unusedSimpArgs false

theorem isCount_yes (z : Int) (w : World) (h0 : 0 ≤ z) (h1 : z ≤ 5) : Calls Try.prog 54 #[.int .i64 z] w fun e w' => e = .returned (.bool true) ∧ w = w' := by
  go_enter Try.func54, Try.ntmps54
  go_wp2
  go_ret
  exact ⟨rfl, rfl⟩

theorem isCount_no (z : Int) (w : World) (h : z < 0 ∨ 5 < z) : Calls Try.prog 54 #[.int .i64 z] w fun e w' => e = .returned (.bool false) ∧ w = w' := by
  by_cases h0 : z < 0
  · have h0' : ¬ 0 ≤ z := by omega
    clear h
    go_enter Try.func54, Try.ntmps54
    go_wp2
    go_ret
    exact ⟨rfl, rfl⟩
  · have h1 : 0 ≤ z := by omega
    have h2 : 5 < z := by omega
    have h3 : decide (z ≤ 5) = false := by simpa using h2
    clear h
    go_enter Try.func54, Try.ntmps54
    go_wp2
    go_ret
    exact ⟨rfl, rfl⟩

theorem isIndex_yes (z n : Int) (w : World) (h0 : 0 ≤ z) (h1 : z < n) : Calls Try.prog 55 #[.int .i64 z, .int .i64 n] w fun e w' => e = .returned (.bool true) ∧ w = w' := by
  go_enter Try.func55, Try.ntmps55
  go_wp2
  go_ret
  exact ⟨rfl, rfl⟩

theorem isIndex_no (z n : Int) (w : World) (h : z < 0 ∨ n ≤ z) : Calls Try.prog 55 #[.int .i64 z, .int .i64 n] w fun e w' => e = .returned (.bool false) ∧ w = w' := by
  by_cases h0 : z < 0
  · have h0' : ¬ 0 ≤ z := by omega
    clear h
    go_enter Try.func55, Try.ntmps55
    go_wp2
    go_ret
    exact ⟨rfl, rfl⟩
  · have h1 : 0 ≤ z := by omega
    have h2 : n ≤ z := by omega
    have h3 : decide (z < n) = false := by simpa using h2
    clear h
    go_enter Try.func55, Try.ntmps55
    go_wp2
    go_ret
    exact ⟨rfl, rfl⟩

theorem isPartW_yes (z : Int) (w : World) (h0 : 0 ≤ z) (h1 : z ≤ 20) : Calls Try.prog 56 #[.int .i64 z] w fun e w' => e = .returned (.bool true) ∧ w = w' := by
  go_enter Try.func56, Try.ntmps56
  go_wp2
  go_ret
  exact ⟨rfl, rfl⟩

theorem isPartW_no (z : Int) (w : World) (h : z < 0 ∨ 20 < z) : Calls Try.prog 56 #[.int .i64 z] w fun e w' => e = .returned (.bool false) ∧ w = w' := by
  by_cases h0 : z < 0
  · have h0' : ¬ 0 ≤ z := by omega
    clear h
    go_enter Try.func56, Try.ntmps56
    go_wp2
    go_ret
    exact ⟨rfl, rfl⟩
  · have h1 : 0 ≤ z := by omega
    have h2 : 20 < z := by omega
    have h3 : decide (z ≤ 20) = false := by simpa using h2
    clear h
    go_enter Try.func56, Try.ntmps56
    go_wp2
    go_ret
    exact ⟨rfl, rfl⟩

theorem has_any (S F : Nat) (w : World) (hS : S < 4294967296) (hF60 : F ≤ 60) : Calls Try.prog 58 #[.int .i64 S, .int .i64 F] w fun e w' => e = .returned (.bool (S.testBit F)) ∧ w = w' := by
  have e1 := bit_val S F hS
  have hF : (0 : Int) ≤ (F : Int) := by omega
  have hmin : min F 64 = F := by omega
  cases t : S.testBit F
  · rw [if_neg (by rw [t]; decide)] at e1
    clear t
    go_enter Try.func58, Try.ntmps58
    go_wp2
    go_ret
    exact ⟨rfl, rfl⟩
  · rw [if_pos t] at e1
    clear t
    go_enter Try.func58, Try.ntmps58
    go_wp2
    go_ret
    exact ⟨rfl, rfl⟩

theorem xor_val (S P : Nat) (hS : S < 4294967296) (hP : P < 4294967296) : bits .xor .i64 (S : Int) (P : Int) = ((S ^^^ P : Nat) : Int) := by
  have hx : S ^^^ P < 2 ^ 32 := Nat.xor_lt_two_pow (by omega) (by omega)
  have ofI : ∀ a : Nat, a < 9223372036854775808 → (BitVec.ofInt 64 (a : Int)).toNat = a := fun a ha => by
    rw [BitVec.ofInt_natCast, BitVec.toNat_ofNat]; exact Nat.mod_eq_of_lt (by omega)
  show IntKind.i64.wrap ((BitVec.ofInt 64 (S : Int) ^^^ BitVec.ofInt 64 (P : Int)).toNat : Int) = _
  rw [BitVec.toNat_xor, ofI S (by omega), ofI P (by omega), IntKind.wrap_i64]
  omega

theorem and_val (S P : Nat) (hS : S < 4294967296) (hP : P < 4294967296) : bits .and .i64 (S : Int) (P : Int) = ((S &&& P : Nat) : Int) := by
  have hx : S &&& P < 2 ^ 32 := Nat.and_lt_two_pow _ (by omega)
  have ofI : ∀ a : Nat, a < 9223372036854775808 → (BitVec.ofInt 64 (a : Int)).toNat = a := fun a ha => by
    rw [BitVec.ofInt_natCast, BitVec.toNat_ofNat]; exact Nat.mod_eq_of_lt (by omega)
  show IntKind.i64.wrap ((BitVec.ofInt 64 (S : Int) &&& BitVec.ofInt 64 (P : Int)).toNat : Int) = _
  rw [BitVec.toNat_and, ofI S (by omega), ofI P (by omega), IntKind.wrap_i64]
  omega

theorem compl_any (S N : Nat) (w : World) (hS : S < 4294967296) (h5 : N ≤ 5) : Calls Try.prog 40 #[.int .i64 S, .int .i64 N] w fun e w' => e = .returned (.int .i64 ((S ^^^ (2 ^ N - 1) : Nat) : Int)) ∧ w = w' := by
  obtain ⟨p, hp⟩ : ∃ p, p = 2 ^ N := ⟨_, rfl⟩
  have hp32 : p ≤ 32 := by have h := Nat.pow_le_pow_right (n := 2) (by decide) h5; omega
  have hp1 : 1 ≤ p := by rw [hp]; exact Nat.two_pow_pos N
  have hsh : wrap64 (2 ^ N) = (p : Int) := by
    have hsh := shl_one (n := (N : Int)) (m := p) (by omega) (by omega) (by rw [Int.toNat_natCast]; exact hp)
    rwa [Int.toNat_natCast] at hsh
  have hx := xor_val S (p - 1) hS (by omega)
  rw [show ((p - 1 : Nat) : Int) = (p : Int) - 1 by omega] at hx
  rw [← hp]
  generalize S ^^^ (p - 1) = q at hx ⊢
  have hN : (0 : Int) ≤ (N : Int) := by omega
  clear hp
  go_enter Try.func40, Try.ntmps40
  go_wp2
  go_ret
  exact ⟨rfl, rfl⟩

theorem edgesI_n (n : Int) (m : Nat) (A : Option Addr) (cap : Nat) (w : World) (hn : n < 0 ∨ 5 < n) :
    Calls Try.prog 36 #[.int .i64 n, .slice A m cap] w (RetV w (.bool false)) := by
  have HW := Lib.hid (St.start w)
  have HN := Lib.hid hn
  clear hn
  go_enter Try.func36, Try.ntmps36
  go_wp2_with (go_at_call_of 54 (Value.int .i64 n); refine (isCount_no n _ HN.out).mono ?_; rintro e w' ⟨rfl, rfl⟩)
  go_ret
  exact ⟨rfl, HW.out.base⟩

theorem edgesI_over (n : Int) (m : Nat) (A : Option Addr) (cap : Nat) (w : World) (n0 : 0 ≤ n) (n5 : n ≤ 5) (hm : 20 < m) :
    Calls Try.prog 36 #[.int .i64 n, .slice A m cap] w (RetV w (.bool false)) := by
  have HW := Lib.hid (St.start w)
  have hmi : (20 : Int) < (m : Int) := by omega
  go_enter Try.func36, Try.ntmps36
  go_wp2_with (first | (go_at_call_of 54 (Value.int .i64 n); refine (isCount_yes n _ n0 n5).mono ?_; rintro e w' ⟨rfl, rfl⟩))
  go_ret
  exact ⟨rfl, HW.out.base⟩

set_option maxRecDepth 100000 in
set_option maxHeartbeats 1600000 in
theorem edgesI_no (n : Int) (m : Nat) (A : Option Addr) (xs : List Int) (cap : Nat) (w : World) (hl : Hid (xs.length = m * 3)) (h : Hid (Ints w w.heap.size A xs)) (n0 : 0 ≤ n) (n5 : n ≤ 5) (hm : m ≤ 20)
    (j : Nat) (hj : j < m) (hb : ¬ edgeOk n xs j) (hv : ∀ k, k < j → edgeOk n xs k) :
    Calls Try.prog 36 #[.int .i64 n, .slice A m cap] w (RetV w (.bool false)) := by
  have HW := Lib.hid (St.start w)
  have HV := Lib.hid hv
  have HB := Lib.hid hb
  have hmi : ¬ (20 : Int) < (m : Int) := by omega
  clear hv hb
  go_enter Try.func36, Try.ntmps36
  go_wp2_with (first | (go_at_call_of 54 (Value.int .i64 n); refine (isCount_yes n _ n0 n5).mono ?_; rintro e w' ⟨rfl, rfl⟩))
  go_loopw [17] (fun i wr => ∃ k : Nat, k ≤ j ∧ i = .int .i64 k ∧ St w wr []) (fun i _ => m - (intOf i).toNat)
  case atStart => exact ⟨0, Nat.zero_le _, rfl, HW.out⟩
  case round =>
    obtain ⟨k, hk, rfl, hS⟩ := hrel
    have HS := Lib.hid hS
    obtain ⟨b, off, rfl, hbl, c0, c1, c2⟩ := (h.out.below hS.base).at3 hl.out (k := k) (by omega)
    have hk0 : (0 : Int) ≤ (k : Int) := by omega
    have hkn : (k : Int) < (m : Int) := by omega
    clear hS
    by_cases hlt : k < j
    · obtain ⟨f0, f1, t0, t1, g0, g1⟩ := HV.out k hlt
      generalize xs.getD (k * 3) 0 = x at c0 f0 f1
      generalize xs.getD (k * 3 + 1) 0 = y at c1 t0 t1
      generalize xs.getD (k * 3 + 2) 0 = z at c2 g0 g1
      go_wp2_with (first | (go_at_call_of 54 (Value.int .i64 n); refine (isCount_yes n _ n0 n5).mono ?_; rintro e w' ⟨rfl, rfl⟩) | (go_at_call_of 55 (Value.int .i64 x); refine (isIndex_yes x n _ f0 f1).mono ?_; rintro e w' ⟨rfl, rfl⟩) | (go_at_call_of 55 (Value.int .i64 y); refine (isIndex_yes y n _ t0 t1).mono ?_; rintro e w' ⟨rfl, rfl⟩) | (go_at_call_of 56 (Value.int .i64 z); refine (isPartW_yes z _ g0 g1).mono ?_; rintro e w' ⟨rfl, rfl⟩))
      go_roundw
      case rel => exact ⟨k + 1, by omega, by go_num, by exact (HS.out.alloc [.int .i64 x, .int .i64 y, .int .i64 z] 52).drop 0⟩
      case measure => simp [intOf]; omega
    · obtain rfl : k = j := by omega
      have hb := HB.out
      unfold edgeOk at hb
      clear HB HV
      generalize xs.getD (k * 3) 0 = x at c0 hb
      generalize xs.getD (k * 3 + 1) 0 = y at c1 hb
      generalize xs.getD (k * 3 + 2) 0 = z at c2 hb
      have HB := Lib.hid hb
      clear hb
      by_cases hq0 : 0 ≤ x ∧ x < n
      · obtain ⟨f0, f1⟩ := hq0
        by_cases hq1 : 0 ≤ y ∧ y < n
        · obtain ⟨t0, t1⟩ := hq1
          have hg : z < 0 ∨ 20 < z := by have := HB.out; omega
          have HG := Lib.hid hg
          clear hg
          go_wp2_with (first | (go_at_call_of 54 (Value.int .i64 n); refine (isCount_yes n _ n0 n5).mono ?_; rintro e w' ⟨rfl, rfl⟩) | (go_at_call_of 55 (Value.int .i64 x); refine (isIndex_yes x n _ f0 f1).mono ?_; rintro e w' ⟨rfl, rfl⟩) | (go_at_call_of 55 (Value.int .i64 y); refine (isIndex_yes y n _ t0 t1).mono ?_; rintro e w' ⟨rfl, rfl⟩) | (go_at_call_of 56 (Value.int .i64 z); refine (isPartW_no z _ HG.out).mono ?_; rintro e w' ⟨rfl, rfl⟩))
          go_ret
          exact ⟨rfl, ((HS.out.alloc [.int .i64 x, .int .i64 y, .int .i64 z] 52).drop 0).base⟩
        · have hg : y < 0 ∨ n ≤ y := by omega
          have HG := Lib.hid hg
          clear hg hq1
          go_wp2_with (first | (go_at_call_of 54 (Value.int .i64 n); refine (isCount_yes n _ n0 n5).mono ?_; rintro e w' ⟨rfl, rfl⟩) | (go_at_call_of 55 (Value.int .i64 x); refine (isIndex_yes x n _ f0 f1).mono ?_; rintro e w' ⟨rfl, rfl⟩) | (go_at_call_of 55 (Value.int .i64 y); refine (isIndex_no y n _ HG.out).mono ?_; rintro e w' ⟨rfl, rfl⟩))
          go_ret
          exact ⟨rfl, ((HS.out.alloc [.int .i64 x, .int .i64 y, .int .i64 z] 52).drop 0).base⟩
      · have hg : x < 0 ∨ n ≤ x := by omega
        have HG := Lib.hid hg
        clear hg hq0
        go_wp2_with (first | (go_at_call_of 54 (Value.int .i64 n); refine (isCount_yes n _ n0 n5).mono ?_; rintro e w' ⟨rfl, rfl⟩) | (go_at_call_of 55 (Value.int .i64 x); refine (isIndex_no x n _ HG.out).mono ?_; rintro e w' ⟨rfl, rfl⟩))
        go_ret
        exact ⟨rfl, ((HS.out.alloc [.int .i64 x, .int .i64 y, .int .i64 z] 52).drop 0).base⟩

set_option maxRecDepth 100000 in
set_option maxHeartbeats 1600000 in
theorem edgesI_all (n : Int) (m : Nat) (A : Option Addr) (xs : List Int) (cap : Nat) (w : World) (hl : Hid (xs.length = m * 3)) (h : Hid (Ints w w.heap.size A xs)) (n0 : 0 ≤ n) (n5 : n ≤ 5) (hm : m ≤ 20)
    (hv : ∀ k, k < m → edgeOk n xs k) :
    Calls Try.prog 36 #[.int .i64 n, .slice A m cap] w (RetV w (.bool true)) := by
  have HW := Lib.hid (St.start w)
  have HV := Lib.hid hv
  have hmi : ¬ (20 : Int) < (m : Int) := by omega
  clear hv
  go_enter Try.func36, Try.ntmps36
  go_wp2_with (first | (go_at_call_of 54 (Value.int .i64 n); refine (isCount_yes n _ n0 n5).mono ?_; rintro e w' ⟨rfl, rfl⟩))
  go_loopw [17] (fun i wr => ∃ k : Nat, k ≤ m ∧ i = .int .i64 k ∧ St w wr []) (fun i _ => m - (intOf i).toNat)
  case atStart => exact ⟨0, Nat.zero_le _, rfl, HW.out⟩
  case round =>
    obtain ⟨k, hk, rfl, hS⟩ := hrel
    have HS := Lib.hid hS
    by_cases hlt : k < m
    · obtain ⟨b, off, rfl, hbl, c0, c1, c2⟩ := (h.out.below hS.base).at3 hl.out (k := k) (by omega)
      have hk0 : (0 : Int) ≤ (k : Int) := by omega
      have hkn : (k : Int) < (m : Int) := by omega
      clear hS
      obtain ⟨f0, f1, t0, t1, g0, g1⟩ := HV.out k hlt
      generalize xs.getD (k * 3) 0 = x at c0 f0 f1
      generalize xs.getD (k * 3 + 1) 0 = y at c1 t0 t1
      generalize xs.getD (k * 3 + 2) 0 = z at c2 g0 g1
      go_wp2_with (first | (go_at_call_of 54 (Value.int .i64 n); refine (isCount_yes n _ n0 n5).mono ?_; rintro e w' ⟨rfl, rfl⟩) | (go_at_call_of 55 (Value.int .i64 x); refine (isIndex_yes x n _ f0 f1).mono ?_; rintro e w' ⟨rfl, rfl⟩) | (go_at_call_of 55 (Value.int .i64 y); refine (isIndex_yes y n _ t0 t1).mono ?_; rintro e w' ⟨rfl, rfl⟩) | (go_at_call_of 56 (Value.int .i64 z); refine (isPartW_yes z _ g0 g1).mono ?_; rintro e w' ⟨rfl, rfl⟩))
      go_roundw
      case rel => exact ⟨k + 1, by omega, by go_num, by exact (HS.out.alloc [.int .i64 x, .int .i64 y, .int .i64 z] 52).drop 0⟩
      case measure => simp [intOf]; omega
    · obtain rfl : k = m := by omega
      have hkn : ¬ (k : Int) < (k : Int) := by omega
      clear hS
      go_wp2
      go_ret
      exact ⟨rfl, HS.out.base⟩

theorem edgesI_any (n : Int) (m : Nat) (A : Option Addr) (xs : List Int) (cap : Nat) (w : World) (hl : Hid (xs.length = m * 3)) (h : Hid (Ints w w.heap.size A xs)) :
    Calls Try.prog 36 #[.int .i64 n, .slice A m cap] w (RetV w (.bool (decide (0 ≤ n ∧ n ≤ 5 ∧ edgesOk n m xs)))) := by
  by_cases hn : 0 ≤ n ∧ n ≤ 5
  · by_cases hm : m ≤ 20
    · by_cases hv : ∀ k, k < m → edgeOk n xs k
      · rw [decide_eq_true (show 0 ≤ n ∧ n ≤ 5 ∧ edgesOk n m xs from ⟨hn.1, hn.2, hm, hv⟩)]
        exact edgesI_all n m A xs cap w hl h hn.1 hn.2 hm hv
      · obtain ⟨j, hj, hb, hk⟩ := first_bad hv
        rw [decide_eq_false fun hh : 0 ≤ n ∧ n ≤ 5 ∧ edgesOk n m xs => hv hh.2.2.2]
        exact edgesI_no n m A xs cap w hl h hn.1 hn.2 hm j hj hb hk
    · rw [decide_eq_false fun hh : 0 ≤ n ∧ n ≤ 5 ∧ edgesOk n m xs => hm hh.2.2.1]
      exact edgesI_over n m A cap w hn.1 hn.2 (by omega)
  · rw [decide_eq_false fun hh : 0 ≤ n ∧ n ≤ 5 ∧ edgesOk n m xs => hn ⟨hh.1, hh.2.1⟩]
    exact edgesI_n n m A cap w (by omega)

theorem blocksI_n (n : Int) (m : Nat) (A : Option Addr) (cap : Nat) (w : World) (hn : n < 0 ∨ 5 < n) :
    Calls Try.prog 46 #[.int .i64 n, .slice A m cap] w (RetV w (.bool false)) := by
  have HW := Lib.hid (St.start w)
  have HN := Lib.hid hn
  clear hn
  go_enter Try.func46, Try.ntmps46
  go_wp2_with (go_at_call_of 54 (Value.int .i64 n); refine (isCount_no n _ HN.out).mono ?_; rintro e w' ⟨rfl, rfl⟩)
  go_ret
  exact ⟨rfl, HW.out.base⟩

theorem blocksI_over (n : Int) (m : Nat) (A : Option Addr) (cap : Nat) (w : World) (n0 : 0 ≤ n) (n5 : n ≤ 5) (hm : 20 < m) :
    Calls Try.prog 46 #[.int .i64 n, .slice A m cap] w (RetV w (.bool false)) := by
  have HW := Lib.hid (St.start w)
  have hmi : (20 : Int) < (m : Int) := by omega
  go_enter Try.func46, Try.ntmps46
  go_wp2_with (first | (go_at_call_of 54 (Value.int .i64 n); refine (isCount_yes n _ n0 n5).mono ?_; rintro e w' ⟨rfl, rfl⟩))
  go_ret
  exact ⟨rfl, HW.out.base⟩

set_option maxRecDepth 100000 in
set_option maxHeartbeats 1600000 in
theorem blocksI_no (n : Int) (m : Nat) (A : Option Addr) (xs : List Int) (cap : Nat) (w : World) (hl : Hid (xs.length = m * 2)) (h : Hid (Ints w w.heap.size A xs)) (n0 : 0 ≤ n) (n5 : n ≤ 5) (hm : m ≤ 20)
    (j : Nat) (hj : j < m) (hb : ¬ blockOk n xs j) (hv : ∀ k, k < j → blockOk n xs k) :
    Calls Try.prog 46 #[.int .i64 n, .slice A m cap] w (RetV w (.bool false)) := by
  have HW := Lib.hid (St.start w)
  have HV := Lib.hid hv
  have HB := Lib.hid hb
  have hmi : ¬ (20 : Int) < (m : Int) := by omega
  clear hv hb
  go_enter Try.func46, Try.ntmps46
  go_wp2_with (first | (go_at_call_of 54 (Value.int .i64 n); refine (isCount_yes n _ n0 n5).mono ?_; rintro e w' ⟨rfl, rfl⟩))
  go_loopw [17] (fun i wr => ∃ k : Nat, k ≤ j ∧ i = .int .i64 k ∧ St w wr []) (fun i _ => m - (intOf i).toNat)
  case atStart => exact ⟨0, Nat.zero_le _, rfl, HW.out⟩
  case round =>
    obtain ⟨k, hk, rfl, hS⟩ := hrel
    have HS := Lib.hid hS
    obtain ⟨b, off, rfl, hbl, c0, c1⟩ := (h.out.below hS.base).at2 hl.out (k := k) (by omega)
    have hk0 : (0 : Int) ≤ (k : Int) := by omega
    have hkn : (k : Int) < (m : Int) := by omega
    clear hS
    by_cases hlt : k < j
    · obtain ⟨f0, g0, g1⟩ := HV.out k hlt
      generalize xs.getD (k * 2) 0 = x at c0 f0
      generalize xs.getD (k * 2 + 1) 0 = y at c1 g0 g1
      go_wp2_with (first | (go_at_call_of 54 (Value.int .i64 n); refine (isCount_yes n _ n0 n5).mono ?_; rintro e w' ⟨rfl, rfl⟩) | (go_at_call_of 59 (Value.int .i64 x); refine (isOf_yes x n _ n0 (by omega) f0).mono ?_; rintro e w' ⟨rfl, rfl⟩) | (go_at_call_of 56 (Value.int .i64 y); refine (isPartW_yes y _ g0 g1).mono ?_; rintro e w' ⟨rfl, rfl⟩))
      go_roundw
      case rel => exact ⟨k + 1, by omega, by go_num, by exact (HS.out.alloc [.int .i64 x, .int .i64 y] 64).drop 0⟩
      case measure => simp [intOf]; omega
    · obtain rfl : k = j := by omega
      have hb := HB.out
      unfold blockOk at hb
      clear HB HV
      generalize xs.getD (k * 2) 0 = x at c0 hb
      generalize xs.getD (k * 2 + 1) 0 = y at c1 hb
      have HB := Lib.hid hb
      clear hb
      by_cases hq0 : isSet n x = true
      · have f0 := hq0
        have hg : y < 0 ∨ 20 < y := by have := HB.out; simp only [f0, true_and] at this; omega
        have HG := Lib.hid hg
        clear hg
        go_wp2_with (first | (go_at_call_of 54 (Value.int .i64 n); refine (isCount_yes n _ n0 n5).mono ?_; rintro e w' ⟨rfl, rfl⟩) | (go_at_call_of 59 (Value.int .i64 x); refine (isOf_yes x n _ n0 (by omega) f0).mono ?_; rintro e w' ⟨rfl, rfl⟩) | (go_at_call_of 56 (Value.int .i64 y); refine (isPartW_no y _ HG.out).mono ?_; rintro e w' ⟨rfl, rfl⟩))
        go_ret
        exact ⟨rfl, ((HS.out.alloc [.int .i64 x, .int .i64 y] 64).drop 0).base⟩
      · have hg : isSet n x = false := by simpa using hq0
        have HG := Lib.hid hg
        clear hg hq0
        go_wp2_with (first | (go_at_call_of 54 (Value.int .i64 n); refine (isCount_yes n _ n0 n5).mono ?_; rintro e w' ⟨rfl, rfl⟩) | (go_at_call_of 59 (Value.int .i64 x); refine (isOf_no x n _ n0 (by omega) HG.out).mono ?_; rintro e w' ⟨rfl, rfl⟩))
        go_ret
        exact ⟨rfl, ((HS.out.alloc [.int .i64 x, .int .i64 y] 64).drop 0).base⟩

set_option maxRecDepth 100000 in
set_option maxHeartbeats 1600000 in
theorem blocksI_all (n : Int) (m : Nat) (A : Option Addr) (xs : List Int) (cap : Nat) (w : World) (hl : Hid (xs.length = m * 2)) (h : Hid (Ints w w.heap.size A xs)) (n0 : 0 ≤ n) (n5 : n ≤ 5) (hm : m ≤ 20)
    (hv : ∀ k, k < m → blockOk n xs k) :
    Calls Try.prog 46 #[.int .i64 n, .slice A m cap] w (RetV w (.bool true)) := by
  have HW := Lib.hid (St.start w)
  have HV := Lib.hid hv
  have hmi : ¬ (20 : Int) < (m : Int) := by omega
  clear hv
  go_enter Try.func46, Try.ntmps46
  go_wp2_with (first | (go_at_call_of 54 (Value.int .i64 n); refine (isCount_yes n _ n0 n5).mono ?_; rintro e w' ⟨rfl, rfl⟩))
  go_loopw [17] (fun i wr => ∃ k : Nat, k ≤ m ∧ i = .int .i64 k ∧ St w wr []) (fun i _ => m - (intOf i).toNat)
  case atStart => exact ⟨0, Nat.zero_le _, rfl, HW.out⟩
  case round =>
    obtain ⟨k, hk, rfl, hS⟩ := hrel
    have HS := Lib.hid hS
    by_cases hlt : k < m
    · obtain ⟨b, off, rfl, hbl, c0, c1⟩ := (h.out.below hS.base).at2 hl.out (k := k) (by omega)
      have hk0 : (0 : Int) ≤ (k : Int) := by omega
      have hkn : (k : Int) < (m : Int) := by omega
      clear hS
      obtain ⟨f0, g0, g1⟩ := HV.out k hlt
      generalize xs.getD (k * 2) 0 = x at c0 f0
      generalize xs.getD (k * 2 + 1) 0 = y at c1 g0 g1
      go_wp2_with (first | (go_at_call_of 54 (Value.int .i64 n); refine (isCount_yes n _ n0 n5).mono ?_; rintro e w' ⟨rfl, rfl⟩) | (go_at_call_of 59 (Value.int .i64 x); refine (isOf_yes x n _ n0 (by omega) f0).mono ?_; rintro e w' ⟨rfl, rfl⟩) | (go_at_call_of 56 (Value.int .i64 y); refine (isPartW_yes y _ g0 g1).mono ?_; rintro e w' ⟨rfl, rfl⟩))
      go_roundw
      case rel => exact ⟨k + 1, by omega, by go_num, by exact (HS.out.alloc [.int .i64 x, .int .i64 y] 64).drop 0⟩
      case measure => simp [intOf]; omega
    · obtain rfl : k = m := by omega
      have hkn : ¬ (k : Int) < (k : Int) := by omega
      clear hS
      go_wp2
      go_ret
      exact ⟨rfl, HS.out.base⟩

theorem blocksI_any (n : Int) (m : Nat) (A : Option Addr) (xs : List Int) (cap : Nat) (w : World) (hl : Hid (xs.length = m * 2)) (h : Hid (Ints w w.heap.size A xs)) :
    Calls Try.prog 46 #[.int .i64 n, .slice A m cap] w (RetV w (.bool (decide (0 ≤ n ∧ n ≤ 5 ∧ blocksOk n m xs)))) := by
  by_cases hn : 0 ≤ n ∧ n ≤ 5
  · by_cases hm : m ≤ 20
    · by_cases hv : ∀ k, k < m → blockOk n xs k
      · rw [decide_eq_true (show 0 ≤ n ∧ n ≤ 5 ∧ blocksOk n m xs from ⟨hn.1, hn.2, hm, hv⟩)]
        exact blocksI_all n m A xs cap w hl h hn.1 hn.2 hm hv
      · obtain ⟨j, hj, hb, hk⟩ := first_bad hv
        rw [decide_eq_false fun hh : 0 ≤ n ∧ n ≤ 5 ∧ blocksOk n m xs => hv hh.2.2.2]
        exact blocksI_no n m A xs cap w hl h hn.1 hn.2 hm j hj hb hk
    · rw [decide_eq_false fun hh : 0 ≤ n ∧ n ≤ 5 ∧ blocksOk n m xs => hm hh.2.2.1]
      exact blocksI_over n m A cap w hn.1 hn.2 (by omega)
  · rw [decide_eq_false fun hh : 0 ≤ n ∧ n ≤ 5 ∧ blocksOk n m xs => hn ⟨hh.1, hh.2.1⟩]
    exact blocksI_n n m A cap w (by omega)

set_option maxRecDepth 100000 in
set_option maxHeartbeats 3200000 in
theorem leaveI_any (S N m : Nat) (A : Option Addr) (xs : List Int) (cap : Nat) (w : World) (hl : Hid (xs.length = m * 3)) (h : Hid (Ints w w.heap.size A xs)) (hS : S < 4294967296) (h5 : N ≤ 5) (h20 : m ≤ 20) (hv : ∀ i, i < m → edgeOk (N : Int) xs i) :
    Calls Try.prog 39 #[.int .i64 S, .slice A m cap] w (RetV w (.int .i64 (sumIf (leaveB xs S) (wtE xs) m))) := by
  have HW := Lib.hid (St.start w)
  have HV := Lib.hid hv
  have HBD := Lib.hid (sumIf_bd (b := leaveB xs S) (edge_wt hv))
  clear hv
  go_enter Try.func39, Try.ntmps39
  go_wp2
  go_loopw [5, 10] (fun x i wr => ∃ k : Nat, i = .int .i64 k ∧ k ≤ m ∧ x = .int .i64 (sumIf (leaveB xs S) (wtE xs) k) ∧ St w wr []) (fun _ i _ => m - (intOf i).toNat)
  case atStart => exact ⟨0, rfl, Nat.zero_le _, rfl, HW.out⟩
  case round =>
    obtain ⟨k, rfl, hk, rfl, hSt⟩ := hrel
    have HS := Lib.hid hSt
    by_cases hlt : k < m
    · obtain ⟨b, off, rfl, hbl, c0, c1, c2⟩ := (h.out.below hSt.base).at3 hl.out hlt
      obtain ⟨d0, d1⟩ := HBD.out k hk
      have hk0 : (0 : Int) ≤ (k : Int) := by omega
      have hkn : (k : Int) < (m : Int) := by omega
      clear hSt
      obtain ⟨f0, f1, t0, t1, g0, g1⟩ := HV.out k hlt
      obtain ⟨F, hF⟩ : ∃ F : Nat, xs.getD (k * 3) 0 = (F : Int) := ⟨_, (Int.toNat_of_nonneg f0).symm⟩
      obtain ⟨T, hT⟩ : ∃ T : Nat, xs.getD (k * 3 + 1) 0 = (T : Int) := ⟨_, (Int.toNat_of_nonneg t0).symm⟩
      have hat := leave_at (s := S) hF hT
      have hyes : leaveB xs S k = true → sumIf (leaveB xs S) (wtE xs) (k + 1) = sumIf (leaveB xs S) (wtE xs) k + xs.getD (k * 3 + 2) 0 := fun e => sumIf_yes e
      have hno := fun e => sumIf_no (b := leaveB xs S) (g := wtE xs) (i := k) e
      have hw : IntKind.i64.wrap (sumIf (leaveB xs S) (wtE xs) k + xs.getD (k * 3 + 2) 0) = sumIf (leaveB xs S) (wtE xs) k + xs.getD (k * 3 + 2) 0 := IntWalk.i64_in _ (by omega)
      rw [hat] at hyes hno
      rw [hF] at c0 f0 f1
      rw [hT] at c1 t0 t1
      generalize xs.getD (k * 3 + 2) 0 = z at c2 g0 g1 hyes hw
      have HF := Lib.hid (fun W => has_any S F W hS (by omega))
      have HT := Lib.hid (fun W => has_any S T W hS (by omega))
      clear hat hF hT
      cases u1 : S.testBit F
      · rw [u1] at HF
        have hstep := hno (by simp [u1])
        clear hyes hno
        have HST := Lib.hid hstep
        clear hstep
        generalize sumIf (leaveB xs S) (wtE xs) k = yy at d0 d1 HST hw ⊢
        go_wp2_with (first | (go_at_call_of 58 (Value.int .i64 (F : Int)); refine (HF.out _).mono ?_; rintro e w' ⟨rfl, rfl⟩) | (go_at_call_of 58 (Value.int .i64 (T : Int)); refine (HT.out _).mono ?_; rintro e w' ⟨rfl, rfl⟩))
        go_roundw
        case rel => exact ⟨k + 1, by go_num, by omega, by rw [HST.out], (HS.out.alloc [.int .i64 (F : Int), .int .i64 (T : Int), .int .i64 z] 52).drop 0⟩
        case measure => simp [intOf]; omega
      · rw [u1] at HF
        cases u2 : S.testBit T
        · rw [u2] at HT
          have hstep := hyes (by simp [u1, u2])
          clear hyes hno
          have HST := Lib.hid hstep
          clear hstep
          generalize sumIf (leaveB xs S) (wtE xs) k = yy at d0 d1 HST hw ⊢
          go_wp2_with (first | (go_at_call_of 58 (Value.int .i64 (F : Int)); refine (HF.out _).mono ?_; rintro e w' ⟨rfl, rfl⟩) | (go_at_call_of 58 (Value.int .i64 (T : Int)); refine (HT.out _).mono ?_; rintro e w' ⟨rfl, rfl⟩))
          go_roundw
          case rel => exact ⟨k + 1, by go_num, by omega, by rw [HST.out], (HS.out.alloc [.int .i64 (F : Int), .int .i64 (T : Int), .int .i64 z] 52).drop 0⟩
          case measure => simp [intOf]; omega
        · rw [u2] at HT
          have hstep := hno (by simp [u1, u2])
          clear hyes hno
          have HST := Lib.hid hstep
          clear hstep
          generalize sumIf (leaveB xs S) (wtE xs) k = yy at d0 d1 HST hw ⊢
          go_wp2_with (first | (go_at_call_of 58 (Value.int .i64 (F : Int)); refine (HF.out _).mono ?_; rintro e w' ⟨rfl, rfl⟩) | (go_at_call_of 58 (Value.int .i64 (T : Int)); refine (HT.out _).mono ?_; rintro e w' ⟨rfl, rfl⟩))
          go_roundw
          case rel => exact ⟨k + 1, by go_num, by omega, by rw [HST.out], (HS.out.alloc [.int .i64 (F : Int), .int .i64 (T : Int), .int .i64 z] 52).drop 0⟩
          case measure => simp [intOf]; omega
    · obtain rfl : k = m := by omega
      have hkn : ¬ (k : Int) < (k : Int) := by omega
      clear hSt
      go_wp2
      go_ret
      exact ⟨rfl, HS.out.base⟩

set_option maxRecDepth 100000 in
set_option maxHeartbeats 3200000 in
theorem metI_any (S N m : Nat) (A : Option Addr) (xs : List Int) (cap : Nat) (w : World) (hl : Hid (xs.length = m * 2)) (h : Hid (Ints w w.heap.size A xs)) (hS : S < 4294967296) (h5 : N ≤ 5) (h20 : m ≤ 20) (hv : ∀ i, i < m → blockOk (N : Int) xs i) :
    Calls Try.prog 48 #[.int .i64 S, .slice A m cap] w (RetV w (.int .i64 (sumIf (meetB xs S) (wtB xs) m))) := by
  have HW := Lib.hid (St.start w)
  have HV := Lib.hid hv
  have HBD := Lib.hid (sumIf_bd (b := meetB xs S) (block_wt hv))
  clear hv
  go_enter Try.func48, Try.ntmps48
  go_wp2
  go_loopw [5, 10] (fun x i wr => ∃ k : Nat, i = .int .i64 k ∧ k ≤ m ∧ x = .int .i64 (sumIf (meetB xs S) (wtB xs) k) ∧ St w wr []) (fun _ i _ => m - (intOf i).toNat)
  case atStart => exact ⟨0, rfl, Nat.zero_le _, rfl, HW.out⟩
  case round =>
    obtain ⟨k, rfl, hk, rfl, hSt⟩ := hrel
    have HS := Lib.hid hSt
    by_cases hlt : k < m
    · obtain ⟨b, off, rfl, hbl, c0, c1⟩ := (h.out.below hSt.base).at2 hl.out hlt
      obtain ⟨d0, d1⟩ := HBD.out k hk
      have hk0 : (0 : Int) ≤ (k : Int) := by omega
      have hkn : (k : Int) < (m : Int) := by omega
      clear hSt
      obtain ⟨f0, g0, g1⟩ := HV.out k hlt
      obtain ⟨f1, f2⟩ := isSet_yes f0
      obtain ⟨F, hF⟩ : ∃ F : Nat, xs.getD (k * 2) 0 = (F : Int) := ⟨_, (Int.toNat_of_nonneg f1).symm⟩
      have hat := meet_at (s := S) hF
      have hyes : meetB xs S k = true → sumIf (meetB xs S) (wtB xs) (k + 1) = sumIf (meetB xs S) (wtB xs) k + xs.getD (k * 2 + 1) 0 := fun e => sumIf_yes e
      have hno := fun e => sumIf_no (b := meetB xs S) (g := wtB xs) (i := k) e
      have hw : IntKind.i64.wrap (sumIf (meetB xs S) (wtB xs) k + xs.getD (k * 2 + 1) 0) = sumIf (meetB xs S) (wtB xs) k + xs.getD (k * 2 + 1) 0 := IntWalk.i64_in _ (by omega)
      rw [hat] at hyes hno
      rw [hF] at c0 f1 f2
      have hp : 2 ^ N ≤ 2 ^ 5 := Nat.pow_le_pow_right (by decide) h5
      rw [Int.toNat_natCast] at f2
      have hand := and_val S F hS (by omega)
      generalize xs.getD (k * 2 + 1) 0 = y at c1 g0 g1 hyes hw
      generalize S &&& F = q at hand hyes hno
      clear hat hF f0 f1 f2 hp
      by_cases hq : q = 0
      · subst hq
        have hstep := hno (by simp)
        clear hyes hno
        have HST := Lib.hid hstep
        clear hstep
        generalize sumIf (meetB xs S) (wtB xs) k = yy at d0 d1 HST hw ⊢
        go_wp2
        go_roundw
        case rel => exact ⟨k + 1, by go_num, by omega, by rw [HST.out], (HS.out.alloc [.int .i64 (F : Int), .int .i64 y] 64).drop 0⟩
        case measure => simp [intOf]; omega
      · have hq0 : ((q : Int) == 0) = false := beq_eq_false_iff_ne.2 (by omega)
        have hstep := hyes (by simp [hq])
        clear hyes hno
        have HST := Lib.hid hstep
        clear hstep
        generalize sumIf (meetB xs S) (wtB xs) k = yy at d0 d1 HST hw ⊢
        go_wp2
        go_roundw
        case rel => exact ⟨k + 1, by go_num, by omega, by rw [HST.out], (HS.out.alloc [.int .i64 (F : Int), .int .i64 y] 64).drop 0⟩
        case measure => simp [intOf]; omega
    · obtain rfl : k = m := by omega
      have hkn : ¬ (k : Int) < (k : Int) := by omega
      clear hSt
      go_wp2
      go_ret
      exact ⟨rfl, HS.out.base⟩

end Go.Proofs.Ytdodpcehmagdbaa.C
