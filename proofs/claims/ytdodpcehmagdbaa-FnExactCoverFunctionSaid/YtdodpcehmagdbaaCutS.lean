/-
  The contracts of spec.CutFunction, spec.DirectedCut and spec.CoverFunction and of what they call.
-/
import Derived.Test.YtdodpcehmagdbaaCutM
import Derived.Test.YtdodpcehmagdbaaMany
import Derived.Test.YtdodpcehmagdbaaFunS
import Derived.Test.YtdodpcehmagdbaaSub
import Derived.Test.YtdodpcehmagdbaaVal
import Derived.Deep.RegionWith
namespace Go.Proofs.Ytdodpcehmagdbaa.C
open Go.RowKit K M
set_option linter.unusedVariables false
set_option linter.unusedSimpArgs false

set_option maxRecDepth 100000 in
set_option maxHeartbeats 1600000 in
theorem edgesS_no (n : Int) (m : Nat) (A : Option Addr) (xs : List Int) (cap : Nat) (w : World) (hl : Hid (xs.length = m * 3)) (h : Hid (Ints w w.heap.size A xs)) (n0 : 0 ≤ n) (n5 : n ≤ 5) (hm : m ≤ 1048576)
    (j : Nat) (hj : j < m) (hb : ¬ edgeOk n xs j) (hv : ∀ k, k < j → edgeOk n xs k) :
    Calls Try.prog 33 #[.int .i64 n, .slice A m cap] w fun e w' => e = .returned (.bool false) ∧ w = w' := by
  have HV := Lib.hid hv
  have HB := Lib.hid hb
  have hn1 : IntKind.i64.wrap (n - 1) = n - 1 := IntWalk.i64_in _ (by omega)
  clear hv hb
  go_enter Try.func33, Try.ntmps33
  go_wp2
  go_loop [5] (fun i => ∃ k : Nat, k ≤ j ∧ i = .int .i64 k) (fun i => m - (intOf i).toNat)
  case atStart => exact ⟨0, Nat.zero_le _, rfl⟩
  case round =>
    obtain ⟨k, hk, rfl⟩ := hrel
    obtain ⟨b, off, rfl, hbl, c0, c1, c2⟩ := h.out.at3 hl.out (k := k) (by omega)
    have hk0 : (0 : Int) ≤ (k : Int) := by omega
    have hkn : (k : Int) < (m : Int) := by omega
    by_cases hlt : k < j
    · obtain ⟨f0, f1, t0, t1, g0, g1⟩ := HV.out k hlt
      generalize xs.getD (k * 3) 0 = x at c0 f0 f1
      generalize xs.getD (k * 3 + 1) 0 = y at c1 t0 t1
      generalize xs.getD (k * 3 + 2) 0 = z at c2 g0 g1
      go_wp2_with (first | (go_at_call_of 32 (Value.int .i64 n); refine (in_yes n 0 5 _ n0 n5).mono ?_; rintro e w' ⟨rfl, rfl⟩) | (go_at_call_of 32 (Value.int .i64 x); refine (in_yes x 0 (n - 1) _ f0 (by omega)).mono ?_; rintro e w' ⟨rfl, rfl⟩) | (go_at_call_of 32 (Value.int .i64 y); refine (in_yes y 0 (n - 1) _ t0 (by omega)).mono ?_; rintro e w' ⟨rfl, rfl⟩) | (go_at_call_of 32 (Value.int .i64 z); refine (in_yes z 0 20 _ g0 g1).mono ?_; rintro e w' ⟨rfl, rfl⟩))
      go_round
      case rel => exact ⟨k + 1, by omega, by go_num⟩
      case measure => simp [intOf]; omega
    · obtain rfl : k = j := by omega
      have hb := HB.out
      unfold edgeOk at hb
      clear HB HV
      generalize xs.getD (k * 3) 0 = x at c0 hb
      generalize xs.getD (k * 3 + 1) 0 = y at c1 hb
      generalize xs.getD (k * 3 + 2) 0 = z at c2 hb
      have HB := Lib.hid hb
      clear hb
      by_cases hf : 0 ≤ x ∧ x < n
      · by_cases ht : 0 ≤ y ∧ y < n
        · have hg : z < 0 ∨ 20 < z := by have := HB.out; omega
          obtain ⟨f0, f1⟩ := hf
          obtain ⟨t0, t1⟩ := ht
          have HG := Lib.hid hg
          clear hg
          go_wp2_with (first | (go_at_call_of 32 (Value.int .i64 n); refine (in_yes n 0 5 _ n0 n5).mono ?_; rintro e w' ⟨rfl, rfl⟩) | (go_at_call_of 32 (Value.int .i64 x); refine (in_yes x 0 (n - 1) _ f0 (by omega)).mono ?_; rintro e w' ⟨rfl, rfl⟩) | (go_at_call_of 32 (Value.int .i64 y); refine (in_yes y 0 (n - 1) _ t0 (by omega)).mono ?_; rintro e w' ⟨rfl, rfl⟩) | (go_at_call_of 32 (Value.int .i64 z); refine (in_no z 0 20 _ HG.out).mono ?_; rintro e w' ⟨rfl, rfl⟩))
          go_ret
          exact ⟨rfl, rfl⟩
        · have hg : y < 0 ∨ n - 1 < y := by omega
          obtain ⟨f0, f1⟩ := hf
          have HG := Lib.hid hg
          clear hg ht
          go_wp2_with (first | (go_at_call_of 32 (Value.int .i64 n); refine (in_yes n 0 5 _ n0 n5).mono ?_; rintro e w' ⟨rfl, rfl⟩) | (go_at_call_of 32 (Value.int .i64 x); refine (in_yes x 0 (n - 1) _ f0 (by omega)).mono ?_; rintro e w' ⟨rfl, rfl⟩) | (go_at_call_of 32 (Value.int .i64 y); refine (in_no y 0 (n - 1) _ HG.out).mono ?_; rintro e w' ⟨rfl, rfl⟩))
          go_ret
          exact ⟨rfl, rfl⟩
      · have hg : x < 0 ∨ n - 1 < x := by omega
        have HG := Lib.hid hg
        clear hg hf
        go_wp2_with (first | (go_at_call_of 32 (Value.int .i64 n); refine (in_yes n 0 5 _ n0 n5).mono ?_; rintro e w' ⟨rfl, rfl⟩) | (go_at_call_of 32 (Value.int .i64 x); refine (in_no x 0 (n - 1) _ HG.out).mono ?_; rintro e w' ⟨rfl, rfl⟩))
        go_ret
        exact ⟨rfl, rfl⟩

set_option maxRecDepth 100000 in
set_option maxHeartbeats 1600000 in
theorem edgesS_all (n : Int) (m : Nat) (A : Option Addr) (xs : List Int) (cap : Nat) (w : World) (hl : Hid (xs.length = m * 3)) (h : Hid (Ints w w.heap.size A xs)) (n0 : 0 ≤ n) (n5 : n ≤ 5) (hm : m ≤ 1048576)
    (hv : ∀ k, k < m → edgeOk n xs k) :
    Calls Try.prog 33 #[.int .i64 n, .slice A m cap] w fun e w' => e = .returned (.bool (decide (m ≤ 20))) ∧ w = w' := by
  have HV := Lib.hid hv
  obtain ⟨rb, hrb⟩ : ∃ rb, decide (m ≤ 20) = rb := ⟨_, rfl⟩
  rw [hrb]
  have HRB := Lib.hid hrb
  have hn1 : IntKind.i64.wrap (n - 1) = n - 1 := IntWalk.i64_in _ (by omega)
  clear hv hrb
  go_enter Try.func33, Try.ntmps33
  go_wp2
  go_loop [5] (fun i => ∃ k : Nat, k ≤ m ∧ i = .int .i64 k) (fun i => m - (intOf i).toNat)
  case atStart => exact ⟨0, Nat.zero_le _, rfl⟩
  case round =>
    obtain ⟨k, hk, rfl⟩ := hrel
    by_cases hlt : k < m
    · obtain ⟨b, off, rfl, hbl, c0, c1, c2⟩ := h.out.at3 hl.out (k := k) (by omega)
      have hk0 : (0 : Int) ≤ (k : Int) := by omega
      have hkn : (k : Int) < (m : Int) := by omega
      obtain ⟨f0, f1, t0, t1, g0, g1⟩ := HV.out k hlt
      generalize xs.getD (k * 3) 0 = x at c0 f0 f1
      generalize xs.getD (k * 3 + 1) 0 = y at c1 t0 t1
      generalize xs.getD (k * 3 + 2) 0 = z at c2 g0 g1
      go_wp2_with (first | (go_at_call_of 32 (Value.int .i64 n); refine (in_yes n 0 5 _ n0 n5).mono ?_; rintro e w' ⟨rfl, rfl⟩) | (go_at_call_of 32 (Value.int .i64 x); refine (in_yes x 0 (n - 1) _ f0 (by omega)).mono ?_; rintro e w' ⟨rfl, rfl⟩) | (go_at_call_of 32 (Value.int .i64 y); refine (in_yes y 0 (n - 1) _ t0 (by omega)).mono ?_; rintro e w' ⟨rfl, rfl⟩) | (go_at_call_of 32 (Value.int .i64 z); refine (in_yes z 0 20 _ g0 g1).mono ?_; rintro e w' ⟨rfl, rfl⟩))
      go_round
      case rel => exact ⟨k + 1, by omega, by go_num⟩
      case measure => simp [intOf]; omega
    · obtain rfl : k = m := by omega
      have hkn : ¬ (k : Int) < (k : Int) := by omega
      by_cases h20 : k ≤ 20
      · have h20i : (k : Int) ≤ 20 := by omega
        have HB := HRB.out
        rw [decide_eq_true h20] at HB
        subst HB
        go_wp2
        go_ret
        exact ⟨rfl, rfl⟩
      · have h20i : ¬ (k : Int) ≤ 20 := by omega
        have HB := HRB.out
        rw [decide_eq_false h20] at HB
        subst HB
        go_wp2
        go_ret
        exact ⟨rfl, rfl⟩

theorem edgesS_any (n : Int) (m : Nat) (A : Option Addr) (xs : List Int) (cap : Nat) (w : World) (hl : Hid (xs.length = m * 3)) (h : Hid (Ints w w.heap.size A xs)) (n0 : 0 ≤ n) (n5 : n ≤ 5) (hm : m ≤ 1048576) :
    Calls Try.prog 33 #[.int .i64 n, .slice A m cap] w fun e w' => e = .returned (.bool (decide (edgesOk n m xs))) ∧ w = w' := by
  by_cases hv : ∀ k, k < m → edgeOk n xs k
  · have := edgesS_all n m A xs cap w hl h n0 n5 hm hv
    rwa [show decide (m ≤ 20) = decide (edgesOk n m xs) from decide_eq_decide.2 ⟨fun h => ⟨h, hv⟩, fun h => h.1⟩] at this
  · obtain ⟨j, hj, hb, hk⟩ := first_bad hv
    rw [decide_eq_false fun h : edgesOk n m xs => hv h.2]
    exact edgesS_no n m A xs cap w hl h n0 n5 hm j hj hb hk

theorem shl_small {N p : Nat} (h5 : N ≤ 5) (hp : p = 2 ^ N) : wrap64 (2 ^ N) = (p : Int) := by
  have hsh := shl_one (n := (N : Int)) (m := p) (by omega) (by omega) (by rw [Int.toNat_natCast]; exact hp)
  rwa [Int.toNat_natCast] at hsh

set_option maxHeartbeats 1600000 in
theorem cutS_n (n : Int) (A : Option Addr) (m cap : Nat) (w : World) (hn : n < 0 ∨ 5 < n) :
    Calls Try.prog 9 #[.int .i64 n, .slice A m cap] w (RetFB w 0 [] false) := by
  have HW := Lib.hid (St.start w)
  have HN := Lib.hid hn
  clear hn
  go_enter Try.func9, Try.ntmps9
  go_wp2_with (go_at_call_of 32 (Value.int .i64 n); refine (in_no n 0 5 _ HN.out).mono ?_; rintro e w' ⟨rfl, rfl⟩)
  have hS := HW.out.alloc [.int .i64 0, .slice none 0 0] 26
  exact bodyPost_ret (v := .tuple #[.agg #[.int .i64 0, .slice none 0 0], .bool false]) (by simp [results, Try.results9, go_sem]) rfl ⟨none, 0, rfl, Own.nil _ _, hS.base⟩

set_option maxHeartbeats 1600000 in
theorem cutS_e (n : Int) (m : Nat) (A : Option Addr) (xs : List Int) (cap : Nat) (w : World) (hl : Hid (xs.length = m * 3)) (h : Hid (Ints w w.heap.size A xs)) (n0 : 0 ≤ n) (n5 : n ≤ 5) (hm : m ≤ 1048576) (hno : ¬ edgesOk n m xs) :
    Calls Try.prog 9 #[.int .i64 n, .slice A m cap] w (RetFB w 0 [] false) := by
  have HW := Lib.hid (St.start w)
  have HE := Lib.hid (fun W hW => edgesS_any n m A xs cap W hl (Lib.hid hW) n0 n5 hm)
  rw [decide_eq_false hno] at HE
  clear hno
  go_enter Try.func9, Try.ntmps9
  go_wp2_with (first | (go_at_call_of 32 (Value.int .i64 n); refine (in_yes n 0 5 _ n0 n5).mono ?_; rintro e w' ⟨rfl, rfl⟩) | (go_at_call 33; refine St.use (w0 := w) (by exact HW.out.alloc _ _) ?_; intro hS; refine (HE.out _ ((h.out.below hS.base).mono hS.size)).mono ?_; rintro e w' ⟨rfl, rfl⟩; clear hS))
  have hS := HW.out.alloc [.int .i64 0, .slice none 0 0] 26
  exact bodyPost_ret (v := .tuple #[.agg #[.int .i64 0, .slice none 0 0], .bool false]) (by simp [results, Try.results9, go_sem]) rfl ⟨none, 0, rfl, Own.nil _ _, hS.base⟩

set_option maxRecDepth 100000 in
set_option maxHeartbeats 8000000 in
theorem cutS_good (N m : Nat) (A : Option Addr) (xs : List Int) (cap : Nat) (w : World) (hl : Hid (xs.length = m * 3)) (h : Hid (Ints w w.heap.size A xs)) (h5 : N ≤ 5) (h20 : m ≤ 20) (hv : ∀ i, i < m → edgeOk (N : Int) xs i) (f : Nat → Int) (hf : ∀ s, sumIf (crossB xs s) (wtE xs) m = f s) :
    Calls Try.prog 9 #[.int .i64 N, .slice A m cap] w (RetFB w (made (N : Int) (tab (2 ^ N) f)).1 (made (N : Int) (tab (2 ^ N) f)).2.1 (made (N : Int) (tab (2 ^ N) f)).2.2) := by
  have HW := Lib.hid (St.start w)
  obtain ⟨p, hp⟩ : ∃ p, p = 2 ^ N := ⟨_, rfl⟩
  have hp32 : p ≤ 32 := by have h := Nat.pow_le_pow_right (n := 2) (by decide) h5; omega
  have hsh := shl_small h5 hp
  have HP := Lib.hid hp
  rw [← hp]
  obtain ⟨rn, rx, rb, hr⟩ : ∃ rn rx rb, made (N : Int) (tab p f) = (rn, rx, rb) := ⟨_, _, _, rfl⟩
  rw [hr]
  have HR := Lib.hid hr
  have HV := Lib.hid hv
  have HFS := Lib.hid hf
  have HBD := Lib.hid (fun s => sumIf_bd (b := crossB xs s) (edge_wt hv))
  have n0 : (0 : Int) ≤ (N : Int) := by omega
  have n5 : (N : Int) ≤ 5 := by omega
  have HEE := Lib.hid (fun W hW => edgesS_any (N : Int) m A xs cap W hl (Lib.hid hW) n0 n5 (by omega))
  rw [decide_eq_true (show edgesOk (N : Int) m xs from ⟨h20, hv⟩)] at HEE
  clear hv hf hp hr
  obtain ⟨i0, hi, hz0, hz1, hz2⟩ := info_parts info_int
  go_enter Try.func9, Try.ntmps9
  go_wp2_with (first | (go_at_call_of 32 (Value.int .i64 (N : Int)); refine (in_yes _ 0 5 _ n0 n5).mono ?_; rintro e w' ⟨rfl, rfl⟩) | (go_at_call 33; refine St.use (w0 := w) (by exact HW.out.alloc _ _) ?_; intro hS; refine (HEE.out _ ((h.out.below hS.base).mono hS.size)).mono ?_; rintro e w' ⟨rfl, rfl⟩; clear hS))
  have HS := Lib.hid (HW.out.alloc [.int .i64 0, .slice none 0 0] 26)
  go_loopw [6, 7] (fun v i wr => ∃ (j : Nat) (V : Option Addr) (c : Nat), i = .int .i64 j ∧ j ≤ p ∧ v = .slice V j c ∧ St w wr [il (.slice V j c) j (tab j f), bx w.heap.size 26 [.int .i64 0, .slice none 0 0]]) (fun _ i _ => p - (intOf i).toNat)
  case atStart => exact ⟨0, _, _, rfl, Nat.zero_le _, rfl, by have e := HS.out.empty; rw [World.size_alloc] at e; exact e⟩
  case round =>
    obtain ⟨j, V, cc, rfl, hj, rfl, hS⟩ := hrel
    obtain ⟨b1, f1⟩ := hS.box (i := 1) rfl
    have b10 := b1 0 _ rfl
    have b11 := b1 1 _ rfl
    have f10 := f1 0
    have f11 := f1 1
    have bl1 := (hS.lt (i := 1) rfl).2
    clear b1 f1
    have HS1 := Lib.hid hS
    by_cases hlt2 : j < p
    · have htab := Lib.hid (tab_succ j f)
      have hjn : (j : Int) < (p : Int) := by omega
      have hj32 : j < 32 := by omega
      have hj0 : (0 : Int) ≤ (j : Int) := by omega
      clear hS b10 b11 f10 f11
      go_wp2
      obtain ⟨wo, rfl⟩ : ∃ wo : World, wo = wr := ⟨_, rfl⟩
      go_loopw [8, 9] (fun x i wr => ∃ k : Nat, i = .int .i64 k ∧ k ≤ m ∧ x = .int .i64 (sumIf (crossB xs j) (wtE xs) k) ∧ St w wr [il (.slice V j cc) j (tab j f), bx w.heap.size 26 [.int .i64 0, .slice none 0 0]]) (fun _ i _ => m - (intOf i).toNat)
      case atStart => exact ⟨0, rfl, Nat.zero_le _, rfl, HS1.out⟩
      case round =>
        obtain ⟨k, rfl, hk, rfl, hS⟩ := hrel
        have HS2 := Lib.hid hS
        by_cases hlt3 : k < m
        · obtain ⟨b, off, rfl, hbl, c0, c1, c2⟩ := (h.out.below hS.base).at3 hl.out hlt3
          obtain ⟨f0, f1, t0, t1, g0, g1⟩ := HV.out k hlt3
          obtain ⟨d0, d1⟩ := HBD.out j k hk
          have hk0 : (0 : Int) ≤ (k : Int) := by omega
          have hkn : (k : Int) < (m : Int) := by omega
          obtain ⟨F, hF⟩ : ∃ F : Nat, xs.getD (k * 3) 0 = (F : Int) := ⟨_, (Int.toNat_of_nonneg f0).symm⟩
          obtain ⟨T, hT⟩ : ∃ T : Nat, xs.getD (k * 3 + 1) 0 = (T : Int) := ⟨_, (Int.toNat_of_nonneg t0).symm⟩
          have hat := cross_at (s := j) hF hT
          have hyes : crossB xs j k = true → sumIf (crossB xs j) (wtE xs) (k + 1) = sumIf (crossB xs j) (wtE xs) k + xs.getD (k * 3 + 2) 0 := fun e => sumIf_yes e
          have hno := fun e => sumIf_no (b := crossB xs j) (g := wtE xs) (i := k) e
          have hw : IntKind.i64.wrap (sumIf (crossB xs j) (wtE xs) k + xs.getD (k * 3 + 2) 0) = sumIf (crossB xs j) (wtE xs) k + xs.getD (k * 3 + 2) 0 := IntWalk.i64_in _ (by omega)
          rw [hat] at hyes hno
          rw [hF] at c0 f0 f1
          rw [hT] at c1 t0 t1
          have e1 := bit_val j F (by omega)
          have e2 := bit_val j T (by omega)
          generalize xs.getD (k * 3 + 2) 0 = z at c2 g0 g1 hyes hw
          clear hS hat hF hT
          by_cases u1 : j.testBit F = true
          · rw [if_pos u1] at e1
            by_cases u2 : j.testBit T = true
            · rw [if_pos u2] at e2
              have hstep := hno (by simp [u1, u2])
              clear hyes hno
              have HST := Lib.hid hstep
              clear hstep
              generalize sumIf (crossB xs j) (wtE xs) k = y at d0 d1 HST hw ⊢
              go_wp2
              go_quiet (fail)
              go_wp2
              go_roundw
              case rel => exact ⟨k + 1, by go_num, by omega, by rw [HST.out], by first | exact HS2.out | exact HS2.out.drew | exact HS2.out.drewN _⟩
              case measure => simp [intOf]; omega
            · rw [if_neg u2] at e2
              have hstep := hyes (by simp [u1, u2])
              clear hyes hno
              have HST := Lib.hid hstep
              clear hstep
              generalize sumIf (crossB xs j) (wtE xs) k = y at d0 d1 HST hw ⊢
              go_wp2
              go_quiet (fail)
              go_wp2
              go_roundw
              case rel => exact ⟨k + 1, by go_num, by omega, by rw [HST.out], by first | exact HS2.out | exact HS2.out.drew | exact HS2.out.drewN _⟩
              case measure => simp [intOf]; omega
          · rw [if_neg u1] at e1
            by_cases u2 : j.testBit T = true
            · rw [if_pos u2] at e2
              have hstep := hyes (by simp [u1, u2])
              clear hyes hno
              have HST := Lib.hid hstep
              clear hstep
              generalize sumIf (crossB xs j) (wtE xs) k = y at d0 d1 HST hw ⊢
              go_wp2
              go_quiet (fail)
              go_wp2
              go_roundw
              case rel => exact ⟨k + 1, by go_num, by omega, by rw [HST.out], by first | exact HS2.out | exact HS2.out.drew | exact HS2.out.drewN _⟩
              case measure => simp [intOf]; omega
            · rw [if_neg u2] at e2
              have hstep := hno (by simp [u1, u2])
              clear hyes hno
              have HST := Lib.hid hstep
              clear hstep
              generalize sumIf (crossB xs j) (wtE xs) k = y at d0 d1 HST hw ⊢
              go_wp2
              go_quiet (fail)
              go_wp2
              go_roundw
              case rel => exact ⟨k + 1, by go_num, by omega, by rw [HST.out], by first | exact HS2.out | exact HS2.out.drew | exact HS2.out.drewN _⟩
              case measure => simp [intOf]; omega
        · obtain rfl : k = m := by omega
          have hkn : ¬ (k : Int) < (k : Int) := by omega
          rw [HFS.out]
          generalize f j = y at htab
          clear hS
          go_wp2_with (at_builtin; refine wpList_app1 rfl (.tmp 59) (.tmp 61) 24 rfl y Try.underlying24 hi hz0 hz1 hz2 ((HS2.out.alloc _ _).drop 0) (i := 0) rfl rfl rfl (by simp) (by omega) ?_; intro V' c' w2 hS2; have HS3 := Lib.hid hS2; clear hS2)
          go_roundw
          case rel => exact ⟨j + 1, V', c', by go_num, by omega, rfl, by rw [htab.out]; exact HS3.out⟩
          case measure => simp [intOf]; omega
    · obtain rfl : j = p := by omega
      have hjn : ¬ (j : Int) < (j : Int) := by omega
      obtain ⟨B, d, hcall, hend⟩ := made_any (N : Int) V (tab j f) j cc wr (tab_length _ _) (hS.ints (i := 0) rfl)
      rw [HR.out] at hcall hend
      have HC := Lib.hid hcall
      have HE := Lib.hid hend
      clear hcall hend hS
      go_wp2_with (go_at_call 34; refine HC.out.mono ?_; rintro e w2 ⟨rfl, hb⟩; have hS2 := HS1.out.below hb; obtain ⟨p1, q1⟩ := hS2.box (i := 1) rfl; have p10 := p1 0 _ rfl; have p11 := p1 1 _ rfl; have q10 := q1 0; have q11 := q1 1; have pl := (hS2.lt (i := 1) rfl).2; clear p1 q1 hb b10 b11 f10 f11; have HS2 := Lib.hid hS2; clear hS2)
      have hS3 := ((HS2.out.store (i := 1) rfl 0 (.int .i64 rn)).store (i := 1) rfl 1 (.slice B rx.length d)).alloc [.int .i64 rn, .slice B rx.length d] 26
      exact bodyPost_ret (v := .tuple #[.agg #[.int .i64 rn, .slice B rx.length d], .bool rb]) (by simp [results, Try.results9, go_sem, p10, p11, q10, q11, pl]) rfl ⟨B, d, rfl, ends_own hS3 (i := 1) rfl HE.out, hS3.base⟩

set_option maxHeartbeats 1600000 in
theorem dcutS_n (n : Int) (A : Option Addr) (m cap : Nat) (w : World) (hn : n < 0 ∨ 5 < n) :
    Calls Try.prog 17 #[.int .i64 n, .slice A m cap] w (RetFB w 0 [] false) := by
  have HW := Lib.hid (St.start w)
  have HN := Lib.hid hn
  clear hn
  go_enter Try.func17, Try.ntmps17
  go_wp2_with (go_at_call_of 32 (Value.int .i64 n); refine (in_no n 0 5 _ HN.out).mono ?_; rintro e w' ⟨rfl, rfl⟩)
  have hS := HW.out.alloc [.int .i64 0, .slice none 0 0] 26
  exact bodyPost_ret (v := .tuple #[.agg #[.int .i64 0, .slice none 0 0], .bool false]) (by simp [results, Try.results17, go_sem]) rfl ⟨none, 0, rfl, Own.nil _ _, hS.base⟩

set_option maxHeartbeats 1600000 in
theorem dcutS_e (n : Int) (m : Nat) (A : Option Addr) (xs : List Int) (cap : Nat) (w : World) (hl : Hid (xs.length = m * 3)) (h : Hid (Ints w w.heap.size A xs)) (n0 : 0 ≤ n) (n5 : n ≤ 5) (hm : m ≤ 1048576) (hno : ¬ edgesOk n m xs) :
    Calls Try.prog 17 #[.int .i64 n, .slice A m cap] w (RetFB w 0 [] false) := by
  have HW := Lib.hid (St.start w)
  have HE := Lib.hid (fun W hW => edgesS_any n m A xs cap W hl (Lib.hid hW) n0 n5 hm)
  rw [decide_eq_false hno] at HE
  clear hno
  go_enter Try.func17, Try.ntmps17
  go_wp2_with (first | (go_at_call_of 32 (Value.int .i64 n); refine (in_yes n 0 5 _ n0 n5).mono ?_; rintro e w' ⟨rfl, rfl⟩) | (go_at_call 33; refine St.use (w0 := w) (by exact HW.out.alloc _ _) ?_; intro hS; refine (HE.out _ ((h.out.below hS.base).mono hS.size)).mono ?_; rintro e w' ⟨rfl, rfl⟩; clear hS))
  have hS := HW.out.alloc [.int .i64 0, .slice none 0 0] 26
  exact bodyPost_ret (v := .tuple #[.agg #[.int .i64 0, .slice none 0 0], .bool false]) (by simp [results, Try.results17, go_sem]) rfl ⟨none, 0, rfl, Own.nil _ _, hS.base⟩

set_option maxRecDepth 100000 in
set_option maxHeartbeats 8000000 in
theorem dcutS_good (N m : Nat) (A : Option Addr) (xs : List Int) (cap : Nat) (w : World) (hl : Hid (xs.length = m * 3)) (h : Hid (Ints w w.heap.size A xs)) (h5 : N ≤ 5) (h20 : m ≤ 20) (hv : ∀ i, i < m → edgeOk (N : Int) xs i) (f : Nat → Int) (hf : ∀ s, sumIf (leaveB xs s) (wtE xs) m = f s) :
    Calls Try.prog 17 #[.int .i64 N, .slice A m cap] w (RetFB w (made (N : Int) (tab (2 ^ N) f)).1 (made (N : Int) (tab (2 ^ N) f)).2.1 (made (N : Int) (tab (2 ^ N) f)).2.2) := by
  have HW := Lib.hid (St.start w)
  obtain ⟨p, hp⟩ : ∃ p, p = 2 ^ N := ⟨_, rfl⟩
  have hp32 : p ≤ 32 := by have h := Nat.pow_le_pow_right (n := 2) (by decide) h5; omega
  have hsh := shl_small h5 hp
  have HP := Lib.hid hp
  rw [← hp]
  obtain ⟨rn, rx, rb, hr⟩ : ∃ rn rx rb, made (N : Int) (tab p f) = (rn, rx, rb) := ⟨_, _, _, rfl⟩
  rw [hr]
  have HR := Lib.hid hr
  have HV := Lib.hid hv
  have HFS := Lib.hid hf
  have HBD := Lib.hid (fun s => sumIf_bd (b := leaveB xs s) (edge_wt hv))
  have n0 : (0 : Int) ≤ (N : Int) := by omega
  have n5 : (N : Int) ≤ 5 := by omega
  have HEE := Lib.hid (fun W hW => edgesS_any (N : Int) m A xs cap W hl (Lib.hid hW) n0 n5 (by omega))
  rw [decide_eq_true (show edgesOk (N : Int) m xs from ⟨h20, hv⟩)] at HEE
  clear hv hf hp hr
  obtain ⟨i0, hi, hz0, hz1, hz2⟩ := info_parts info_int
  go_enter Try.func17, Try.ntmps17
  go_wp2_with (first | (go_at_call_of 32 (Value.int .i64 (N : Int)); refine (in_yes _ 0 5 _ n0 n5).mono ?_; rintro e w' ⟨rfl, rfl⟩) | (go_at_call 33; refine St.use (w0 := w) (by exact HW.out.alloc _ _) ?_; intro hS; refine (HEE.out _ ((h.out.below hS.base).mono hS.size)).mono ?_; rintro e w' ⟨rfl, rfl⟩; clear hS))
  have HS := Lib.hid (HW.out.alloc [.int .i64 0, .slice none 0 0] 26)
  go_loopw [6, 7] (fun v i wr => ∃ (j : Nat) (V : Option Addr) (c : Nat), i = .int .i64 j ∧ j ≤ p ∧ v = .slice V j c ∧ St w wr [il (.slice V j c) j (tab j f), bx w.heap.size 26 [.int .i64 0, .slice none 0 0]]) (fun _ i _ => p - (intOf i).toNat)
  case atStart => exact ⟨0, _, _, rfl, Nat.zero_le _, rfl, by have e := HS.out.empty; rw [World.size_alloc] at e; exact e⟩
  case round =>
    obtain ⟨j, V, cc, rfl, hj, rfl, hS⟩ := hrel
    obtain ⟨b1, f1⟩ := hS.box (i := 1) rfl
    have b10 := b1 0 _ rfl
    have b11 := b1 1 _ rfl
    have f10 := f1 0
    have f11 := f1 1
    have bl1 := (hS.lt (i := 1) rfl).2
    clear b1 f1
    have HS1 := Lib.hid hS
    by_cases hlt2 : j < p
    · have htab := Lib.hid (tab_succ j f)
      have hjn : (j : Int) < (p : Int) := by omega
      have hj32 : j < 32 := by omega
      have hj0 : (0 : Int) ≤ (j : Int) := by omega
      clear hS b10 b11 f10 f11
      go_wp2
      obtain ⟨wo, rfl⟩ : ∃ wo : World, wo = wr := ⟨_, rfl⟩
      go_loopw [8, 9] (fun x i wr => ∃ k : Nat, i = .int .i64 k ∧ k ≤ m ∧ x = .int .i64 (sumIf (leaveB xs j) (wtE xs) k) ∧ St w wr [il (.slice V j cc) j (tab j f), bx w.heap.size 26 [.int .i64 0, .slice none 0 0]]) (fun _ i _ => m - (intOf i).toNat)
      case atStart => exact ⟨0, rfl, Nat.zero_le _, rfl, HS1.out⟩
      case round =>
        obtain ⟨k, rfl, hk, rfl, hS⟩ := hrel
        have HS2 := Lib.hid hS
        by_cases hlt3 : k < m
        · obtain ⟨b, off, rfl, hbl, c0, c1, c2⟩ := (h.out.below hS.base).at3 hl.out hlt3
          obtain ⟨f0, f1, t0, t1, g0, g1⟩ := HV.out k hlt3
          obtain ⟨d0, d1⟩ := HBD.out j k hk
          have hk0 : (0 : Int) ≤ (k : Int) := by omega
          have hkn : (k : Int) < (m : Int) := by omega
          obtain ⟨F, hF⟩ : ∃ F : Nat, xs.getD (k * 3) 0 = (F : Int) := ⟨_, (Int.toNat_of_nonneg f0).symm⟩
          obtain ⟨T, hT⟩ : ∃ T : Nat, xs.getD (k * 3 + 1) 0 = (T : Int) := ⟨_, (Int.toNat_of_nonneg t0).symm⟩
          have hat := leave_at (s := j) hF hT
          have hyes : leaveB xs j k = true → sumIf (leaveB xs j) (wtE xs) (k + 1) = sumIf (leaveB xs j) (wtE xs) k + xs.getD (k * 3 + 2) 0 := fun e => sumIf_yes e
          have hno := fun e => sumIf_no (b := leaveB xs j) (g := wtE xs) (i := k) e
          have hw : IntKind.i64.wrap (sumIf (leaveB xs j) (wtE xs) k + xs.getD (k * 3 + 2) 0) = sumIf (leaveB xs j) (wtE xs) k + xs.getD (k * 3 + 2) 0 := IntWalk.i64_in _ (by omega)
          rw [hat] at hyes hno
          rw [hF] at c0 f0 f1
          rw [hT] at c1 t0 t1
          have e1 := bit_val j F (by omega)
          have e2 := bit_val j T (by omega)
          generalize xs.getD (k * 3 + 2) 0 = z at c2 g0 g1 hyes hw
          clear hS hat hF hT
          by_cases u1 : j.testBit F = true
          · rw [if_pos u1] at e1
            by_cases u2 : j.testBit T = true
            · rw [if_pos u2] at e2
              have hstep := hno (by simp [u1, u2])
              clear hyes hno
              have HST := Lib.hid hstep
              clear hstep
              generalize sumIf (leaveB xs j) (wtE xs) k = y at d0 d1 HST hw ⊢
              go_wp2
              go_roundw
              case rel => exact ⟨k + 1, by go_num, by omega, by rw [HST.out], by first | exact HS2.out | exact HS2.out.drew | exact HS2.out.drewN _⟩
              case measure => simp [intOf]; omega
            · rw [if_neg u2] at e2
              have hstep := hyes (by simp [u1, u2])
              clear hyes hno
              have HST := Lib.hid hstep
              clear hstep
              generalize sumIf (leaveB xs j) (wtE xs) k = y at d0 d1 HST hw ⊢
              go_wp2
              go_roundw
              case rel => exact ⟨k + 1, by go_num, by omega, by rw [HST.out], by first | exact HS2.out | exact HS2.out.drew | exact HS2.out.drewN _⟩
              case measure => simp [intOf]; omega
          · rw [if_neg u1] at e1
            by_cases u2 : j.testBit T = true
            · rw [if_pos u2] at e2
              have hstep := hno (by simp [u1, u2])
              clear hyes hno
              have HST := Lib.hid hstep
              clear hstep
              generalize sumIf (leaveB xs j) (wtE xs) k = y at d0 d1 HST hw ⊢
              go_wp2
              go_roundw
              case rel => exact ⟨k + 1, by go_num, by omega, by rw [HST.out], by first | exact HS2.out | exact HS2.out.drew | exact HS2.out.drewN _⟩
              case measure => simp [intOf]; omega
            · rw [if_neg u2] at e2
              have hstep := hno (by simp [u1, u2])
              clear hyes hno
              have HST := Lib.hid hstep
              clear hstep
              generalize sumIf (leaveB xs j) (wtE xs) k = y at d0 d1 HST hw ⊢
              go_wp2
              go_roundw
              case rel => exact ⟨k + 1, by go_num, by omega, by rw [HST.out], by first | exact HS2.out | exact HS2.out.drew | exact HS2.out.drewN _⟩
              case measure => simp [intOf]; omega
        · obtain rfl : k = m := by omega
          have hkn : ¬ (k : Int) < (k : Int) := by omega
          rw [HFS.out]
          generalize f j = y at htab
          clear hS
          go_wp2_with (at_builtin; refine wpList_app1 rfl (.tmp 62) (.tmp 64) 24 rfl y Try.underlying24 hi hz0 hz1 hz2 ((HS2.out.alloc _ _).drop 0) (i := 0) rfl rfl rfl (by simp) (by omega) ?_; intro V' c' w2 hS2; have HS3 := Lib.hid hS2; clear hS2)
          go_roundw
          case rel => exact ⟨j + 1, V', c', by go_num, by omega, rfl, by rw [htab.out]; exact HS3.out⟩
          case measure => simp [intOf]; omega
    · obtain rfl : j = p := by omega
      have hjn : ¬ (j : Int) < (j : Int) := by omega
      obtain ⟨B, d, hcall, hend⟩ := made_any (N : Int) V (tab j f) j cc wr (tab_length _ _) (hS.ints (i := 0) rfl)
      rw [HR.out] at hcall hend
      have HC := Lib.hid hcall
      have HE := Lib.hid hend
      clear hcall hend hS
      go_wp2_with (go_at_call 34; refine HC.out.mono ?_; rintro e w2 ⟨rfl, hb⟩; have hS2 := HS1.out.below hb; obtain ⟨p1, q1⟩ := hS2.box (i := 1) rfl; have p10 := p1 0 _ rfl; have p11 := p1 1 _ rfl; have q10 := q1 0; have q11 := q1 1; have pl := (hS2.lt (i := 1) rfl).2; clear p1 q1 hb b10 b11 f10 f11; have HS2 := Lib.hid hS2; clear hS2)
      have hS3 := ((HS2.out.store (i := 1) rfl 0 (.int .i64 rn)).store (i := 1) rfl 1 (.slice B rx.length d)).alloc [.int .i64 rn, .slice B rx.length d] 26
      exact bodyPost_ret (v := .tuple #[.agg #[.int .i64 rn, .slice B rx.length d], .bool rb]) (by simp [results, Try.results17, go_sem, p10, p11, q10, q11, pl]) rfl ⟨B, d, rfl, ends_own hS3 (i := 1) rfl HE.out, hS3.base⟩

theorem cutS_any (n : Int) (m : Nat) (A : Option Addr) (xs : List Int) (cap : Nat) (w : World) (hl : Hid (xs.length = m * 3)) (h : Hid (Ints w w.heap.size A xs)) (hm : m ≤ 1048576) :
    Calls Try.prog 9 #[.int .i64 n, .slice A m cap] w (RetFB w (cutFn n m xs).1 (cutFn n m xs).2.1 (cutFn n m xs).2.2) := by
  by_cases hn : 0 ≤ n ∧ n ≤ 5
  · by_cases he : edgesOk n m xs
    · have e : cutFn n m xs = made n (tab (2 ^ n.toNat) (cutV xs m)) := if_pos ⟨hn.1, hn.2, he⟩
      rw [e]
      obtain ⟨N, rfl⟩ := Int.eq_ofNat_of_zero_le hn.1
      rw [Int.toNat_natCast]
      exact cutS_good N m A xs cap w hl h (by omega) he.1 he.2 _ fun s => rfl
    · have e : cutFn n m xs = (0, [], false) := if_neg fun hh => he hh.2.2
      rw [e]
      exact cutS_e n m A xs cap w hl h hn.1 hn.2 hm he
  · have e : cutFn n m xs = (0, [], false) := if_neg fun hh => hn ⟨hh.1, hh.2.1⟩
    rw [e]
    exact cutS_n n A m cap w (by omega)

theorem dcutS_any (n : Int) (m : Nat) (A : Option Addr) (xs : List Int) (cap : Nat) (w : World) (hl : Hid (xs.length = m * 3)) (h : Hid (Ints w w.heap.size A xs)) (hm : m ≤ 1048576) :
    Calls Try.prog 17 #[.int .i64 n, .slice A m cap] w (RetFB w (dcutFn n m xs).1 (dcutFn n m xs).2.1 (dcutFn n m xs).2.2) := by
  by_cases hn : 0 ≤ n ∧ n ≤ 5
  · by_cases he : edgesOk n m xs
    · have e : dcutFn n m xs = made n (tab (2 ^ n.toNat) (dcutV xs m)) := if_pos ⟨hn.1, hn.2, he⟩
      rw [e]
      obtain ⟨N, rfl⟩ := Int.eq_ofNat_of_zero_le hn.1
      rw [Int.toNat_natCast]
      exact dcutS_good N m A xs cap w hl h (by omega) he.1 he.2 _ fun s => rfl
    · have e : dcutFn n m xs = (0, [], false) := if_neg fun hh => he hh.2.2
      rw [e]
      exact dcutS_e n m A xs cap w hl h hn.1 hn.2 hm he
  · have e : dcutFn n m xs = (0, [], false) := if_neg fun hh => hn ⟨hh.1, hh.2.1⟩
    rw [e]
    exact dcutS_n n A m cap w (by omega)

end Go.Proofs.Ytdodpcehmagdbaa.C
