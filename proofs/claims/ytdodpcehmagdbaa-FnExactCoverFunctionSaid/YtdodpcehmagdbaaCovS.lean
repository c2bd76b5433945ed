/-
  The contracts of spec.CoverFunction and of what they call.
-/
import Derived.Test.YtdodpcehmagdbaaCutM
import Derived.Test.YtdodpcehmagdbaaMany
import Derived.Test.YtdodpcehmagdbaaFunS
import Derived.Test.YtdodpcehmagdbaaSub
import Derived.Test.YtdodpcehmagdbaaVal
import Derived.Test.YtdodpcehmagdbaaCutS
import Derived.Test.YtdodpcehmagdbaaCutI
import Derived.Deep.RegionWith
namespace Go.Proofs.Ytdodpcehmagdbaa.C
open Go.RowKit K M
set_option linter.unusedVariables false
set_option linter.unusedSimpArgs false

set_option maxHeartbeats 1600000 in
theorem coverS_n (n : Int) (A : Option Addr) (m cap : Nat) (w : World) (hn : n < 0 ∨ 5 < n) :
    Calls Try.prog 20 #[.int .i64 n, .slice A m cap] w (RetFB w 0 [] false) := by
  have HW := Lib.hid (St.start w)
  have HN := Lib.hid hn
  clear hn
  go_enter Try.func20, Try.ntmps20
  go_wp2_with (go_at_call_of 32 (Value.int .i64 n); refine (in_no n 0 5 _ HN.out).mono ?_; rintro e w' ⟨rfl, rfl⟩)
  have hS := HW.out.alloc [.int .i64 0, .slice none 0 0] 26
  exact bodyPost_ret (v := .tuple #[.agg #[.int .i64 0, .slice none 0 0], .bool false]) (by simp [results, Try.results20, go_sem]) rfl ⟨none, 0, rfl, Own.nil _ _, hS.base⟩

set_option maxHeartbeats 1600000 in
theorem coverS_over (n : Int) (A : Option Addr) (m cap : Nat) (w : World) (n0 : 0 ≤ n) (n5 : n ≤ 5) (hm : 20 < m) :
    Calls Try.prog 20 #[.int .i64 n, .slice A m cap] w (RetFB w 0 [] false) := by
  have HW := Lib.hid (St.start w)
  have hmi : (20 : Int) < (m : Int) := by omega
  go_enter Try.func20, Try.ntmps20
  go_wp2_with (go_at_call_of 32 (Value.int .i64 n); refine (in_yes n 0 5 _ n0 n5).mono ?_; rintro e w' ⟨rfl, rfl⟩)
  have hS := HW.out.alloc [.int .i64 0, .slice none 0 0] 26
  exact bodyPost_ret (v := .tuple #[.agg #[.int .i64 0, .slice none 0 0], .bool false]) (by simp [results, Try.results20, go_sem]) rfl ⟨none, 0, rfl, Own.nil _ _, hS.base⟩

set_option maxRecDepth 100000 in
set_option maxHeartbeats 3200000 in
theorem coverS_no (N m : Nat) (A : Option Addr) (xs : List Int) (cap : Nat) (w : World) (hl : Hid (xs.length = m * 2)) (h : Hid (Ints w w.heap.size A xs)) (h5 : N ≤ 5) (h20 : m ≤ 20)
    (j : Nat) (hj : j < m) (hb : ¬ blockOk (N : Int) xs j) (hv : ∀ k, k < j → blockOk (N : Int) xs k) :
    Calls Try.prog 20 #[.int .i64 N, .slice A m cap] w (RetFB w 0 [] false) := by
  have HW := Lib.hid (St.start w)
  obtain ⟨p, hp⟩ : ∃ p, p = 2 ^ N := ⟨_, rfl⟩
  have hp32 : p ≤ 32 := by have h := Nat.pow_le_pow_right (n := 2) (by decide) h5; omega
  have HP := Lib.hid hp
  have HFULL := Lib.hid (fun (W : World) => full_any (N : Int) p W (by omega) (by omega) (by rw [Int.toNat_natCast]; exact hp))
  have HV := Lib.hid hv
  have HB := Lib.hid hb
  have n0 : (0 : Int) ≤ (N : Int) := by omega
  have n5 : (N : Int) ≤ 5 := by omega
  have hmi : ¬ (20 : Int) < (m : Int) := by omega
  clear hv hb hp
  go_enter Try.func20, Try.ntmps20
  go_wp2_with (go_at_call_of 32 (Value.int .i64 (N : Int)); refine (in_yes _ 0 5 _ n0 n5).mono ?_; rintro e w' ⟨rfl, rfl⟩)
  have HS0 := Lib.hid (HW.out.alloc [.int .i64 0, .slice none 0 0] 26)
  go_loopw [6] (fun i wr => ∃ k : Nat, k ≤ j ∧ i = .int .i64 k ∧ St w wr [bx w.heap.size 26 [.int .i64 0, .slice none 0 0]]) (fun i _ => m - (intOf i).toNat)
  case atStart => exact ⟨0, Nat.zero_le _, rfl, HS0.out⟩
  case round =>
    obtain ⟨k, hk, rfl, hS⟩ := hrel
    have HS := Lib.hid hS
    obtain ⟨z1, zf⟩ := hS.box (i := 0) rfl
    have z10 := z1 0 _ rfl
    have z11 := z1 1 _ rfl
    have zf0 := zf 0
    have zf1 := zf 1
    have zl := (hS.lt (i := 0) rfl).2
    clear z1 zf
    obtain ⟨b, off, rfl, hbl, c0, c1⟩ := (h.out.below hS.base).at2 hl.out (k := k) (by omega)
    have hk0 : (0 : Int) ≤ (k : Int) := by omega
    have hkn : (k : Int) < (m : Int) := by omega
    clear hS
    by_cases hlt : k < j
    · clear z10 z11 zf0 zf1
      obtain ⟨f0, g0, g1⟩ := HV.out k hlt
      obtain ⟨f1, f2⟩ := isSet_yes f0
      rw [Int.toNat_natCast, ← HP.out] at f2
      generalize xs.getD (k * 2) 0 = x at c0 f0 f1 f2
      generalize xs.getD (k * 2 + 1) 0 = y at c1 g0 g1
      clear f0
      go_wp2
      go_quiet (first | (go_at_call 44; first | exact quiet_left (HFULL.out _) | exact quiet_add_left (HFULL.out _)) | (go_at_call_of 32 (Value.int .i64 x); first | exact quiet_left (in_yes x 0 ((p : Int) - 1) _ f1 (by omega)) | exact quiet_add_left (in_yes x 0 ((p : Int) - 1) _ f1 (by omega))) | (go_at_call_of 32 (Value.int .i64 y); first | exact quiet_left (in_yes y 0 20 _ g0 g1) | exact quiet_add_left (in_yes y 0 20 _ g0 g1)))
      go_wp2
      go_roundw
      case rel => exact ⟨k + 1, by omega, by go_num, by first | exact HS.out | exact HS.out.drew | exact HS.out.drewN _⟩
      case measure => simp [intOf]; omega
    · obtain rfl : k = j := by omega
      have hb := HB.out
      unfold blockOk at hb
      clear HB HV
      generalize xs.getD (k * 2) 0 = x at c0 hb
      generalize xs.getD (k * 2 + 1) 0 = y at c1 hb
      cases hs : isSet (N : Int) x
      · have hg : x < 0 ∨ (p : Int) - 1 < x := by
          have := isSet_no hs
          rw [Int.toNat_natCast, ← HP.out] at this
          omega
        have HG := Lib.hid hg
        clear hg hb hs
        go_wp2
        go_quiet (first | (go_at_call 44; first | exact quiet_left (HFULL.out _) | exact quiet_add_left (HFULL.out _)) | (go_at_call_of 32 (Value.int .i64 x); first | exact quiet_left (in_no x 0 ((p : Int) - 1) _ HG.out) | exact quiet_add_left (in_no x 0 ((p : Int) - 1) _ HG.out)))
        go_wp2
        exact bodyPost_ret (v := .tuple #[.agg #[.int .i64 0, .slice none 0 0], .bool false]) (by simp [results, Try.results20, go_sem, z10, z11, zf0, zf1, zl]) rfl ⟨none, 0, rfl, Own.nil _ _, by first | exact HS.out.base | exact HS.out.drew.base | exact (HS.out.drewN _).base | exact ((HS.out.store (i := 0) rfl 0 _).store (i := 0) rfl 1 _).base | exact (((HS.out.drewN _).store (i := 0) rfl 0 _).store (i := 0) rfl 1 _).base⟩
      · have hg : y < 0 ∨ 20 < y := by
          rw [hs] at hb
          simp only [true_and] at hb
          omega
        obtain ⟨f1, f2⟩ := isSet_yes hs
        rw [Int.toNat_natCast, ← HP.out] at f2
        have HG := Lib.hid hg
        clear hg hb hs
        go_wp2
        go_quiet (first | (go_at_call 44; first | exact quiet_left (HFULL.out _) | exact quiet_add_left (HFULL.out _)) | (go_at_call_of 32 (Value.int .i64 x); first | exact quiet_left (in_yes x 0 ((p : Int) - 1) _ f1 (by omega)) | exact quiet_add_left (in_yes x 0 ((p : Int) - 1) _ f1 (by omega))) | (go_at_call_of 32 (Value.int .i64 y); first | exact quiet_left (in_no y 0 20 _ HG.out) | exact quiet_add_left (in_no y 0 20 _ HG.out)))
        go_wp2
        exact bodyPost_ret (v := .tuple #[.agg #[.int .i64 0, .slice none 0 0], .bool false]) (by simp [results, Try.results20, go_sem, z10, z11, zf0, zf1, zl]) rfl ⟨none, 0, rfl, Own.nil _ _, by first | exact HS.out.base | exact HS.out.drew.base | exact (HS.out.drewN _).base | exact ((HS.out.store (i := 0) rfl 0 _).store (i := 0) rfl 1 _).base | exact (((HS.out.drewN _).store (i := 0) rfl 0 _).store (i := 0) rfl 1 _).base⟩

set_option maxRecDepth 100000 in
set_option maxHeartbeats 8000000 in
theorem coverS_good (N m : Nat) (A : Option Addr) (xs : List Int) (cap : Nat) (w : World) (hl : Hid (xs.length = m * 2)) (h : Hid (Ints w w.heap.size A xs)) (h5 : N ≤ 5) (h20 : m ≤ 20) (hv : ∀ i, i < m → blockOk (N : Int) xs i) (f : Nat → Int) (hf : ∀ s, sumIf (meetB xs s) (wtB xs) m = f s) :
    Calls Try.prog 20 #[.int .i64 N, .slice A m cap] w (RetFB w (made (N : Int) (tab (2 ^ N) f)).1 (made (N : Int) (tab (2 ^ N) f)).2.1 (made (N : Int) (tab (2 ^ N) f)).2.2) := by
  have HW := Lib.hid (St.start w)
  obtain ⟨p, hp⟩ : ∃ p, p = 2 ^ N := ⟨_, rfl⟩
  have hp32 : p ≤ 32 := by have h := Nat.pow_le_pow_right (n := 2) (by decide) h5; omega
  have hsh := shl_small h5 hp
  have HP := Lib.hid hp
  rw [← hp]
  obtain ⟨rn, rx, rb, hr⟩ : ∃ rn rx rb, made (N : Int) (tab p f) = (rn, rx, rb) := ⟨_, _, _, rfl⟩
  rw [hr]
  have HR := Lib.hid hr
  have HV := Lib.hid hv
  have HFS := Lib.hid hf
  have HBD := Lib.hid (fun s => sumIf_bd (b := meetB xs s) (block_wt hv))
  have n0 : (0 : Int) ≤ (N : Int) := by omega
  have n5 : (N : Int) ≤ 5 := by omega
  have hmi : ¬ (20 : Int) < (m : Int) := by omega
  have HFULL := Lib.hid (fun (W : World) => full_any (N : Int) p W (by omega) (by omega) (by rw [Int.toNat_natCast]; exact hp))
  clear hv hf hp hr
  obtain ⟨i0, hi, hz0, hz1, hz2⟩ := info_parts info_int
  go_enter Try.func20, Try.ntmps20
  go_wp2_with (go_at_call_of 32 (Value.int .i64 (N : Int)); refine (in_yes _ 0 5 _ n0 n5).mono ?_; rintro e w' ⟨rfl, rfl⟩)
  have HS0 := Lib.hid (HW.out.alloc [.int .i64 0, .slice none 0 0] 26)
  go_loopw [6] (fun i wr => ∃ k : Nat, k ≤ m ∧ i = .int .i64 k ∧ St w wr [bx w.heap.size 26 [.int .i64 0, .slice none 0 0]]) (fun i _ => m - (intOf i).toNat)
  case atStart => exact ⟨0, Nat.zero_le _, rfl, HS0.out⟩
  case round =>
    obtain ⟨k, hk, rfl, hS⟩ := hrel
    have HS := Lib.hid hS
    by_cases hlt : k < m
    · skip
      obtain ⟨b, off, rfl, hbl, c0, c1⟩ := (h.out.below hS.base).at2 hl.out (k := k) (by omega)
      have hk0 : (0 : Int) ≤ (k : Int) := by omega
      have hkn : (k : Int) < (m : Int) := by omega
      clear hS
      obtain ⟨f0, g0, g1⟩ := HV.out k hlt
      obtain ⟨f1, f2⟩ := isSet_yes f0
      rw [Int.toNat_natCast, ← HP.out] at f2
      generalize xs.getD (k * 2) 0 = x at c0 f0 f1 f2
      generalize xs.getD (k * 2 + 1) 0 = y at c1 g0 g1
      clear f0
      go_wp2
      go_quiet (first | (go_at_call 44; first | exact quiet_left (HFULL.out _) | exact quiet_add_left (HFULL.out _)) | (go_at_call_of 32 (Value.int .i64 x); first | exact quiet_left (in_yes x 0 ((p : Int) - 1) _ f1 (by omega)) | exact quiet_add_left (in_yes x 0 ((p : Int) - 1) _ f1 (by omega))) | (go_at_call_of 32 (Value.int .i64 y); first | exact quiet_left (in_yes y 0 20 _ g0 g1) | exact quiet_add_left (in_yes y 0 20 _ g0 g1)))
      go_wp2
      go_roundw
      case rel => exact ⟨k + 1, by omega, by go_num, by first | exact HS.out | exact HS.out.drew | exact HS.out.drewN _⟩
      case measure => simp [intOf]; omega
    · obtain rfl : m = k := by omega
      have hkn : ¬ (m : Int) < (m : Int) := by omega
      clear hS
      go_wp2
      go_loopw [7, 8] (fun v i wr => ∃ (j : Nat) (V : Option Addr) (c : Nat), i = .int .i64 j ∧ j ≤ p ∧ v = .slice V j c ∧ St w wr [il (.slice V j c) j (tab j f), bx w.heap.size 26 [.int .i64 0, .slice none 0 0]]) (fun _ i _ => p - (intOf i).toNat)
      case atStart => exact ⟨0, _, _, rfl, Nat.zero_le _, rfl, by have e := HS.out.empty; (try rw [World.size_alloc] at e); exact e⟩
      case round =>
        obtain ⟨j, V, cc, rfl, hj, rfl, hS⟩ := hrel
        obtain ⟨b1, f1⟩ := hS.box (i := 1) rfl
        have b10 := b1 0 _ rfl
        have b11 := b1 1 _ rfl
        have f10 := f1 0
        have f11 := f1 1
        have bl1 := (hS.lt (i := 1) rfl).2
        clear b1 f1
        have HS1 := Lib.hid hS
        by_cases hlt2 : j < p
        · have htab := Lib.hid (tab_succ j f)
          have hjn : (j : Int) < (p : Int) := by omega
          have hj32 : j < 32 := by omega
          have hj0 : (0 : Int) ≤ (j : Int) := by omega
          clear hS b10 b11 f10 f11
          go_wp2
          obtain ⟨wo, rfl⟩ : ∃ wo : World, wo = wr := ⟨_, rfl⟩
          go_loopw [9, 10] (fun x i wr => ∃ k : Nat, i = .int .i64 k ∧ k ≤ m ∧ x = .int .i64 (sumIf (meetB xs j) (wtB xs) k) ∧ St w wr [il (.slice V j cc) j (tab j f), bx w.heap.size 26 [.int .i64 0, .slice none 0 0]]) (fun _ i _ => m - (intOf i).toNat)
          case atStart => exact ⟨0, rfl, Nat.zero_le _, rfl, HS1.out⟩
          case round =>
            obtain ⟨k, rfl, hk, rfl, hS⟩ := hrel
            have HS2 := Lib.hid hS
            by_cases hlt3 : k < m
            · obtain ⟨b, off, rfl, hbl, c0, c1⟩ := (h.out.below hS.base).at2 hl.out hlt3
              obtain ⟨f0, g0, g1⟩ := HV.out k hlt3
              obtain ⟨f1, f2⟩ := isSet_yes f0
              rw [Int.toNat_natCast, ← HP.out] at f2
              obtain ⟨d0, d1⟩ := HBD.out j k hk
              have hk0 : (0 : Int) ≤ (k : Int) := by omega
              have hkn : (k : Int) < (m : Int) := by omega
              obtain ⟨F, hF⟩ : ∃ F : Nat, xs.getD (k * 2) 0 = (F : Int) := ⟨_, (Int.toNat_of_nonneg f1).symm⟩
              have hat := meet_at (s := j) hF
              have hyes : meetB xs j k = true → sumIf (meetB xs j) (wtB xs) (k + 1) = sumIf (meetB xs j) (wtB xs) k + xs.getD (k * 2 + 1) 0 := fun e => sumIf_yes e
              have hno := fun e => sumIf_no (b := meetB xs j) (g := wtB xs) (i := k) e
              have hw : IntKind.i64.wrap (sumIf (meetB xs j) (wtB xs) k + xs.getD (k * 2 + 1) 0) = sumIf (meetB xs j) (wtB xs) k + xs.getD (k * 2 + 1) 0 := IntWalk.i64_in _ (by omega)
              rw [hat] at hyes hno
              rw [hF] at c0 f1 f2
              have hand := and_val j F (by omega) (by omega)
              generalize xs.getD (k * 2 + 1) 0 = z at c1 g0 g1 hyes hw
              generalize j &&& F = q at hand hyes hno
              clear hS hat hF f0 f1 f2
              by_cases hq : q = 0
              · subst hq
                have hstep := hno (by simp)
                clear hyes hno
                have HST := Lib.hid hstep
                clear hstep
                generalize sumIf (meetB xs j) (wtB xs) k = y at d0 d1 HST hw ⊢
                go_wp2
                go_roundw
                case rel => exact ⟨k + 1, by go_num, by omega, by rw [HST.out], by first | exact HS2.out | exact HS2.out.drew | exact HS2.out.drewN _⟩
                case measure => simp [intOf]; omega
              · have hq0 : ((q : Int) == 0) = false := beq_eq_false_iff_ne.2 (by omega)
                have hstep := hyes (by simp [hq])
                clear hyes hno
                have HST := Lib.hid hstep
                clear hstep
                generalize sumIf (meetB xs j) (wtB xs) k = y at d0 d1 HST hw ⊢
                go_wp2
                go_roundw
                case rel => exact ⟨k + 1, by go_num, by omega, by rw [HST.out], by first | exact HS2.out | exact HS2.out.drew | exact HS2.out.drewN _⟩
                case measure => simp [intOf]; omega
            · obtain rfl : k = m := by omega
              have hkn : ¬ (k : Int) < (k : Int) := by omega
              rw [HFS.out]
              generalize f j = y at htab
              clear hS
              go_wp2_with (at_builtin; refine wpList_app1 rfl (.tmp 75) (.tmp 77) 24 rfl y Try.underlying24 hi hz0 hz1 hz2 ((HS2.out.alloc _ _).drop 0) (i := 0) rfl rfl rfl (by simp) (by omega) ?_; intro V' c' w2 hS2; have HS3 := Lib.hid hS2; clear hS2)
              go_roundw
              case rel => exact ⟨j + 1, V', c', by go_num, by omega, rfl, by rw [htab.out]; exact HS3.out⟩
              case measure => simp [intOf]; omega
        · obtain rfl : j = p := by omega
          have hjn : ¬ (j : Int) < (j : Int) := by omega
          obtain ⟨B, d, hcall, hend⟩ := made_any (N : Int) V (tab j f) j cc wr (tab_length _ _) (hS.ints (i := 0) rfl)
          rw [HR.out] at hcall hend
          have HC := Lib.hid hcall
          have HE := Lib.hid hend
          clear hcall hend hS
          go_wp2_with (go_at_call 34; refine HC.out.mono ?_; rintro e w2 ⟨rfl, hb⟩; have hS2 := HS1.out.below hb; obtain ⟨p1, q1⟩ := hS2.box (i := 1) rfl; have p10 := p1 0 _ rfl; have p11 := p1 1 _ rfl; have q10 := q1 0; have q11 := q1 1; have pl := (hS2.lt (i := 1) rfl).2; clear p1 q1 hb b10 b11 f10 f11; have HS2 := Lib.hid hS2; clear hS2)
          have hS3 := ((HS2.out.store (i := 1) rfl 0 (.int .i64 rn)).store (i := 1) rfl 1 (.slice B rx.length d)).alloc [.int .i64 rn, .slice B rx.length d] 26
          exact bodyPost_ret (v := .tuple #[.agg #[.int .i64 rn, .slice B rx.length d], .bool rb]) (by simp [results, Try.results20, go_sem, p10, p11, q10, q11, pl]) rfl ⟨B, d, rfl, ends_own hS3 (i := 1) rfl HE.out, hS3.base⟩

theorem coverS_any (n : Int) (m : Nat) (A : Option Addr) (xs : List Int) (cap : Nat) (w : World) (hl : Hid (xs.length = m * 2)) (h : Hid (Ints w w.heap.size A xs)) :
    Calls Try.prog 20 #[.int .i64 n, .slice A m cap] w (RetFB w (coverFn n m xs).1 (coverFn n m xs).2.1 (coverFn n m xs).2.2) := by
  by_cases hn : 0 ≤ n ∧ n ≤ 5
  · by_cases hm : m ≤ 20
    · obtain ⟨N, rfl⟩ := Int.eq_ofNat_of_zero_le hn.1
      by_cases hv : ∀ i, i < m → blockOk (N : Int) xs i
      · have e : coverFn (N : Int) m xs = made (N : Int) (tab (2 ^ (N : Int).toNat) (coverV xs m)) := if_pos ⟨hn.1, hn.2, hm, hv⟩
        rw [e, Int.toNat_natCast]
        exact coverS_good N m A xs cap w hl h (by omega) hm hv _ fun s => rfl
      · have e : coverFn (N : Int) m xs = (0, [], false) := if_neg fun hh => hv hh.2.2.2
        rw [e]
        obtain ⟨j, hj, hb, hk⟩ := first_bad hv
        exact coverS_no N m A xs cap w hl h (by omega) hm j hj hb hk
    · have e : coverFn n m xs = (0, [], false) := if_neg fun hh => hm hh.2.2.1
      rw [e]
      exact coverS_over n A m cap w hn.1 hn.2 (by omega)
  · have e : coverFn n m xs = (0, [], false) := if_neg fun hh => hn ⟨hh.1, hh.2.1⟩
    rw [e]
    exact coverS_n n A m cap w (by omega)

end Go.Proofs.Ytdodpcehmagdbaa.C
