/-
  The contract of spec.PartitionRank.
-/
import Derived.Test.YtdodpcehmagdbaaDoorRankM
import Derived.Test.YtdodpcehmagdbaaDoorFunS
import Derived.Test.YtdodpcehmagdbaaDoorSub
import Derived.Deep.RegionWith
namespace Go.Proofs.YtdodpcehmagdbaaDoor.C
open Go.RowKit K M
set_option linter.unusedVariables false
set_option linter.unusedSimpArgs false

set_option maxHeartbeats 1600000 in
theorem rankS_g5 (Ag Am : Option Addr) (n m cg cm : Nat) (w : World) (hn : 5 < n) :
    Calls Tryd.prog 4 #[.slice Ag n cg, .slice Am m cm] w (RetFB w 0 [] false) := by
  have HW := Lib.hid (St.start w)
  have hni : (5 : Int) < (n : Int) := by omega
  go_enter Tryd.func4, Tryd.ntmps4
  go_wp2
  have hS := HW.out.alloc [.int .i64 0, .slice none 0 0] 24
  exact bodyPost_ret (v := .tuple #[.agg #[.int .i64 0, .slice none 0 0], .bool false]) (by simp [results, Tryd.results4, go_sem]) rfl ⟨none, 0, rfl, Own.nil _ _, hS.base⟩

set_option maxHeartbeats 1600000 in
theorem rankS_m5 (Ag Am : Option Addr) (n m cg cm : Nat) (w : World) (hn : n ≤ 5) (hm : 5 < m) :
    Calls Tryd.prog 4 #[.slice Ag n cg, .slice Am m cm] w (RetFB w 0 [] false) := by
  have HW := Lib.hid (St.start w)
  have hni : ¬ (5 : Int) < (n : Int) := by omega
  have hmi : (5 : Int) < (m : Int) := by omega
  go_enter Tryd.func4, Tryd.ntmps4
  go_wp2
  have hS := HW.out.alloc [.int .i64 0, .slice none 0 0] 24
  exact bodyPost_ret (v := .tuple #[.agg #[.int .i64 0, .slice none 0 0], .bool false]) (by simp [results, Tryd.results4, go_sem]) rfl ⟨none, 0, rfl, Own.nil _ _, hS.base⟩

set_option maxRecDepth 100000 in
set_option maxHeartbeats 1600000 in
theorem rankS_g (Ag Am : Option Addr) (g : List Int) (n m cg cm : Nat) (w : World) (hg : Hid (Ints w w.heap.size Ag g)) (hgl : Hid (g.length = n)) (hn : n ≤ 5) (hm : m ≤ 5)
    (j : Nat) (hj : j < n) (hb : g.getD j 0 < 0 ∨ (m : Int) ≤ g.getD j 0) (hv : ∀ k, k < j → 0 ≤ g.getD k 0 ∧ g.getD k 0 < (m : Int)) :
    Calls Tryd.prog 4 #[.slice Ag n cg, .slice Am m cm] w (RetFB w 0 [] false) := by
  have HW := Lib.hid (St.start w)
  have HV := Lib.hid hv
  have HB := Lib.hid hb
  have hni : ¬ (5 : Int) < (n : Int) := by omega
  have hmi : ¬ (5 : Int) < (m : Int) := by omega
  have hw1 : IntKind.i64.wrap ((m : Int) - 1) = (m : Int) - 1 := IntWalk.i64_in _ (by omega)
  clear hv hb
  go_enter Tryd.func4, Tryd.ntmps4
  go_wp2
  have HS := Lib.hid (HW.out.alloc [.int .i64 0, .slice none 0 0] 24)
  go_loop [6] (fun i => ∃ k : Nat, k ≤ j ∧ i = .int .i64 k) (fun i => n - (intOf i).toNat)
  case atStart => exact ⟨0, Nat.zero_le _, rfl⟩
  case round =>
    obtain ⟨k, hk, rfl⟩ := hrel
    obtain ⟨b, off, rfl, hbl, hc⟩ := hg.out.at_ (k := k) (by rw [hgl.out]; omega)
    have d := (HS.out.base.cell (p := ⟨b, off + k, none⟩) hbl).trans hc
    have hk0 : (0 : Int) ≤ (k : Int) := by omega
    have hkn : (k : Int) < (n : Int) := by omega
    clear hc
    by_cases hlt : k < j
    · obtain ⟨v1, v2⟩ := HV.out k hlt
      generalize g.getD k 0 = x at d v1 v2
      go_wp2_with (go_at_call 12; refine (in_yes x 0 ((m : Int) - 1) _ v1 (by omega)).mono ?_; rintro e w' ⟨rfl, rfl⟩)
      go_round
      case rel => exact ⟨k + 1, by omega, by go_num⟩
      case measure => simp [intOf]; omega
    · obtain rfl : k = j := by omega
      have hb := HB.out
      clear HB HV
      generalize g.getD k 0 = x at d hb
      have HB := Lib.hid (show x < 0 ∨ (m : Int) - 1 < x by omega)
      clear hb
      go_wp2_with (go_at_call 12; refine (in_no x 0 ((m : Int) - 1) _ HB.out).mono ?_; rintro e w' ⟨rfl, rfl⟩)
      exact bodyPost_ret (v := .tuple #[.agg #[.int .i64 0, .slice none 0 0], .bool false]) (by simp [results, Tryd.results4, go_sem]) rfl ⟨none, 0, rfl, Own.nil _ _, HS.out.base⟩

set_option maxRecDepth 100000 in
set_option maxHeartbeats 3200000 in
theorem rankS_m (Ag Am : Option Addr) (g ms : List Int) (n m cg cm : Nat) (w : World) (hg : Hid (Ints w w.heap.size Ag g)) (hm : Hid (Ints w w.heap.size Am ms)) (hgl : Hid (g.length = n)) (hml : Hid (ms.length = m)) (hn : n ≤ 5) (hm5 : m ≤ 5)
    (hv : ∀ k, k < n → 0 ≤ g.getD k 0 ∧ g.getD k 0 < (m : Int)) (j : Nat) (hj : j < m) (hb : ms.getD j 0 < 0 ∨ 5 < ms.getD j 0) (hu : ∀ k, k < j → 0 ≤ ms.getD k 0 ∧ ms.getD k 0 ≤ 5) :
    Calls Tryd.prog 4 #[.slice Ag n cg, .slice Am m cm] w (RetFB w 0 [] false) := by
  have HW := Lib.hid (St.start w)
  have HV := Lib.hid hv
  have HU := Lib.hid hu
  have HB := Lib.hid hb
  have hni : ¬ (5 : Int) < (n : Int) := by omega
  have hmi : ¬ (5 : Int) < (m : Int) := by omega
  have hw1 : IntKind.i64.wrap ((m : Int) - 1) = (m : Int) - 1 := IntWalk.i64_in _ (by omega)
  clear hv hb hu
  go_enter Tryd.func4, Tryd.ntmps4
  go_wp2
  have HS := Lib.hid (HW.out.alloc [.int .i64 0, .slice none 0 0] 24)
  go_loop [6] (fun i => ∃ k : Nat, k ≤ n ∧ i = .int .i64 k) (fun i => n - (intOf i).toNat)
  case atStart => exact ⟨0, Nat.zero_le _, rfl⟩
  case round =>
    obtain ⟨k, hk, rfl⟩ := hrel
    by_cases hlt : k < n
    · obtain ⟨b, off, rfl, hbl, hc⟩ := hg.out.at_ (k := k) (by rw [hgl.out]; omega)
      have d := (HS.out.base.cell (p := ⟨b, off + k, none⟩) hbl).trans hc
      have hk0 : (0 : Int) ≤ (k : Int) := by omega
      have hkn : (k : Int) < (n : Int) := by omega
      clear hc
      obtain ⟨v1, v2⟩ := HV.out k hlt
      generalize g.getD k 0 = x at d v1 v2
      go_wp2_with (go_at_call 12; refine (in_yes x 0 ((m : Int) - 1) _ v1 (by omega)).mono ?_; rintro e w' ⟨rfl, rfl⟩)
      go_round
      case rel => exact ⟨k + 1, by omega, by go_num⟩
      case measure => simp [intOf]; omega
    · obtain rfl : n = k := by omega
      have hnn : ¬ (n : Int) < (n : Int) := by omega
      go_wp2
      go_loop [7] (fun i => ∃ k : Nat, k ≤ j ∧ i = .int .i64 k) (fun i => m - (intOf i).toNat)
      case atStart => exact ⟨0, Nat.zero_le _, rfl⟩
      case round =>
        obtain ⟨k, hk, rfl⟩ := hrel
        obtain ⟨b, off, rfl, hbl, hc⟩ := hm.out.at_ (k := k) (by rw [hml.out]; omega)
        have d := (HS.out.base.cell (p := ⟨b, off + k, none⟩) hbl).trans hc
        have hk0 : (0 : Int) ≤ (k : Int) := by omega
        have hkn : (k : Int) < (m : Int) := by omega
        clear hc
        by_cases hlt : k < j
        · obtain ⟨v1, v2⟩ := HU.out k hlt
          generalize ms.getD k 0 = x at d v1 v2
          go_wp2_with (go_at_call 12; refine (in_yes x 0 5 _ v1 v2).mono ?_; rintro e w' ⟨rfl, rfl⟩)
          go_round
          case rel => exact ⟨k + 1, by omega, by go_num⟩
          case measure => simp [intOf]; omega
        · obtain rfl : k = j := by omega
          have hb := HB.out
          clear HB HV HU
          generalize ms.getD k 0 = x at d hb
          have HB := Lib.hid hb
          clear hb
          go_wp2_with (go_at_call 12; refine (in_no x 0 5 _ HB.out).mono ?_; rintro e w' ⟨rfl, rfl⟩)
          exact bodyPost_ret (v := .tuple #[.agg #[.int .i64 0, .slice none 0 0], .bool false]) (by simp [results, Tryd.results4, go_sem]) rfl ⟨none, 0, rfl, Own.nil _ _, HS.out.base⟩

set_option maxRecDepth 100000 in
set_option maxHeartbeats 8000000 in
theorem rankS_good (Ag Am : Option Addr) (g ms : List Int) (n m cg cm : Nat) (w : World) (hg : Hid (Ints w w.heap.size Ag g)) (hm : Hid (Ints w w.heap.size Am ms)) (hgl : Hid (g.length = n)) (hml : Hid (ms.length = m)) (hp : partOk g ms) (f : Nat → Int) (hf : ∀ s, rankV g ms s = f s) :
    Calls Tryd.prog 4 #[.slice Ag n cg, .slice Am m cm] w (RetFB w (made (n : Int) (tab (2 ^ n) f)).1 (made (n : Int) (tab (2 ^ n) f)).2.1 (made (n : Int) (tab (2 ^ n) f)).2.2) := by
  have HW := Lib.hid (St.start w)
  have hn : n ≤ 5 := by rw [← hgl.out]; exact hp.1
  have hm5 : m ≤ 5 := by rw [← hml.out]; exact hp.2.1
  have hv : ∀ k, k < n → 0 ≤ g.getD k 0 ∧ g.getD k 0 < (m : Int) := by rw [← hgl.out, ← hml.out]; exact hp.2.2.1
  have hu : ∀ k, k < m → 0 ≤ ms.getD k 0 ∧ ms.getD k 0 ≤ 5 := by rw [← hml.out]; exact hp.2.2.2
  have HV := Lib.hid hv
  have HU := Lib.hid hu
  have HBD := Lib.hid (fun s => fsum_bd (grpV_bd hp s))
  have HGB := Lib.hid (fun s => grpV_bd hp s)
  have HF := Lib.hid hf
  have hni : ¬ (5 : Int) < (n : Int) := by omega
  have hmi : ¬ (5 : Int) < (m : Int) := by omega
  have hw1 : IntKind.i64.wrap ((m : Int) - 1) = (m : Int) - 1 := IntWalk.i64_in _ (by omega)
  obtain ⟨p, hpp⟩ : ∃ p, p = 2 ^ n := ⟨_, rfl⟩
  have hp32 : p ≤ 32 := by have h := Nat.pow_le_pow_right (n := 2) (by decide) hn; omega
  have hsh : wrap64 (2 ^ n) = (p : Int) := by
    have hsh := shl_one (n := (n : Int)) (m := p) (by omega) (by omega) (by rw [Int.toNat_natCast]; exact hpp)
    rwa [Int.toNat_natCast] at hsh
  rw [← hpp]
  obtain ⟨rn, rx, rb, hr⟩ : ∃ rn rx rb, made (n : Int) (tab p f) = (rn, rx, rb) := ⟨_, _, _, rfl⟩
  rw [hr]
  have HR := Lib.hid hr
  clear hv hu hp hf hr hpp
  obtain ⟨i0, hi, hz0, hz1, hz2⟩ := info_parts info_int
  go_enter Tryd.func4, Tryd.ntmps4
  go_wp2
  have HS := Lib.hid (HW.out.alloc [.int .i64 0, .slice none 0 0] 24)
  go_loop [6] (fun i => ∃ k : Nat, k ≤ n ∧ i = .int .i64 k) (fun i => n - (intOf i).toNat)
  case atStart => exact ⟨0, Nat.zero_le _, rfl⟩
  case round =>
    obtain ⟨k, hk, rfl⟩ := hrel
    by_cases hlt : k < n
    · obtain ⟨b, off, rfl, hbl, hc⟩ := hg.out.at_ (k := k) (by rw [hgl.out]; omega)
      have d := (HS.out.base.cell (p := ⟨b, off + k, none⟩) hbl).trans hc
      have hk0 : (0 : Int) ≤ (k : Int) := by omega
      have hkn : (k : Int) < (n : Int) := by omega
      clear hc
      obtain ⟨v1, v2⟩ := HV.out k hlt
      generalize g.getD k 0 = x at d v1 v2
      go_wp2_with (go_at_call 12; refine (in_yes x 0 ((m : Int) - 1) _ v1 (by omega)).mono ?_; rintro e w' ⟨rfl, rfl⟩)
      go_round
      case rel => exact ⟨k + 1, by omega, by go_num⟩
      case measure => simp [intOf]; omega
    · obtain rfl : n = k := by omega
      have hnn : ¬ (n : Int) < (n : Int) := by omega
      go_wp2
      go_loop [7] (fun i => ∃ k : Nat, k ≤ m ∧ i = .int .i64 k) (fun i => m - (intOf i).toNat)
      case atStart => exact ⟨0, Nat.zero_le _, rfl⟩
      case round =>
        obtain ⟨k, hk, rfl⟩ := hrel
        by_cases hlt2 : k < m
        · obtain ⟨b, off, rfl, hbl, hc⟩ := hm.out.at_ (k := k) (by rw [hml.out]; omega)
          have d := (HS.out.base.cell (p := ⟨b, off + k, none⟩) hbl).trans hc
          have hk0 : (0 : Int) ≤ (k : Int) := by omega
          have hkn : (k : Int) < (m : Int) := by omega
          clear hc
          obtain ⟨v1, v2⟩ := HU.out k hlt2
          generalize ms.getD k 0 = x at d v1 v2
          go_wp2_with (go_at_call 12; refine (in_yes x 0 5 _ v1 v2).mono ?_; rintro e w' ⟨rfl, rfl⟩)
          go_round
          case rel => exact ⟨k + 1, by omega, by go_num⟩
          case measure => simp [intOf]; omega
        · obtain rfl : m = k := by omega
          have hmm : ¬ (m : Int) < (m : Int) := by omega
          go_wp2
          go_loopw [8, 9] (fun v i wr => ∃ (j : Nat) (V : Option Addr) (c : Nat), i = .int .i64 j ∧ j ≤ p ∧ v = .slice V j c ∧ St w wr [il (.slice V j c) j (tab j f), bx w.heap.size 24 [.int .i64 0, .slice none 0 0]]) (fun _ i _ => p - (intOf i).toNat)
          case atStart => exact ⟨0, _, _, rfl, Nat.zero_le _, rfl, by have e := HS.out.empty; (try rw [World.size_alloc] at e); exact e⟩
          case round =>
            obtain ⟨j, V, cc, rfl, hj, rfl, hS⟩ := hrel
            obtain ⟨b1, f1⟩ := hS.box (i := 1) rfl
            have b10 := b1 0 _ rfl
            have b11 := b1 1 _ rfl
            have f10 := f1 0
            have f11 := f1 1
            have bl1 := (hS.lt (i := 1) rfl).2
            clear b1 f1
            have HS1 := Lib.hid hS
            by_cases hlt3 : j < p
            · have htab := Lib.hid (tab_succ j f)
              have hjn : (j : Int) < (p : Int) := by omega
              have hj32 : j < 32 := by omega
              have hj0 : (0 : Int) ≤ (j : Int) := by omega
              clear hS b10 b11 f10 f11
              go_wp2
              obtain ⟨wo, rfl⟩ : ∃ wo : World, wo = wr := ⟨_, rfl⟩
              go_loopw [10, 11] (fun x i wr => ∃ k : Nat, i = .int .i64 k ∧ k ≤ m ∧ x = .int .i64 (fsum (grpV g ms j) k) ∧ St w wr [il (.slice V j cc) j (tab j f), bx w.heap.size 24 [.int .i64 0, .slice none 0 0]]) (fun _ i _ => m - (intOf i).toNat)
              case atStart => exact ⟨0, rfl, Nat.zero_le _, rfl, HS1.out⟩
              case round =>
                obtain ⟨k, rfl, hk, rfl, hS⟩ := hrel
                have HS2 := Lib.hid hS
                clear hS
                by_cases hlt4 : k < m
                · have hkm : (k : Int) < (m : Int) := by omega
                  have hk0 : (0 : Int) ≤ (k : Int) := by omega
                  go_wp2
                  obtain ⟨wo2, rfl⟩ : ∃ wo : World, wo = wr := ⟨_, rfl⟩
                  go_loopw [12, 13] (fun x i wr => ∃ e : Nat, i = .int .i64 e ∧ e ≤ n ∧ x = .int .i64 (cntV g j k e) ∧ St w wr [il (.slice V j cc) j (tab j f), bx w.heap.size 24 [.int .i64 0, .slice none 0 0]]) (fun _ i _ => n - (intOf i).toNat)
                  case atStart => exact ⟨0, rfl, Nat.zero_le _, rfl, HS2.out⟩
                  case round =>
                    obtain ⟨e, rfl, he, rfl, hS⟩ := hrel
                    have HS3 := Lib.hid hS
                    obtain ⟨y0, y1⟩ := cntV_bd g j k e
                    by_cases hlt5 : e < n
                    · obtain ⟨b, off, rfl, hbl, hc⟩ := (hg.out.below hS.base).at_ (k := e) (by rw [hgl.out]; omega)
                      have hyes := fun a b => cntV_yes (g := g) (s := j) (k := k) (i := e) (by rw [hgl.out]; exact hlt5) a b
                      have hno := fun a => cntV_no (g := g) (s := j) (k := k) (i := e) (by rw [hgl.out]; exact hlt5) a
                      have he0 : (0 : Int) ≤ (e : Int) := by omega
                      have hen : (e : Int) < (n : Int) := by omega
                      have e1 := bit_val j e (by omega)
                      clear hS
                      generalize g.getD e 0 = x at hc hyes hno
                      by_cases t : j.testBit e = true
                      · rw [if_pos t] at e1
                        by_cases q : x = (k : Int)
                        · have hstep := hyes t q
                          have hq : (x == (k : Int)) = true := beq_iff_eq.2 q
                          clear hyes hno
                          have HST := Lib.hid hstep
                          clear hstep
                          generalize cntV g j k e = y at y0 y1 HST ⊢
                          go_wp2
                          go_roundw
                          case rel => exact ⟨e + 1, by go_num, by omega, by rw [HST.out], HS3.out⟩
                          case measure => simp [intOf]; omega
                        · have hstep := hno (.inr q)
                          have hq : (x == (k : Int)) = false := beq_eq_false_iff_ne.2 q
                          clear hyes hno
                          have HST := Lib.hid hstep
                          clear hstep
                          generalize cntV g j k e = y at y0 y1 HST ⊢
                          go_wp2
                          go_roundw
                          case rel => exact ⟨e + 1, by go_num, by omega, by rw [HST.out], HS3.out⟩
                          case measure => simp [intOf]; omega
                      · rw [if_neg t] at e1
                        have hstep := hno (.inl (by simpa using t))
                        clear hyes hno
                        have HST := Lib.hid hstep
                        clear hstep
                        generalize cntV g j k e = y at y0 y1 HST ⊢
                        go_wp2
                        go_roundw
                        case rel => exact ⟨e + 1, by go_num, by omega, by rw [HST.out], HS3.out⟩
                        case measure => simp [intOf]; omega
                    · obtain rfl : n = e := by omega
                      obtain ⟨b, off, rfl, hbl, hc⟩ := (hm.out.below hS.base).at_ (k := k) (by rw [hml.out]; omega)
                      obtain ⟨d0, d1⟩ := HBD.out j k (by rw [hml.out]; omega)
                      have hgrp : min (cntV g j k n) (ms.getD k 0) = grpV g ms j k := by unfold grpV; rw [hgl.out]
                      have hsucc := fsum_succ (grpV g ms j) k
                      obtain ⟨z0, z1⟩ := HGB.out j k (by rw [hml.out]; omega)
                      obtain ⟨u0, u1⟩ := HU.out k hlt4
                      rw [← hgrp] at hsucc z0 z1
                      clear hS hgrp
                      have HSU := Lib.hid hsucc
                      clear hsucc
                      generalize ms.getD k 0 = z at hc z0 z1 HSU u0 u1
                      generalize fsum (grpV g ms j) k = t at d0 d1 HSU ⊢
                      generalize cntV g j k n = y at y0 y1 z0 z1 HSU
                      have hmin : (if z < y then z else y) = min y z := by split <;> omega
                      have HMIN := Lib.hid hmin
                      clear hmin
                      go_wp2
                      go_roundw
                      case rel => exact ⟨k + 1, by go_num, by omega, by rw [HSU.out, HMIN.out], HS3.out⟩
                      case measure => simp [intOf]; omega
                · obtain rfl : m = k := by omega
                  have hkn : ¬ (m : Int) < (m : Int) := by omega
                  have hfin := HF.out j
                  unfold rankV at hfin
                  rw [hml.out] at hfin
                  rw [hfin]
                  generalize f j = y at htab
                  clear hfin
                  go_wp2_with (at_builtin; refine wpList_app1 rfl (.tmp 97) (.tmp 99) 22 rfl y Tryd.underlying22 hi hz0 hz1 hz2 ((HS2.out.alloc _ _).drop 0) (i := 0) rfl rfl rfl (by simp) (by omega) ?_; intro V' c' w2 hS2; have HS3 := Lib.hid hS2; clear hS2)
                  go_roundw
                  case rel => exact ⟨j + 1, V', c', by go_num, by omega, rfl, by rw [htab.out]; exact HS3.out⟩
                  case measure => simp [intOf]; omega
            · obtain rfl : j = p := by omega
              have hjn : ¬ (j : Int) < (j : Int) := by omega
              obtain ⟨B, d, hcall, hend⟩ := made_any (n : Int) V (tab j f) j cc wr (tab_length _ _) (hS.ints (i := 0) rfl)
              rw [HR.out] at hcall hend
              have HC := Lib.hid hcall
              have HE := Lib.hid hend
              clear hcall hend hS
              go_wp2_with (go_at_call 13; refine HC.out.mono ?_; rintro e w2 ⟨rfl, hb⟩; have hS2 := HS1.out.below hb; obtain ⟨p1, q1⟩ := hS2.box (i := 1) rfl; have p10 := p1 0 _ rfl; have p11 := p1 1 _ rfl; have q10 := q1 0; have q11 := q1 1; have pl := (hS2.lt (i := 1) rfl).2; clear p1 q1 hb b10 b11 f10 f11; have HS2 := Lib.hid hS2; clear hS2)
              have hS3 := ((HS2.out.store (i := 1) rfl 0 (.int .i64 rn)).store (i := 1) rfl 1 (.slice B rx.length d)).alloc [.int .i64 rn, .slice B rx.length d] 24
              exact bodyPost_ret (v := .tuple #[.agg #[.int .i64 rn, .slice B rx.length d], .bool rb]) (by simp [results, Tryd.results4, go_sem, p10, p11, q10, q11, pl]) rfl ⟨B, d, rfl, ends_own hS3 (i := 1) rfl HE.out, hS3.base⟩

theorem rankS_any (Ag Am : Option Addr) (g ms : List Int) (cg cm : Nat) (w : World) (hg : Hid (Ints w w.heap.size Ag g)) (hm : Hid (Ints w w.heap.size Am ms)) :
    Calls Tryd.prog 4 #[.slice Ag g.length cg, .slice Am ms.length cm] w (RetFB w (rankFn g ms).1 (rankFn g ms).2.1 (rankFn g ms).2.2) := by
  by_cases h : partOk g ms
  · have e : rankFn g ms = made (g.length : Int) (tab (2 ^ g.length) (rankV g ms)) := if_pos h
    rw [e]
    exact rankS_good Ag Am g ms _ _ cg cm w hg hm (Lib.hid rfl) (Lib.hid rfl) h _ fun s => rfl
  · have e : rankFn g ms = (0, [], false) := if_neg h
    rw [e]
    by_cases h1 : g.length ≤ 5
    · by_cases h2 : ms.length ≤ 5
      · by_cases h3 : ∀ i, i < g.length → 0 ≤ g.getD i 0 ∧ g.getD i 0 < (ms.length : Int)
        · have h4 : ¬ ∀ k, k < ms.length → 0 ≤ ms.getD k 0 ∧ ms.getD k 0 ≤ 5 := fun h4 => h ⟨h1, h2, h3, h4⟩
          obtain ⟨j, hj, hb, hk⟩ := first_bad h4
          exact rankS_m Ag Am g ms _ _ cg cm w hg hm (Lib.hid rfl) (Lib.hid rfl) h1 h2 h3 j hj (by omega) hk
        · obtain ⟨j, hj, hb, hk⟩ := first_bad h3
          exact rankS_g Ag Am g _ _ cg cm w hg (Lib.hid rfl) h1 h2 j hj (by omega) hk
      · exact rankS_m5 Ag Am _ _ cg cm w h1 (by omega)
    · exact rankS_g5 Ag Am _ _ cg cm w (by omega)

end Go.Proofs.YtdodpcehmagdbaaDoor.C
