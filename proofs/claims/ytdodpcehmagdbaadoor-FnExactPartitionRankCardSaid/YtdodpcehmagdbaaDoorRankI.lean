/-
  The contract of impl.PartitionRank and of what it calls.
-/
import Derived.Test.YtdodpcehmagdbaaDoorRankM
import Derived.Test.YtdodpcehmagdbaaDoorMakeRank
import Derived.Test.YtdodpcehmagdbaaDoorCopy
import Derived.Test.YtdodpcehmagdbaaDoorEls
import Derived.Deep.RegionWith
namespace Go.Proofs.YtdodpcehmagdbaaDoor.C
open Go.RowKit K M
set_option linter.unusedVariables false
set_option linter.unusedSimpArgs false

theorem isCountR_yes (z : Int) (w : World) (h0 : 0 ≤ z) (h1 : z ≤ 5) : Calls Tryd.prog 21 #[.int .i64 z] w fun e w' => e = .returned (.bool true) ∧ w = w' := by
  go_enter Tryd.func21, Tryd.ntmps21
  go_wp2
  go_ret
  exact ⟨rfl, rfl⟩

theorem isCountR_no (z : Int) (w : World) (h : z < 0 ∨ 5 < z) : Calls Tryd.prog 21 #[.int .i64 z] w fun e w' => e = .returned (.bool false) ∧ w = w' := by
  by_cases h0 : z < 0
  · have h0' : ¬ 0 ≤ z := by omega
    clear h
    go_enter Tryd.func21, Tryd.ntmps21
    go_wp2
    go_ret
    exact ⟨rfl, rfl⟩
  · have h1 : 0 ≤ z := by omega
    have h2 : 5 < z := by omega
    have h3 : decide (z ≤ 5) = false := by simpa using h2
    clear h
    go_enter Tryd.func21, Tryd.ntmps21
    go_wp2
    go_ret
    exact ⟨rfl, rfl⟩

theorem isIndexR_yes (z n : Int) (w : World) (h0 : 0 ≤ z) (h1 : z < n) : Calls Tryd.prog 20 #[.int .i64 z, .int .i64 n] w fun e w' => e = .returned (.bool true) ∧ w = w' := by
  go_enter Tryd.func20, Tryd.ntmps20
  go_wp2
  go_ret
  exact ⟨rfl, rfl⟩

theorem isIndexR_no (z n : Int) (w : World) (h : z < 0 ∨ n ≤ z) : Calls Tryd.prog 20 #[.int .i64 z, .int .i64 n] w fun e w' => e = .returned (.bool false) ∧ w = w' := by
  by_cases h0 : z < 0
  · have h0' : ¬ 0 ≤ z := by omega
    clear h
    go_enter Tryd.func20, Tryd.ntmps20
    go_wp2
    go_ret
    exact ⟨rfl, rfl⟩
  · have h1 : 0 ≤ z := by omega
    have h2 : n ≤ z := by omega
    have h3 : decide (z < n) = false := by simpa using h2
    clear h
    go_enter Tryd.func20, Tryd.ntmps20
    go_wp2
    go_ret
    exact ⟨rfl, rfl⟩

theorem partI_g5 (Ag Am : Option Addr) (n m cg cm : Nat) (w : World) (hn : 5 < n) :
    Calls Tryd.prog 14 #[.slice Ag n cg, .slice Am m cm] w fun e w' => e = .returned (.bool false) ∧ w = w' := by
  have hni : (5 : Int) < (n : Int) := by omega
  go_enter Tryd.func14, Tryd.ntmps14
  go_wp2
  go_ret
  exact ⟨rfl, rfl⟩

theorem partI_m5 (Ag Am : Option Addr) (n m cg cm : Nat) (w : World) (hn : n ≤ 5) (hm : 5 < m) :
    Calls Tryd.prog 14 #[.slice Ag n cg, .slice Am m cm] w fun e w' => e = .returned (.bool false) ∧ w = w' := by
  have hni : ¬ (5 : Int) < (n : Int) := by omega
  have hmi : (5 : Int) < (m : Int) := by omega
  go_enter Tryd.func14, Tryd.ntmps14
  go_wp2
  go_ret
  exact ⟨rfl, rfl⟩

set_option maxRecDepth 100000 in
set_option maxHeartbeats 1600000 in
theorem partI_g (Ag Am : Option Addr) (g : List Int) (n m cg cm : Nat) (w : World) (hg : Hid (Ints w w.heap.size Ag g)) (hgl : Hid (g.length = n)) (hn : n ≤ 5) (hm : m ≤ 5)
    (j : Nat) (hj : j < n) (hb : g.getD j 0 < 0 ∨ (m : Int) ≤ g.getD j 0) (hv : ∀ k, k < j → 0 ≤ g.getD k 0 ∧ g.getD k 0 < (m : Int)) :
    Calls Tryd.prog 14 #[.slice Ag n cg, .slice Am m cm] w fun e w' => e = .returned (.bool false) ∧ w = w' := by
  have HV := Lib.hid hv
  have HB := Lib.hid hb
  have hni : ¬ (5 : Int) < (n : Int) := by omega
  have hmi : ¬ (5 : Int) < (m : Int) := by omega
  clear hv hb
  go_enter Tryd.func14, Tryd.ntmps14
  go_wp2
  go_loop [6, 19] (fun _ i => ∃ k : Nat, k ≤ j ∧ i = .int .i64 k) (fun _ i => n - (intOf i).toNat)
  case atStart => exact ⟨0, Nat.zero_le _, rfl⟩
  case round =>
    obtain ⟨k, hk, rfl⟩ := hrel
    obtain ⟨b, off, rfl, hbl, hc⟩ := hg.out.at_ (k := k) (by rw [hgl.out]; omega)
    have hk0 : (0 : Int) ≤ (k : Int) := by omega
    have hkn : (k : Int) < (n : Int) := by omega
    by_cases hlt : k < j
    · obtain ⟨v1, v2⟩ := HV.out k hlt
      generalize g.getD k 0 = x at hc v1 v2
      go_wp2_with (go_at_call 20; refine (isIndexR_yes x m _ v1 v2).mono ?_; rintro e w' ⟨rfl, rfl⟩)
      go_round
      case rel => exact ⟨k + 1, by omega, by go_num⟩
      case measure => simp [intOf]; omega
    · obtain rfl : k = j := by omega
      have hb := HB.out
      clear HB HV
      generalize g.getD k 0 = x at hc hb
      have HB := Lib.hid hb
      clear hb
      go_wp2_with (go_at_call 20; refine (isIndexR_no x m _ HB.out).mono ?_; rintro e w' ⟨rfl, rfl⟩)
      go_ret
      exact ⟨rfl, rfl⟩

set_option maxRecDepth 100000 in
set_option maxHeartbeats 1600000 in
theorem partI_m (Ag Am : Option Addr) (g ms : List Int) (n m cg cm : Nat) (w : World) (hg : Hid (Ints w w.heap.size Ag g)) (hm : Hid (Ints w w.heap.size Am ms)) (hgl : Hid (g.length = n)) (hml : Hid (ms.length = m)) (hn : n ≤ 5) (hm5 : m ≤ 5)
    (hv : ∀ k, k < n → 0 ≤ g.getD k 0 ∧ g.getD k 0 < (m : Int)) (j : Nat) (hj : j < m) (hb : ms.getD j 0 < 0 ∨ 5 < ms.getD j 0) (hu : ∀ k, k < j → 0 ≤ ms.getD k 0 ∧ ms.getD k 0 ≤ 5) :
    Calls Tryd.prog 14 #[.slice Ag n cg, .slice Am m cm] w fun e w' => e = .returned (.bool false) ∧ w = w' := by
  have HV := Lib.hid hv
  have HU := Lib.hid hu
  have HB := Lib.hid hb
  have hni : ¬ (5 : Int) < (n : Int) := by omega
  have hmi : ¬ (5 : Int) < (m : Int) := by omega
  clear hv hb hu
  go_enter Tryd.func14, Tryd.ntmps14
  go_wp2
  go_loop [6, 19] (fun _ i => ∃ k : Nat, k ≤ n ∧ i = .int .i64 k) (fun _ i => n - (intOf i).toNat)
  case atStart => exact ⟨0, Nat.zero_le _, rfl⟩
  case round =>
    obtain ⟨k, hk, rfl⟩ := hrel
    by_cases hlt : k < n
    · obtain ⟨b, off, rfl, hbl, hc⟩ := hg.out.at_ (k := k) (by rw [hgl.out]; omega)
      have hk0 : (0 : Int) ≤ (k : Int) := by omega
      have hkn : (k : Int) < (n : Int) := by omega
      obtain ⟨v1, v2⟩ := HV.out k hlt
      generalize g.getD k 0 = x at hc v1 v2
      go_wp2_with (go_at_call 20; refine (isIndexR_yes x m _ v1 v2).mono ?_; rintro e w' ⟨rfl, rfl⟩)
      go_round
      case rel => exact ⟨k + 1, by omega, by go_num⟩
      case measure => simp [intOf]; omega
    · obtain rfl : n = k := by omega
      have hnn : ¬ (n : Int) < (n : Int) := by omega
      go_wp2
      go_loop [8, 31] (fun _ i => ∃ k : Nat, k ≤ j ∧ i = .int .i64 k) (fun _ i => m - (intOf i).toNat)
      case atStart => exact ⟨0, Nat.zero_le _, rfl⟩
      case round =>
        obtain ⟨k, hk, rfl⟩ := hrel
        obtain ⟨b, off, rfl, hbl, hc⟩ := hm.out.at_ (k := k) (by rw [hml.out]; omega)
        have hk0 : (0 : Int) ≤ (k : Int) := by omega
        have hkn : (k : Int) < (m : Int) := by omega
        by_cases hlt : k < j
        · obtain ⟨v1, v2⟩ := HU.out k hlt
          generalize ms.getD k 0 = x at hc v1 v2
          go_wp2_with (go_at_call 21; refine (isCountR_yes x _ v1 v2).mono ?_; rintro e w' ⟨rfl, rfl⟩)
          go_round
          case rel => exact ⟨k + 1, by omega, by go_num⟩
          case measure => simp [intOf]; omega
        · obtain rfl : k = j := by omega
          have hb := HB.out
          clear HB HV HU
          generalize ms.getD k 0 = x at hc hb
          have HB := Lib.hid hb
          clear hb
          go_wp2_with (go_at_call 21; refine (isCountR_no x _ HB.out).mono ?_; rintro e w' ⟨rfl, rfl⟩)
          go_ret
          exact ⟨rfl, rfl⟩

set_option maxRecDepth 100000 in
set_option maxHeartbeats 1600000 in
theorem partI_all (Ag Am : Option Addr) (g ms : List Int) (n m cg cm : Nat) (w : World) (hg : Hid (Ints w w.heap.size Ag g)) (hm : Hid (Ints w w.heap.size Am ms)) (hgl : Hid (g.length = n)) (hml : Hid (ms.length = m)) (hn : n ≤ 5) (hm5 : m ≤ 5)
    (hv : ∀ k, k < n → 0 ≤ g.getD k 0 ∧ g.getD k 0 < (m : Int)) (hu : ∀ k, k < m → 0 ≤ ms.getD k 0 ∧ ms.getD k 0 ≤ 5) :
    Calls Tryd.prog 14 #[.slice Ag n cg, .slice Am m cm] w fun e w' => e = .returned (.bool true) ∧ w = w' := by
  have HV := Lib.hid hv
  have HU := Lib.hid hu
  have hni : ¬ (5 : Int) < (n : Int) := by omega
  have hmi : ¬ (5 : Int) < (m : Int) := by omega
  clear hv hu
  go_enter Tryd.func14, Tryd.ntmps14
  go_wp2
  go_loop [6, 19] (fun _ i => ∃ k : Nat, k ≤ n ∧ i = .int .i64 k) (fun _ i => n - (intOf i).toNat)
  case atStart => exact ⟨0, Nat.zero_le _, rfl⟩
  case round =>
    obtain ⟨k, hk, rfl⟩ := hrel
    by_cases hlt : k < n
    · obtain ⟨b, off, rfl, hbl, hc⟩ := hg.out.at_ (k := k) (by rw [hgl.out]; omega)
      have hk0 : (0 : Int) ≤ (k : Int) := by omega
      have hkn : (k : Int) < (n : Int) := by omega
      obtain ⟨v1, v2⟩ := HV.out k hlt
      generalize g.getD k 0 = x at hc v1 v2
      go_wp2_with (go_at_call 20; refine (isIndexR_yes x m _ v1 v2).mono ?_; rintro e w' ⟨rfl, rfl⟩)
      go_round
      case rel => exact ⟨k + 1, by omega, by go_num⟩
      case measure => simp [intOf]; omega
    · obtain rfl : n = k := by omega
      have hnn : ¬ (n : Int) < (n : Int) := by omega
      go_wp2
      go_loop [8, 31] (fun _ i => ∃ k : Nat, k ≤ m ∧ i = .int .i64 k) (fun _ i => m - (intOf i).toNat)
      case atStart => exact ⟨0, Nat.zero_le _, rfl⟩
      case round =>
        obtain ⟨k, hk, rfl⟩ := hrel
        by_cases hlt : k < m
        · obtain ⟨b, off, rfl, hbl, hc⟩ := hm.out.at_ (k := k) (by rw [hml.out]; omega)
          have hk0 : (0 : Int) ≤ (k : Int) := by omega
          have hkn : (k : Int) < (m : Int) := by omega
          obtain ⟨v1, v2⟩ := HU.out k hlt
          generalize ms.getD k 0 = x at hc v1 v2
          go_wp2_with (go_at_call 21; refine (isCountR_yes x _ v1 v2).mono ?_; rintro e w' ⟨rfl, rfl⟩)
          go_round
          case rel => exact ⟨k + 1, by omega, by go_num⟩
          case measure => simp [intOf]; omega
        · obtain rfl : m = k := by omega
          have hmm : ¬ (m : Int) < (m : Int) := by omega
          go_wp2
          go_ret
          exact ⟨rfl, rfl⟩

theorem partI_any (Ag Am : Option Addr) (g ms : List Int) (cg cm : Nat) (w : World) (hg : Hid (Ints w w.heap.size Ag g)) (hm : Hid (Ints w w.heap.size Am ms)) :
    Calls Tryd.prog 14 #[.slice Ag g.length cg, .slice Am ms.length cm] w fun e w' => e = .returned (.bool (decide (partOk g ms))) ∧ w = w' := by
  by_cases h : partOk g ms
  · rw [decide_eq_true h]
    exact partI_all Ag Am g ms _ _ cg cm w hg hm (Lib.hid rfl) (Lib.hid rfl) h.1 h.2.1 h.2.2.1 h.2.2.2
  · rw [decide_eq_false h]
    by_cases h1 : g.length ≤ 5
    · by_cases h2 : ms.length ≤ 5
      · by_cases h3 : ∀ i, i < g.length → 0 ≤ g.getD i 0 ∧ g.getD i 0 < (ms.length : Int)
        · have h4 : ¬ ∀ k, k < ms.length → 0 ≤ ms.getD k 0 ∧ ms.getD k 0 ≤ 5 := fun h4 => h ⟨h1, h2, h3, h4⟩
          obtain ⟨j, hj, hb, hk⟩ := first_bad h4
          exact partI_m Ag Am g ms _ _ cg cm w hg hm (Lib.hid rfl) (Lib.hid rfl) h1 h2 h3 j hj (by omega) hk
        · obtain ⟨j, hj, hb, hk⟩ := first_bad h3
          exact partI_g Ag Am g _ _ cg cm w hg (Lib.hid rfl) h1 h2 j hj (by omega) hk
      · exact partI_m5 Ag Am _ _ cg cm w h1 (by omega)
    · exact partI_g5 Ag Am _ _ cg cm w (by omega)

set_option maxRecDepth 100000 in
set_option maxHeartbeats 4000000 in
theorem rankI_of (Ag Am : Option Addr) (g ms : List Int) (cg cm S : Nat) (w : World) (hg : Hid (Ints w w.heap.size Ag g)) (hm : Hid (Ints w w.heap.size Am ms)) (hp : partOk g ms) (hS : S < 2 ^ g.length) (hb : Hid (Brujn w)) :
    Calls Tryd.prog 17 #[.int .i64 S, .slice Ag g.length cg, .slice Am ms.length cm] w (RetV w (.int .i64 (rankV g ms S))) := by
  have hS32 : S < 1024 := Nat.lt_of_lt_of_le hS (Nat.le_trans (Nat.pow_le_pow_right (by decide) hp.1) (by decide))
  have HT := Lib.hid (rank_els hp hS)
  have hat := Lib.hid (fun k (hk : k < (els S).length) => els_at S g.length hS hk)
  have hdr := Lib.hid (fun fr k (hk : k < (els S).length) => rk_drop g fr (els S) hk)
  have hlen := els_len S
  have HE := Lib.hid (fun W hB => listI_any S W hS32 (Lib.hid hB))
  have HV := Lib.hid hp.2.2.1
  have HU := Lib.hid hp.2.2.2
  have hm5 := hp.2.1
  have hgn := hp.1
  obtain ⟨n, hgl⟩ : ∃ n, g.length = n := ⟨_, rfl⟩
  obtain ⟨m, hml⟩ : ∃ m, ms.length = m := ⟨_, rfl⟩
  rw [hgl] at hat HV hgn ⊢
  rw [hml] at HV HU hm5 ⊢
  clear hp hS
  generalize els S = es at *
  obtain ⟨l, hel⟩ : ∃ l, es.length = l := ⟨_, rfl⟩
  have HW := Lib.hid (St.start w)
  have HG := Lib.hid hgl
  have HM := Lib.hid hml
  have HL := Lib.hid hel
  rw [hel] at hlen hat hdr
  clear hS32 hgl hml
  obtain ⟨i0, hi, hi0, hi1, hi2⟩ := info_parts info_int
  go_enter Tryd.func17, Tryd.ntmps17
  go_wp2_with (first
    | (refine wpList_make_full _ rfl _ _ _ rfl w.heap.size 3 i0 (.int .i64 0) 1 Tryd.underlying22 hi hi0 hi1 .i64 .i64 _ _ m rfl rfl rfl rfl (by rw [hi2]; omega) (by unfold maxLen; omega) (Nat.le_refl _) ?_; intro w1 hown1 hg1; rw [zeros] at hown1; have HS1 := Lib.hid (show St w w1 [il (.slice (some ⟨w.heap.size, 0, none⟩) m m) m (List.replicate m 0)] from HW.out.new ((Below.refl _ _).grown hg1 (Nat.le_refl _) (by simp)) hown1); clear hown1 hg1)
    | (refine wpList_copyI (o' := ⟨some 16, _, _, _, _, _⟩) rfl (.tmp 14) (.tmp 15) 22 rfl Tryd.underlying22 (by kernel_rfl) HS1.out (i := 0) rfl ((hm.out.below HS1.out.base).mono HS1.out.size) HM.out rfl rfl ?_; intro w2 hS2; have HS2 := Lib.hid hS2; clear hS2)
    | (go_at_call 23; refine (HE.out _ (brujn_on hb.out HS2.out.base)).mono ?_; rintro e w3 ⟨V, cc, rfl, ho, hb3⟩; rw [HL.out]; rw [HL.out] at ho; have hS3 := HS2.out.newI hb3 ho; rw [HL.out] at hS3; have HS3 := Lib.hid hS3; clear ho hb3 hS3))
  clear hel
  go_loopw [8, 10, 20] (fun y _ i wr => ∃ (k : Nat) (t : Int) (fr : List Int), i = .int .i64 k ∧ k ≤ l ∧ y = .int .i64 t ∧ Hid (0 ≤ t ∧ t ≤ (k : Int)) ∧ Hid (t + rk g fr (es.drop k) = rankV g ms S) ∧ Hid (∀ j, j < m → 0 ≤ fr.getD j 0 ∧ fr.getD j 0 ≤ 5) ∧ St w wr [il (.slice V l cc) l es, il (.slice (some ⟨w.heap.size, 0, none⟩) m m) m fr]) (fun _ _ i _ => l - (intOf i).toNat)
  case atStart => exact ⟨0, 0, ms, rfl, Nat.zero_le _, rfl, Lib.hid (by omega), Lib.hid (by rw [List.drop_zero, HT.out]; omega), HU, HS3.out⟩
  case round =>
    obtain ⟨k, t, fr, rfl, hk, rfl, hbd, hsum, hfr, hS⟩ := hrel
    have HS := Lib.hid hS
    clear hS
    by_cases hlt : k < l
    · obtain ⟨b, off, rfl, hbl, hc0⟩ := (HS.out.ints (i := 0) rfl).at_ (k := k) (by rw [HL.out]; exact hlt)
      obtain ⟨g1, g2⟩ := hat.out k hlt
      have hd := hdr.out fr k hlt
      obtain ⟨E, hE⟩ : ∃ E : Nat, es.getD k 0 = (E : Int) := ⟨_, (Int.toNat_of_nonneg g1).symm⟩
      rw [hE] at hc0 g1 g2 hd
      rw [Int.toNat_natCast] at hd
      have hEn : E < n := by omega
      obtain ⟨b', off', rfl, hbl', hc'⟩ := hg.out.at_ (k := E) (by rw [HG.out]; exact hEn)
      have d1 := (HS.out.base.cell (p := ⟨b', off' + E, none⟩) hbl').trans hc'
      obtain ⟨v1, v2⟩ := HV.out E hEn
      obtain ⟨G, hG⟩ : ∃ G : Nat, g.getD E 0 = (G : Int) := ⟨_, (Int.toNat_of_nonneg v1).symm⟩
      rw [hG] at d1 v1 v2 hd
      rw [Int.toNat_natCast] at hd
      have hGm : G < m := by omega
      obtain ⟨c1, c2⟩ := HS.out.cellI (i := 1) rfl hGm
      obtain ⟨u1, u2⟩ := hfr.out G hGm
      obtain ⟨t1, t2⟩ := hbd.out
      have hs := hsum.out
      rw [hd] at hs
      have HFR := Lib.hid (fun (x : Int) (h0 : 0 ≤ x) (h5 : x ≤ 5) j (hj : j < m) => show 0 ≤ (fr.set G x).getD j 0 ∧ (fr.set G x).getD j 0 ≤ 5 from by
        rw [getD_set]
        have := hfr.out j hj
        split <;> omega)
      generalize fr.getD G 0 = x at c1 u1 u2 hs
      have hk0 : (0 : Int) ≤ (k : Int) := by omega
      have hkl : (k : Int) < (l : Int) := by omega
      have hE0 : (0 : Int) ≤ (E : Int) := by omega
      have hEi : (E : Int) < (n : Int) := by omega
      have hG0 : (0 : Int) ≤ (G : Int) := by omega
      have hGi : (G : Int) < (m : Int) := by omega
      clear hc' hd hE hG
      by_cases hx : 0 < x
      · rw [if_pos hx] at hs
        have HB := Lib.hid (show 0 ≤ t + 1 ∧ t + 1 ≤ ((k + 1 : Nat) : Int) by omega)
        have HN := Lib.hid (show (t + 1) + rk g (fr.set G (x - 1)) (es.drop (k + 1)) = rankV g ms S by omega)
        have HF2 := Lib.hid (HFR.out (x - 1) (by omega) (by omega))
        have HZ := Lib.hid (HS.out.setI (i := 1) rfl G (x - 1))
        clear hs
        go_wp2
        go_roundw
        case rel => exact ⟨k + 1, t + 1, fr.set G (x - 1), by go_num, by omega, by go_num, HB, HN, HF2, HZ.out⟩
        case measure => simp [intOf]; omega
      · rw [if_neg hx] at hs
        have HB := Lib.hid (show 0 ≤ t ∧ t ≤ ((k + 1 : Nat) : Int) by omega)
        have HN := Lib.hid hs
        clear hs
        go_wp2
        go_roundw
        case rel => exact ⟨k + 1, t, fr, by go_num, by omega, rfl, HB, HN, hfr, HS.out⟩
        case measure => simp [intOf]; omega
    · obtain rfl : l = k := by omega
      have hkl : ¬ (l : Int) < (l : Int) := by omega
      have hfin := hsum.out
      rw [List.drop_of_length_le (by rw [HL.out]; exact Nat.le_refl _)] at hfin
      have HF := Lib.hid (show t = rankV g ms S by simpa [rk] using hfin)
      clear hfin
      go_wp2
      go_ret
      exact ⟨by rw [HF.out]; rfl, HS.out.base⟩

end Go.Proofs.YtdodpcehmagdbaaDoor.C
