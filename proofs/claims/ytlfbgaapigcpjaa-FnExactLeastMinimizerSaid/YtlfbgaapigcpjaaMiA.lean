/-
  The contracts of spec.MinimumOf, MinimizersOf, LeastMinimizer, GreatestMinimizer.
  The contracts of spec.LeastMinimizer, GreatestMinimizer, IsLattice.
  The contracts of spec.IsLattice and MinimumBetween.
  The contract of spec.MinimumBetween.
-/
import Derived.Test.YtlfbgaapigcpjaaAllM
import Derived.Test.YtlfbgaapigcpjaaSubS
import Derived.Test.YtlfbgaapigcpjaaAppN
import Derived.Test.YtlfbgaapigcpjaaBase
import Derived.Test.YtlfbgaapigcpjaaFnA
import Derived.Deep.QuietTactic
import Derived.Deep.RegionHeld3
import Derived.Test.YtlfbgaapigcpjaaClS
namespace Go.Proofs.Ytlfbgaapigcpjaa.C
open Go.RowKit K M
set_option linter.unusedVariables false
set_option linter.unusedSimpArgs false
set_option linter.unusedSectionVars false

theorem and_nat10 (S P : Nat) (hS : S < 4294967296) (hP : P < 4294967296) : bits .and .i64 (S : Int) (P : Int) = ((S &&& P : Nat) : Int) := by
  have hx : S &&& P < 2 ^ 32 := Nat.and_lt_two_pow _ (by omega)
  have ofI : ∀ a : Nat, a < 9223372036854775808 → (BitVec.ofInt 64 (a : Int)).toNat = a := fun a ha => by
    rw [BitVec.ofInt_natCast, BitVec.toNat_ofNat]; exact Nat.mod_eq_of_lt (by omega)
  show IntKind.i64.wrap ((BitVec.ofInt 64 (S : Int) &&& BitVec.ofInt 64 (P : Int)).toNat : Int) = _
  rw [BitVec.toNat_and, ofI S (by omega), ofI P (by omega), IntKind.wrap_i64]
  omega
theorem or_nat10 (S P : Nat) (hS : S < 4294967296) (hP : P < 4294967296) : bits .or .i64 (S : Int) (P : Int) = ((S ||| P : Nat) : Int) := by
  have hx : S ||| P < 2 ^ 32 := Nat.or_lt_two_pow (by omega) (by omega)
  have ofI : ∀ a : Nat, a < 9223372036854775808 → (BitVec.ofInt 64 (a : Int)).toNat = a := fun a ha => by
    rw [BitVec.ofInt_natCast, BitVec.toNat_ofNat]; exact Nat.mod_eq_of_lt (by omega)
  show IntKind.i64.wrap ((BitVec.ofInt 64 (S : Int) ||| BitVec.ofInt 64 (P : Int)).toNat : Int) = _
  rw [BitVec.toNat_or, ofI S (by omega), ofI P (by omega), IntKind.wrap_i64]
  omega


section

variable (n : Int) (A : Option Addr) (xs : List Int) (cap : Nat) (w : World) (h : Hid (Ints w w.heap.size A xs))
include h
set_option maxRecDepth 100000 in
set_option maxHeartbeats 1600000 in
theorem leastS10 (h0 : 0 < xs.length) (h32 : xs.length ≤ 32) : Calls Try.prog 48 #[.agg #[.int .i64 n, .slice A xs.length cap]] w (RetV w (.int .i64 (least xs))) := by
  have HW := Lib.hid (St.start w)
  have HM := Lib.hid (fun k => show minTo xs (k + 1) = min (minTo xs k) (xs.getD (k + 1) 0) from rfl)
  have hm0 : minTo xs 0 = xs.getD 0 0 := rfl
  unfold least
  obtain ⟨p, hp⟩ : ∃ p, xs.length = p := ⟨_, rfl⟩
  have HP := Lib.hid hp
  rw [hp] at h0 h32 ⊢
  obtain ⟨q, rfl⟩ : ∃ q, p = q + 1 := ⟨p - 1, by omega⟩
  rw [Nat.add_sub_cancel]
  generalize minTo xs = F at *
  obtain ⟨b, off, rfl, hbl, hc0⟩ := h.out.at_ (k := 0) (by rw [HP.out]; omega)
  rw [← hm0] at hc0
  rw [Nat.add_zero] at hc0
  have hp0 : (0 : Int) < ((q + 1 : Nat) : Int) := by omega
  have HS0 := Lib.hid (HW.out.alloc [.int .i64 n, .slice (some ⟨b, off, none⟩) (q + 1) cap] 26)
  clear hm0 hp
  go_enter Try.func48, Try.ntmps48
  go_wp2
  go_loopw [3, 4] (fun v i wr => ∃ k : Nat, i = .int .i64 ((k + 1 : Nat) : Int) ∧ k ≤ q ∧ v = .int .i64 (F k) ∧ St w wr [bx w.heap.size 26 [.int .i64 n, .slice (some ⟨b, off, none⟩) (q + 1) cap]]) (fun _ i _ => q + 1 - (intOf i).toNat)
  case atStart => exact ⟨0, rfl, Nat.zero_le _, rfl, HS0.out⟩
  case round =>
    obtain ⟨k, rfl, hk, rfl, hS⟩ := hrel
    obtain ⟨b0, -⟩ := hS.box (i := 0) rfl
    have d00 := b0 0 _ rfl
    have d01 := b0 1 _ rfl
    have HR := Lib.hid hS
    by_cases hlt : k < q
    · obtain ⟨b', off', e', -, hc⟩ := (h.out.below hS.base).at_ (k := k + 1) (by rw [HP.out]; omega)
      obtain ⟨rfl, rfl⟩ : b = b' ∧ off = off' := by cases e'; exact ⟨rfl, rfl⟩
      have hmk := HM.out k
      have g1 : (0 : Int) ≤ ((k + 1 : Nat) : Int) := by omega
      have g2 : ((k + 1 : Nat) : Int) < ((q + 1 : Nat) : Int) := by omega
      generalize xs.getD (k + 1) 0 = y at hc hmk
      generalize hz : F (k + 1) = z at hmk
      have HZ := Lib.hid hz
      generalize F k = x at *
      generalize hi : k + 1 = i at *
      have HI := Lib.hid hi
      clear hS b0 e' hz hi
      rcases Int.lt_trichotomy x y with hxy | hxy | hxy
      · have a1 : ¬ y < x := by omega
        have a2 : x ≤ y := by omega
        have a3 : ¬ y ≤ x := by omega
        obtain rfl : z = x := by omega
        clear hmk
        go_wp2
        all_goals
          go_roundw
          case rel => exact ⟨i, by go_num, by have := HI.out; omega, by rw [HZ.out], HR.out⟩
          case measure => simp [intOf]; omega
      · subst hxy
        obtain rfl : z = x := by omega
        clear hmk
        go_wp2
        all_goals
          go_roundw
          case rel => exact ⟨i, by go_num, by have := HI.out; omega, by rw [HZ.out], HR.out⟩
          case measure => simp [intOf]; omega
      · have a1 : ¬ x < y := by omega
        have a2 : y ≤ x := by omega
        have a3 : ¬ x ≤ y := by omega
        obtain rfl : z = y := by omega
        clear hmk
        go_wp2
        all_goals
          go_roundw
          case rel => exact ⟨i, by go_num, by have := HI.out; omega, by rw [HZ.out], HR.out⟩
          case measure => simp [intOf]; omega
    · obtain rfl : k = q := by omega
      have hjn : ¬ ((k + 1 : Nat) : Int) < ((k + 1 : Nat) : Int) := by omega
      clear hS b0
      go_wp2
      go_ret
      exact ⟨rfl, HR.out.base⟩

theorem minOfS_any : Calls Try.prog 19 #[.agg #[.int .i64 n, .slice A xs.length cap]] w (RetV w (.tuple #[.int .i64 (minOf n xs).1, .bool (minOf n xs).2])) := by
  have HW := Lib.hid (St.start w)
  have HS0 := Lib.hid (HW.out.alloc [.int .i64 n, .slice A xs.length cap] 26)
  unfold minOf
  cases hf : isFn n xs
  · have HF := Lib.hid hf
    clear hf
    go_enter Try.func19, Try.ntmps19
    go_wp2_with (go_at_call 47; refine (isFnS_no n A xs cap _ (Lib.hid ((h.out.below HS0.out.base).mono HS0.out.size)) HF.out).mono ?_; rintro e w3 ⟨rfl, hb⟩; have HS := Lib.hid (HS0.out.below hb); clear hb)
    go_ret2
    exact ⟨rfl, HS.out.base⟩
  · have HF := Lib.hid hf
    have hx := isFn_len hf
    have HL := Lib.hid (fun W h1 => leastS10 n A xs cap W (Lib.hid h1) (by omega) hx.2)
    rw [if_pos rfl]
    generalize least xs = y at *
    clear hf hx
    go_enter Try.func19, Try.ntmps19
    go_wp2_with (first
      | (go_at_call 47; refine (isFnS_yes n A xs cap _ (Lib.hid ((h.out.below HS0.out.base).mono HS0.out.size)) HF.out).mono ?_; rintro e w3 ⟨rfl, hb⟩; have hS := HS0.out.below hb; obtain ⟨b0, -⟩ := hS.box (i := 0) rfl; have b00 := b0 0 _ rfl; have b01 := b0 1 _ rfl; have HS := Lib.hid hS; clear hb hS b0)
      | (go_at_call 48; refine (HL.out _ ((h.out.below HS.out.base).mono HS.out.size)).mono ?_; rintro e w4 ⟨rfl, hb⟩; have HS2 := Lib.hid (HS.out.below hb); clear hb))
    go_ret2
    exact ⟨rfl, HS2.out.base⟩

set_option maxRecDepth 100000 in
set_option maxHeartbeats 1600000 in
theorem minsS_no (hf : isFn n xs = false) : Calls Try.prog 18 #[.agg #[.int .i64 n, .slice A xs.length cap]] w (RetIB w [] false) := by
  have HW := Lib.hid (St.start w)
  have HS0 := Lib.hid ((HW.out.alloc [.int .i64 n, .slice A xs.length cap] 26).empty)
  have HF := Lib.hid (fun W h1 => isFnS_no n A xs cap W (Lib.hid h1) hf)
  clear hf
  go_enter Try.func18, Try.ntmps18
  go_wp2
  go_loopw [4, 5] (fun v i wr => i = .int .i64 0 ∧ v = .slice (some ⟨w.heap.size + 1, 0, none⟩) 0 0 ∧ St w wr [il (.slice (some ⟨w.heap.size + 1, 0, none⟩) 0 0) 0 [], bx w.heap.size 26 [.int .i64 n, .slice A xs.length cap]]) (fun _ _ _ => 0)
  case atStart => exact ⟨rfl, by simp, by simpa using HS0.out⟩
  case round =>
    obtain ⟨rfl, rfl, hS⟩ := hrel
    obtain ⟨b0, -⟩ := hS.box (i := 1) rfl
    have d00 := b0 0 _ rfl
    have d01 := b0 1 _ rfl
    have HR := Lib.hid hS
    clear hS b0
    go_wp2_with fail
    refine (HF.out _ ((h.out.below HR.out.base).mono HR.out.size)).mono ?_
    rintro e w2 ⟨rfl, hb⟩
    have hS := HR.out.below hb
    obtain ⟨b0, -⟩ := hS.box (i := 1) rfl
    have e00 := b0 0 _ rfl
    have e01 := b0 1 _ rfl
    have HS2 := Lib.hid hS
    clear hS b0 hb d00 d01
    go_wp2_with fail
    refine (HF.out _ ((h.out.below HS2.out.base).mono HS2.out.size)).mono ?_
    rintro e w3 ⟨rfl, hb⟩
    have HS3 := Lib.hid (HS2.out.below hb)
    clear hb
    go_wp2
    go_ret2
    exact ⟨_, _, rfl, HS3.out.ownI (i := 0) rfl, HS3.out.base⟩

set_option maxRecDepth 100000 in
set_option maxHeartbeats 4000000 in
theorem minsS_yes (hf : isFn n xs = true) : Calls Try.prog 18 #[.agg #[.int .i64 n, .slice A xs.length cap]] w (RetIB w (nats (args xs)) true) := by
  have HW := Lib.hid (St.start w)
  have HS0 := Lib.hid ((HW.out.alloc [.int .i64 n, .slice A xs.length cap] 26).empty)
  have HF := Lib.hid (fun W h1 => isFnS_yes n A xs cap W (Lib.hid h1) hf)
  have hx := isFn_len hf
  have HL := Lib.hid (fun W h1 => leastS10 n A xs cap W (Lib.hid h1) (by omega) hx.2)
  unfold args
  generalize least xs = y at *
  have HAL := Lib.hid (argTo_len xs y)
  have HAS := Lib.hid (fun s => show argTo xs y (s + 1) = if xs.getD s 0 = y then argTo xs y s ++ [s] else argTo xs y s from rfl)
  have HA0 := Lib.hid (show argTo xs y 0 = [] from rfl)
  generalize argTo xs y = F at *
  obtain ⟨p, hp⟩ : ∃ p, xs.length = p := ⟨_, rfl⟩
  have HP := Lib.hid hp
  have h32 := hx.2
  rw [hp] at HF HL HS0 h32 ⊢
  clear hf hx hp
  obtain ⟨i0, hi, hz0, hz1, hz2⟩ := info_parts info_int
  go_enter Try.func18, Try.ntmps18
  go_wp2
  go_loopw [4, 5] (fun v i wr => ∃ (s l : Nat) (V : Option Addr) (c : Nat), i = .int .i64 s ∧ s ≤ p ∧ (F s).length = l ∧ v = .slice V l c ∧ v ≠ .slice none 0 0 ∧ St w wr [il (.slice V l c) l (nats (F s)), bx w.heap.size 26 [.int .i64 n, .slice A p cap]]) (fun _ i _ => p - (intOf i).toNat)
  case atStart => exact ⟨0, 0, _, _, rfl, Nat.zero_le _, by rw [HA0.out]; rfl, rfl, by simp, by rw [HA0.out]; have := HS0.out; simpa [nats] using this⟩
  case round =>
    obtain ⟨s, l, V, c, rfl, hs, hl, rfl, hne, hS⟩ := hrel
    have hll := HAL.out s
    rw [hl] at hll
    have HFL := Lib.hid hl
    have HNE := Lib.hid hne
    obtain ⟨b0, -⟩ := hS.box (i := 1) rfl
    have d00 := b0 0 _ rfl
    have d01 := b0 1 _ rfl
    have HR := Lib.hid hS
    clear hl hne hS b0
    go_wp2_with fail
    refine (HF.out _ ((h.out.below HR.out.base).mono HR.out.size)).mono ?_
    rintro e w2 ⟨rfl, hb⟩
    have hS := HR.out.below hb
    obtain ⟨b0, -⟩ := hS.box (i := 1) rfl
    have e00 := b0 0 _ rfl
    have e01 := b0 1 _ rfl
    have HS2 := Lib.hid hS
    clear hS b0 hb d00 d01
    by_cases hlt : s < p
    · obtain ⟨r, ro, rfl, hrl, hc⟩ := h.out.at_ (k := s) (by rw [HP.out]; exact hlt)
      have hst := HAS.out s
      have g1 : (0 : Int) ≤ (s : Int) := by omega
      have g2 : (s : Int) < (p : Int) := by omega
      generalize xs.getD s 0 = x at hc hst
      have HC := Lib.hid hc
      have hcc := (HS2.out.base.cell (p := ⟨r, ro + s, none⟩) hrl).trans HC.out
      clear hc
      have hgo : Hid (∀ W, Ints W W.heap.size (some ⟨r, ro, none⟩) xs → Calls Try.prog 48 #[.agg #[.int .i64 n, .slice (some ⟨r, ro, none⟩) p cap]] W (RetV W (.int .i64 y))) := HL.out
      by_cases hxy : x = y
      · rw [if_pos hxy] at hst
        have hbe : (x == y) = true := beq_iff_eq.2 hxy
        have HST := Lib.hid hst
        clear hst hxy
        go_wp2
        go_region_held3 (fun w' => w'.cell? ⟨w.heap.size, 0, none⟩ = some (.int .i64 n) ∧ w'.cell? ⟨w.heap.size, 1, none⟩ = some (.slice (some ⟨r, ro, none⟩) p cap) ∧ w'.cell? ⟨r, ro + s, none⟩ = some (.int .i64 x)) (first | assumption | go_keep) ((go_at_call 48; refine (hgo.out _ ?_).mono ?_; (first | exact (h.out.below HS2.out.drew.base).mono HS2.out.drew.size); rintro e w4 ⟨rfl, hb⟩; have hS3 := HS2.out.drew.below hb; obtain ⟨b0, -⟩ := hS3.box (i := 1) rfl; have f00 := b0 0 _ rfl; have f01 := b0 1 _ rfl; have fcc := (hS3.base.cell (p := ⟨r, ro + s, none⟩) hrl).trans HC.out; have HS3 := Lib.hid hS3; clear hb hS3 b0))
        go_wp2_with (at_builtin; have hS := HS3.out; refine wpList_app1 rfl (.tmp 26) (.tmp 28) 24 rfl (s : Int) Try.underlying24 hi hz0 hz1 hz2 ((hS.alloc _ _).drop 0) (i := 0) rfl rfl rfl (by first | exact HNE.out | simp) (by omega) ?_; intro V' c' w5 hS5; have HR5 := Lib.hid hS5; clear hS hS5)
        go_roundw
        case rel => exact ⟨s + 1, l + 1, V', c', by go_num, by omega, by rw [HST.out, List.length_append, HFL.out]; rfl, rfl, by simp, by rw [HST.out]; have := HR5.out; simpa [nats] using this⟩
        case measure => simp [intOf]; omega
      · rw [if_neg hxy] at hst
        have hbe : (x == y) = false := beq_eq_false_iff_ne.2 hxy
        have HST := Lib.hid hst
        clear hst hxy
        go_wp2
        go_region_held3 (fun w' => w'.cell? ⟨w.heap.size, 0, none⟩ = some (.int .i64 n) ∧ w'.cell? ⟨w.heap.size, 1, none⟩ = some (.slice (some ⟨r, ro, none⟩) p cap) ∧ w'.cell? ⟨r, ro + s, none⟩ = some (.int .i64 x)) (first | assumption | go_keep) ((go_at_call 48; refine (hgo.out _ ?_).mono ?_; (first | exact (h.out.below HS2.out.drew.base).mono HS2.out.drew.size); rintro e w4 ⟨rfl, hb⟩; have hS3 := HS2.out.drew.below hb; obtain ⟨b0, -⟩ := hS3.box (i := 1) rfl; have f00 := b0 0 _ rfl; have f01 := b0 1 _ rfl; have fcc := (hS3.base.cell (p := ⟨r, ro + s, none⟩) hrl).trans HC.out; have HS3 := Lib.hid hS3; clear hb hS3 b0))
        go_wp2
        go_roundw
        case rel => exact ⟨s + 1, l, V, c, by go_num, by omega, by rw [HST.out]; exact HFL.out, rfl, HNE.out, by rw [HST.out]; exact HS3.out⟩
        case measure => simp [intOf]; omega
    · obtain rfl : s = p := by omega
      have hjn : ¬ (s : Int) < (s : Int) := by omega
      go_wp2_with fail
      refine (HF.out _ ((h.out.below HS2.out.base).mono HS2.out.size)).mono ?_
      rintro e w3 ⟨rfl, hb⟩
      have HS3 := Lib.hid (HS2.out.below hb)
      clear hb
      have hnl : (nats (F s)).length = l := by rw [nats_len, HFL.out]
      go_wp2
      go_ret2
      exact ⟨V, c, by rw [hnl]; rfl, by rw [hnl]; exact HS3.out.ownI (i := 0) rfl, HS3.out.base⟩

theorem minsS_any : Calls Try.prog 18 #[.agg #[.int .i64 n, .slice A xs.length cap]] w (RetIB w (minimizers n xs).1 (minimizers n xs).2) := by
  unfold minimizers
  cases hf : isFn n xs
  · exact minsS_no n A xs cap w h hf
  · exact minsS_yes n A xs cap w h hf

end


end Go.Proofs.Ytlfbgaapigcpjaa.C

namespace Go.Proofs.Ytlfbgaapigcpjaa.C
open Go.RowKit K M
set_option linter.unusedVariables false
set_option linter.unusedSimpArgs false
set_option linter.unusedSectionVars false

theorem sub_fn {n : Int} {xs : List Int} (h : isSub n xs = true) : isFn n xs = true := by
  unfold isSub at h
  rw [Bool.and_eq_true] at h
  exact h.1


section

variable (n : Int) (A : Option Addr) (xs : List Int) (cap : Nat) (w : World) (h : Hid (Ints w w.heap.size A xs))
include h
set_option maxRecDepth 100000 in
set_option maxHeartbeats 1600000 in
theorem lminS_any : Calls Try.prog 21 #[.agg #[.int .i64 n, .slice A xs.length cap]] w (RetV w (.tuple #[.int .i64 (leastMin n xs).1, .bool (leastMin n xs).2])) := by
  have HW := Lib.hid (St.start w)
  have HS0 := Lib.hid (HW.out.alloc [.int .i64 n, .slice A xs.length cap] 26)
  have HB := Lib.hid (fun W h1 => subS_any n A xs cap W (Lib.hid h1))
  unfold leastMin
  cases e1 : isSub n xs
  · rw [e1] at HB
    clear e1
    go_enter Try.func21, Try.ntmps21
    go_wp2_with (go_at_call 50; refine (HB.out _ ((h.out.below HS0.out.base).mono HS0.out.size)).mono ?_; rintro e w3 ⟨rfl, hb⟩; have HS := Lib.hid (HS0.out.below hb); clear hb)
    go_ret2
    exact ⟨rfl, HS.out.base⟩
  · rw [e1] at HB
    have hf := sub_fn e1
    have hx := isFn_len hf
    have HM := Lib.hid (fun W h1 => minsS_yes n A xs cap W (Lib.hid h1) hf)
    have hl0 := args_ne (xs := xs) (by omega)
    have hl1 := argTo_len xs (least xs) xs.length
    have hlt : ∀ s ∈ args xs, s < 2 ^ 5 := fun s hs => by have := args_lt hs; omega
    have HAN := Lib.hid (fun k => andTo_lt hlt k)
    have HAT := Lib.hid (fun k (hk : k < (args xs).length) => show (args xs).getD k 0 < 2 ^ 5 by rw [getD_at _ _ hk]; exact hlt _ (List.getElem_mem hk))
    have HNA := Lib.hid (fun k (hk : k < (args xs).length) => nats_at (l := args xs) hk)
    have HA0 := Lib.hid (show andTo (args xs) 0 = (args xs).getD 0 0 from rfl)
    have HAS := Lib.hid (fun k => show andTo (args xs) (k + 1) = andTo (args xs) k &&& (args xs).getD (k + 1) 0 from rfl)
    have hnl : (nats (args xs)).length = (args xs).length := nats_len _
    have hl2 : (args xs).length ≤ 32 := by unfold args; omega
    rw [if_pos rfl]
    generalize andTo (args xs) = F at *
    generalize nats (args xs) = ns at *
    generalize args xs = l at *
    obtain ⟨L, hL⟩ : ∃ L, l.length = L := ⟨_, rfl⟩
    rw [hL] at hl0 HAT HNA hnl hl2 ⊢
    obtain ⟨q, rfl⟩ : ∃ q, L = q + 1 := ⟨L - 1, by omega⟩
    rw [Nat.add_sub_cancel]
    have HL := Lib.hid hnl
    clear e1 hf hx hl1 hlt hL hnl
    go_enter Try.func21, Try.ntmps21
    go_wp2_with (first
      | (go_at_call 50; refine (HB.out _ ((h.out.below HS0.out.base).mono HS0.out.size)).mono ?_; rintro e w3 ⟨rfl, hb⟩; have hS := HS0.out.below hb; obtain ⟨b0, -⟩ := hS.box (i := 0) rfl; have b00 := b0 0 _ rfl; have b01 := b0 1 _ rfl; have HS := Lib.hid hS; clear hb hS b0)
      | fail)
    refine (HM.out _ ((h.out.below HS.out.base).mono HS.out.size)).mono ?_
    rintro e w4 ⟨V, c, rfl, ho, hb⟩
    rw [HL.out] at ho ⊢
    have hS := HS.out.newI hb ho
    rw [HL.out] at hS
    obtain ⟨r, ro, rfl, hrl, hc0⟩ := (hS.ints (i := 0) rfl).at_ (k := 0) (by rw [HL.out]; omega)
    rw [HNA.out 0 (by omega), ← HA0.out, Nat.add_zero] at hc0
    have hp0 : (0 : Int) < ((q + 1 : Nat) : Int) := by omega
    have HS2 := Lib.hid hS
    clear ho hb hS
    go_wp2
    go_loopw [6, 7] (fun v i wr => ∃ k : Nat, i = .int .i64 ((k + 1 : Nat) : Int) ∧ k ≤ q ∧ v = .int .i64 (F k : Nat) ∧ St w wr [il (.slice (some ⟨r, ro, none⟩) (q + 1) c) (q + 1) ns, bx w.heap.size 26 [.int .i64 n, .slice A xs.length cap]]) (fun _ i _ => q + 1 - (intOf i).toNat)
    case atStart => exact ⟨0, rfl, Nat.zero_le _, rfl, HS2.out⟩
    case round =>
      obtain ⟨k, rfl, hk, rfl, hS⟩ := hrel
      have HR := Lib.hid hS
      by_cases hlt : k < q
      · obtain ⟨r', ro', e', -, hc⟩ := (hS.ints (i := 0) rfl).at_ (k := k + 1) (by rw [HL.out]; omega)
        obtain ⟨rfl, rfl⟩ : r = r' ∧ ro = ro' := by cases e'; exact ⟨rfl, rfl⟩
        rw [HNA.out (k + 1) (by omega)] at hc
        have hb1 := HAT.out (k + 1) (by omega)
        have hb2 := HAN.out k
        have hst := HAS.out k
        have g1 : (0 : Int) ≤ ((k + 1 : Nat) : Int) := by omega
        have g2 : ((k + 1 : Nat) : Int) < ((q + 1 : Nat) : Int) := by omega
        generalize l.getD (k + 1) 0 = y at *
        have hand := and_nat10 (F k) y (by omega) (by omega)
        rw [← hst] at hand
        generalize hz : F (k + 1) = z at *
        generalize F k = x at *
        generalize hi : k + 1 = i at *
        have HZ := Lib.hid hz
        have HI := Lib.hid hi
        clear hS e' hst hz hi
        go_wp2
        go_roundw
        case rel => exact ⟨i, by go_num, by have := HI.out; omega, by rw [HZ.out], HR.out⟩
        case measure => simp [intOf]; omega
      · obtain rfl : k = q := by omega
        have hjn : ¬ ((k + 1 : Nat) : Int) < ((k + 1 : Nat) : Int) := by omega
        clear hS
        go_wp2
        go_ret2
        exact ⟨rfl, HR.out.base⟩

set_option maxRecDepth 100000 in
set_option maxHeartbeats 1600000 in
theorem gminS_any : Calls Try.prog 23 #[.agg #[.int .i64 n, .slice A xs.length cap]] w (RetV w (.tuple #[.int .i64 (greatMin n xs).1, .bool (greatMin n xs).2])) := by
  have HW := Lib.hid (St.start w)
  have HS0 := Lib.hid (HW.out.alloc [.int .i64 n, .slice A xs.length cap] 26)
  have HB := Lib.hid (fun W h1 => subS_any n A xs cap W (Lib.hid h1))
  unfold greatMin
  cases e1 : isSub n xs
  · rw [e1] at HB
    clear e1
    go_enter Try.func23, Try.ntmps23
    go_wp2_with (go_at_call 50; refine (HB.out _ ((h.out.below HS0.out.base).mono HS0.out.size)).mono ?_; rintro e w3 ⟨rfl, hb⟩; have HS := Lib.hid (HS0.out.below hb); clear hb)
    go_ret2
    exact ⟨rfl, HS.out.base⟩
  · rw [e1] at HB
    have hf := sub_fn e1
    have hx := isFn_len hf
    have HM := Lib.hid (fun W h1 => minsS_yes n A xs cap W (Lib.hid h1) hf)
    have hlt : ∀ s ∈ args xs, s < 2 ^ 5 := fun s hs => by have := args_lt hs; omega
    have HAN := Lib.hid (fun k => orTo_lt hlt k)
    have HAT := Lib.hid (fun k (hk : k < (args xs).length) => show (args xs).getD k 0 < 2 ^ 5 by rw [getD_at _ _ hk]; exact hlt _ (List.getElem_mem hk))
    have HNA := Lib.hid (fun k (hk : k < (args xs).length) => nats_at (l := args xs) hk)
    have HA0 := Lib.hid (show orTo (args xs) 0 = 0 from rfl)
    have HAS := Lib.hid (fun k => show orTo (args xs) (k + 1) = orTo (args xs) k ||| (args xs).getD k 0 from rfl)
    have hnl : (nats (args xs)).length = (args xs).length := nats_len _
    have hl1 := argTo_len xs (least xs) xs.length
    have hl2 : (args xs).length ≤ 32 := by unfold args; omega
    rw [if_pos rfl]
    generalize orTo (args xs) = F at *
    generalize nats (args xs) = ns at *
    generalize args xs = l at *
    obtain ⟨L, hL⟩ : ∃ L, l.length = L := ⟨_, rfl⟩
    rw [hL] at HAT HNA hnl hl2 ⊢
    have HL := Lib.hid hnl
    clear e1 hf hx hl1 hlt hL hnl
    go_enter Try.func23, Try.ntmps23
    go_wp2_with (first
      | (go_at_call 50; refine (HB.out _ ((h.out.below HS0.out.base).mono HS0.out.size)).mono ?_; rintro e w3 ⟨rfl, hb⟩; have hS := HS0.out.below hb; obtain ⟨b0, -⟩ := hS.box (i := 0) rfl; have b00 := b0 0 _ rfl; have b01 := b0 1 _ rfl; have HS := Lib.hid hS; clear hb hS b0)
      | (go_at_call 18; refine (HM.out _ ((h.out.below HS.out.base).mono HS.out.size)).mono ?_; rintro e w4 ⟨V, c, rfl, ho, hb⟩; rw [HL.out] at ho ⊢; have hS := HS.out.newI hb ho; rw [HL.out] at hS; have HS2 := Lib.hid hS; clear ho hb hS))
    go_loopw [6, 7] (fun v i wr => ∃ k : Nat, i = .int .i64 k ∧ k ≤ L ∧ v = .int .i64 (F k : Nat) ∧ St w wr [il (.slice V L c) L ns, bx w.heap.size 26 [.int .i64 n, .slice A xs.length cap]]) (fun _ i _ => L - (intOf i).toNat)
    case atStart => exact ⟨0, rfl, Nat.zero_le _, by rw [HA0.out]; rfl, HS2.out⟩
    case round =>
      obtain ⟨k, rfl, hk, rfl, hS⟩ := hrel
      have HR := Lib.hid hS
      by_cases hlt : k < L
      · obtain ⟨r, ro, rfl, hrl, hc⟩ := (hS.ints (i := 0) rfl).at_ (k := k) (by rw [HL.out]; omega)
        rw [HNA.out k hlt] at hc
        have hb1 := HAT.out k hlt
        have hb2 := HAN.out k
        have hst := HAS.out k
        have g1 : (0 : Int) ≤ (k : Int) := by omega
        have g2 : (k : Int) < (L : Int) := by omega
        generalize l.getD k 0 = y at *
        have hor := or_nat10 (F k) y (by omega) (by omega)
        rw [← hst] at hor
        generalize hz : F (k + 1) = z at *
        generalize F k = x at *
        have HZ := Lib.hid hz
        clear hS hst hz
        go_wp2
        go_roundw
        case rel => exact ⟨k + 1, by go_num, by omega, by rw [HZ.out], HR.out⟩
        case measure => simp [intOf]; omega
      · obtain rfl : k = L := by omega
        have hjn : ¬ (k : Int) < (k : Int) := by omega
        clear hS
        go_wp2
        go_ret2
        exact ⟨rfl, HR.out.base⟩

end


theorem hasS_any (A : Option Addr) (xs : List Int) (cap : Nat) (s : Int) (w : World) (h : Hid (Ints w w.heap.size A xs)) (hl : xs.length ≤ 64) :
    Calls Try.prog 54 #[.slice A xs.length cap, .int .i64 s] w fun e w' => e = .returned (.bool (hasI xs s)) ∧ w = w' := by
  by_cases hh : ∃ j, j < xs.length ∧ xs.getD j 0 = s
  · obtain ⟨j, hj, hs, hbef⟩ : ∃ j, j < xs.length ∧ xs.getD j 0 = s ∧ ∀ k, k < j → xs.getD k 0 ≠ s := by
      obtain ⟨j, hj, hs⟩ := hh
      induction j using Nat.strongRecOn with
      | ind j ih =>
        by_cases hb : ∃ k, k < j ∧ xs.getD k 0 = s
        · obtain ⟨k, hk, he⟩ := hb
          exact ih k hk (by omega) he
        · exact ⟨j, hj, hs, fun k hk he => hb ⟨k, hk, he⟩⟩
    rw [hasI_mem.2 ⟨j, hj, hs⟩]
    have HB := Lib.hid hbef
    have HS := Lib.hid hs
    obtain ⟨m, hm⟩ : ∃ m, xs.length = m := ⟨_, rfl⟩
    have HX := Lib.hid hm
    rw [hm] at hj hl ⊢
    clear hh hbef hs hm
    go_enter Try.func54, Try.ntmps54
    go_wp2
    go_loop [5] (fun i => ∃ k : Nat, i = .int .i64 k ∧ k ≤ j) (fun i => m - (intOf i).toNat)
    case atStart => exact ⟨0, rfl, Nat.zero_le _⟩
    case round =>
      obtain ⟨k, rfl, hk⟩ := hrel
      obtain ⟨b, off, rfl, hbl, hc⟩ := h.out.at_ (k := k) (by rw [HX.out]; omega)
      have g1 : (0 : Int) ≤ (k : Int) := by omega
      have g2 : (k : Int) < (m : Int) := by omega
      by_cases hlt : k < j
      · have hne := HB.out k hlt
        generalize xs.getD k 0 = x at hc hne
        have hbe : (x == s) = false := beq_eq_false_iff_ne.2 hne
        go_wp2
        go_round
        case rel => exact ⟨k + 1, by go_num, by omega⟩
        case measure => simp [intOf]; omega
      · obtain rfl : k = j := by omega
        rw [HS.out] at hc
        have hbe : (s == s) = true := beq_self_eq_true _
        go_wp2
        go_ret
        exact ⟨rfl, rfl⟩
  · have hno : ∀ j, j < xs.length → xs.getD j 0 ≠ s := fun j hj he => hh ⟨j, hj, he⟩
    rw [hasI_no hno]
    have HB := Lib.hid hno
    obtain ⟨m, hm⟩ : ∃ m, xs.length = m := ⟨_, rfl⟩
    have HX := Lib.hid hm
    rw [hm] at hl ⊢
    clear hh hno hm
    go_enter Try.func54, Try.ntmps54
    go_wp2
    go_loop [5] (fun i => ∃ k : Nat, i = .int .i64 k ∧ k ≤ m) (fun i => m - (intOf i).toNat)
    case atStart => exact ⟨0, rfl, Nat.zero_le _⟩
    case round =>
      obtain ⟨k, rfl, hk⟩ := hrel
      by_cases hlt : k < m
      · obtain ⟨b, off, rfl, hbl, hc⟩ := h.out.at_ (k := k) (by rw [HX.out]; omega)
        have g1 : (0 : Int) ≤ (k : Int) := by omega
        have g2 : (k : Int) < (m : Int) := by omega
        have hne := HB.out k (by rw [HX.out]; exact hlt)
        generalize xs.getD k 0 = x at hc hne
        have hbe : (x == s) = false := beq_eq_false_iff_ne.2 hne
        go_wp2
        go_round
        case rel => exact ⟨k + 1, by go_num, by omega⟩
        case measure => simp [intOf]; omega
      · obtain rfl : k = m := by omega
        have g2 : ¬ (k : Int) < (k : Int) := by omega
        go_wp2
        go_ret
        exact ⟨rfl, rfl⟩

end Go.Proofs.Ytlfbgaapigcpjaa.C

namespace Go.Proofs.Ytlfbgaapigcpjaa.C
open Go.RowKit K M
set_option linter.unusedVariables false
set_option linter.unusedSimpArgs false
set_option linter.unusedSectionVars false

theorem quiet_bool {P : Program} {f : FuncId} {args : Array Value} {w : World} {n : Nat} {v : Value} (h : Calls P f args (w.drewN n) fun e w' => e = .returned v ∧ w.drewN n = w') :
    Calls P f args (w.drewN n) fun e w'' => e = .returned v ∧ ∃ m, w'' = w.drewN m :=
  h.mono fun _ _ ⟨he, hq⟩ => ⟨he, n, hq.symm⟩
theorem lat_in {l : List Int} : ∀ m, latTo l m = true → ∀ i, i < m → 0 ≤ l.getD i 0 ∧ l.getD i 0 ≤ 1023
  | 0, _, i, h => absurd h (by omega)
  | m + 1, hm, i, h => by
    rw [latTo, Bool.and_eq_true, Bool.and_eq_true, decide_eq_true_eq] at hm
    by_cases e : i = m
    · subst e; exact hm.2.1
    · exact lat_in m hm.1 i (by omega)


section

variable (A : Option Addr) (xs : List Int) (cap : Nat) (w : World) (h : Hid (Ints w w.heap.size A xs)) (hx : xs.length ≤ 1048576)
include h hx
theorem latS_len (hl : ¬ xs.length ≤ 64) : Calls Try.prog 27 #[.slice A xs.length cap] w (RetV w (.bool false)) := by
  have hg : (64 : Int) < (xs.length : Int) := by omega
  clear hl
  go_enter Try.func27, Try.ntmps27
  go_wp2
  go_ret
  exact ⟨rfl, Below.refl _ _⟩

set_option maxRecDepth 100000 in
set_option maxHeartbeats 8000000 in
theorem latS_in (hl : xs.length ≤ 64) : Calls Try.prog 27 #[.slice A xs.length cap] w (RetV w (.bool (latTo xs xs.length))) := by
  have hg : ¬ (64 : Int) < (xs.length : Int) := by omega
  have HH := Lib.hid (fun W s (h1 : Ints W W.heap.size A xs) => hasS_any A xs cap s W (Lib.hid h1) hl)
  have HT0 := Lib.hid (show latTo xs 0 = true from rfl)
  have HTS := Lib.hid (fun i => show latTo xs (i + 1) = (latTo xs i && (decide (0 ≤ xs.getD i 0 ∧ xs.getD i 0 ≤ 1023) && latRow xs i i)) from rfl)
  have HTN := Lib.hid (fun i (hi : i < xs.length) hh => latTo_no (l := xs) (i := i) hh xs.length hi)
  have HTI := Lib.hid (fun i hh => lat_in (l := xs) i hh)
  have HR0 := Lib.hid (fun i => show latRow xs i 0 = true from rfl)
  have HRS := Lib.hid (fun i k => show latRow xs i (k + 1) = (latRow xs i k && (hasI xs ((xs.getD i 0).toNat &&& (xs.getD k 0).toNat : Nat) && hasI xs ((xs.getD i 0).toNat ||| (xs.getD k 0).toNat : Nat))) from rfl)
  have HRN := Lib.hid (fun i k (hk : k < i) hh => latRow_no (l := xs) (i := i) (k := k) hh i hk)
  generalize latTo xs = F at *
  generalize latRow xs = R at *
  generalize hasI xs = H at *
  obtain ⟨m, hm⟩ : ∃ m, xs.length = m := ⟨_, rfl⟩
  have HX := Lib.hid hm
  rw [hm] at hl hg HH HTN ⊢
  clear hm hx
  go_enter Try.func27, Try.ntmps27
  go_wp2
  go_loopw [3] (fun i wr => ∃ j q : Nat, i = .int .i64 j ∧ j ≤ m ∧ Hid (F j = true) ∧ w.drewN q = wr) (fun i _ => m - (intOf i).toNat)
  case atStart => exact ⟨0, 0, rfl, Nat.zero_le _, HT0, rfl⟩
  case round =>
    obtain ⟨j, q, rfl, hj, HF, hq⟩ := hrel
    by_cases hlt : j < m
    · have hi : Ints wr wr.heap.size A xs := by rw [← hq]; exact h.out
      obtain ⟨b, off, rfl, hbl, hc⟩ := hi.at_ (k := j) (by rw [HX.out]; exact hlt)
      have HI := Lib.hid hi
      have HQ := Lib.hid hq
      have hts := HTS.out j
      have HTNj := Lib.hid (HTN.out j hlt)
      have hrs := Lib.hid (fun k => HRS.out j k)
      have g1 : (0 : Int) ≤ (j : Int) := by omega
      have g2 : (j : Int) < (m : Int) := by omega
      generalize hX : xs.getD j 0 = x at *
      have HXJ := Lib.hid hX
      clear hi hq hX
      by_cases hr : 0 ≤ x ∧ x ≤ 1023
      · obtain ⟨a, rfl⟩ := Int.eq_ofNat_of_zero_le hr.1
        rw [Int.toNat_natCast] at hrs
        rw [HF.out, decide_eq_true hr, Bool.true_and, Bool.true_and] at hts
        have HTSJ := Lib.hid hts
        clear hts
        go_wp2_with (go_at_call 53; refine (in_yes _ 0 1023 _ hr.1 hr.2).mono ?_; rintro e w' ⟨rfl, rfl⟩)
        obtain ⟨wo, rfl⟩ : ∃ wo : World, wo = wr := ⟨_, rfl⟩
        go_loopw [4] (fun i wr => ∃ k p : Nat, i = .int .i64 k ∧ k ≤ j ∧ Hid (R j k = true) ∧ wo.drewN p = wr) (fun i _ => j - (intOf i).toNat)
        case atStart => exact ⟨0, 0, rfl, Nat.zero_le _, Lib.hid (HR0.out j), rfl⟩
        case round =>
          obtain ⟨k, p, rfl, hk, HRK, hp⟩ := hrel
          by_cases hkl : k < j
          · have hi : Ints wr wr.heap.size (some ⟨b, off, none⟩) xs := by rw [← hp]; exact HI.out
            have hc' : wr.cell? ⟨b, off + j, none⟩ = some (.int .i64 (a : Int)) := by rw [← hp]; exact hc
            obtain ⟨b', off', e', -, hd⟩ := hi.at_ (k := k) (by rw [HX.out]; omega)
            obtain ⟨rfl, rfl⟩ : b = b' ∧ off = off' := by cases e'; exact ⟨rfl, rfl⟩
            obtain ⟨v1, v2⟩ := HTI.out j HF.out k hkl
            have hrk := hrs.out k
            have HRNk := Lib.hid (HRN.out j k hkl)
            generalize xs.getD k 0 = y at *
            obtain ⟨c, rfl⟩ := Int.eq_ofNat_of_zero_le v1
            rw [Int.toNat_natCast, HRK.out, Bool.true_and] at hrk
            have ha32 : a < 4294967296 := by omega
            have hc32 : c < 4294967296 := by omega
            have hand := and_nat10 a c ha32 hc32
            have hor := or_nat10 a c ha32 hc32
            generalize a &&& c = X at *
            generalize a ||| c = Y at *
            have H1 := Lib.hid (fun q => HH.out (wr.drewN q) (X : Int) hi)
            have H2 := Lib.hid (fun q => HH.out (wr.drewN q) (Y : Int) hi)
            have g3 : (0 : Int) ≤ (k : Int) := by omega
            have g4 : (k : Int) < (j : Int) := by omega
            have g5 : (k : Int) < (m : Int) := by omega
            have HP := Lib.hid hp
            clear hi e' hp
            cases e1 : H (X : Int)
            · rw [e1, Bool.false_and] at hrk
              rw [e1] at H1
              have HNO := Lib.hid (show F m = false from HTNj.out (by rw [HTSJ.out]; exact HRNk.out hrk))
              clear hrk e1
              go_wp2
              go_quiet ((go_at_call_of 54 (Value.int .i64 (X : Int)); exact quiet_bool (H1.out _)))
              go_wp2
              go_ret
              exact ⟨by rw [HNO.out]; rfl, by rw [← HP.out, ← HQ.out]; simp only [World.drewN_drewN]; exact below_drewN (Below.refl _ _) _⟩
            · rw [e1, Bool.true_and] at hrk
              rw [e1] at H1
              cases e2 : H (Y : Int)
              · rw [e2] at H2 hrk
                have HNO := Lib.hid (show F m = false from HTNj.out (by rw [HTSJ.out]; exact HRNk.out hrk))
                clear hrk e1 e2
                go_wp2
                go_quiet (first | (go_at_call_of 54 (Value.int .i64 (X : Int)); exact quiet_bool (H1.out _)) | (go_at_call_of 54 (Value.int .i64 (Y : Int)); exact quiet_bool (H2.out _)))
                go_wp2
                go_ret
                exact ⟨by rw [HNO.out]; rfl, by rw [← HP.out, ← HQ.out]; simp only [World.drewN_drewN]; exact below_drewN (Below.refl _ _) _⟩
              · rw [e2] at H2 hrk
                have HRK2 := Lib.hid (show R j (k + 1) = true from hrk)
                clear hrk e1 e2
                go_wp2
                go_quiet (first | (go_at_call_of 54 (Value.int .i64 (X : Int)); exact quiet_bool (H1.out _)) | (go_at_call_of 54 (Value.int .i64 (Y : Int)); exact quiet_bool (H2.out _)))
                go_wp2
                go_roundw
                case rel => exact ⟨k + 1, p + nq, by go_num, by omega, HRK2, by rw [← HP.out]; simp only [World.drewN_drewN]⟩
                case measure => simp [intOf]; omega
          · obtain rfl : k = j := by omega
            have g4 : ¬ (k : Int) < (k : Int) := by omega
            have HT2 := Lib.hid (show F (k + 1) = true by rw [HTSJ.out]; exact HRK.out)
            have HP := Lib.hid hp
            clear hp
            go_wp2
            go_roundw
            case rel => exact ⟨k + 1, q + p, by go_num, by omega, HT2, by rw [← HP.out, ← HQ.out]; simp only [World.drewN_drewN]⟩
            case measure => simp [intOf]; omega
      · have HNO := Lib.hid (show F m = false from HTNj.out (by rw [hts, decide_eq_false hr, Bool.false_and, Bool.and_false]))
        have hr2 : x < 0 ∨ 1023 < x := by omega
        have HR2 := Lib.hid hr2
        clear hts hr hr2
        go_wp2_with (go_at_call 53; refine (in_no _ 0 1023 _ HR2.out).mono ?_; rintro e w' ⟨rfl, rfl⟩)
        go_ret
        exact ⟨by rw [HNO.out]; rfl, by rw [← HQ.out]; exact below_drewN (Below.refl _ _) _⟩
    · obtain rfl : j = m := by omega
      have g2 : ¬ (j : Int) < (j : Int) := by omega
      have HQ := Lib.hid hq
      clear hq
      go_wp2
      go_ret
      exact ⟨by rw [HF.out]; rfl, by rw [← HQ.out]; exact below_drewN (Below.refl _ _) _⟩

theorem latS_any : Calls Try.prog 27 #[.slice A xs.length cap] w (RetV w (.bool (isLat xs))) := by
  unfold isLat
  by_cases hl : xs.length ≤ 64
  · rw [decide_eq_true hl, Bool.true_and]
    exact latS_in A xs cap w h hx hl
  · rw [decide_eq_false hl, Bool.false_and]
    exact latS_len A xs cap w h hx hl

end


end Go.Proofs.Ytlfbgaapigcpjaa.C

namespace Go.Proofs.Ytlfbgaapigcpjaa.C
open Go.RowKit K M
set_option linter.unusedVariables false
set_option linter.unusedSimpArgs false
set_option linter.unusedSectionVars false


section

variable (n : Int) (A : Option Addr) (xs : List Int) (cap : Nat) (a b : Int) (w : World) (h : Hid (Ints w w.heap.size A xs))
include h
theorem btwS_a (q : (isFn n xs && isSet n a) = false) : Calls Try.prog 13 #[.agg #[.int .i64 n, .slice A xs.length cap], .int .i64 a, .int .i64 b] w (RetV w (.tuple #[.int .i64 0, .int .i64 0, .bool false])) := by
  have HW := Lib.hid (St.start w)
  have HS0 := Lib.hid (HW.out.alloc [.int .i64 n, .slice A xs.length cap] 26)
  have HA := Lib.hid (fun W h1 => inS_any n A xs cap a W (Lib.hid h1))
  rw [q] at HA
  clear q
  go_enter Try.func13, Try.ntmps13
  go_wp2_with (go_at_call 42; refine (HA.out _ ((h.out.below HS0.out.base).mono HS0.out.size)).mono ?_; rintro e w3 ⟨rfl, hb⟩; have HS := Lib.hid (HS0.out.below hb); clear hb)
  exact bodyPost_ret (v := .tuple #[.int .i64 0, .int .i64 0, .bool false]) (by simp [results, Try.results13, go_sem]) rfl ⟨rfl, HS.out.base⟩

theorem btwS_b (q : (isFn n xs && isSet n a) = true) (q2 : (isFn n xs && isSet n b) = false) : Calls Try.prog 13 #[.agg #[.int .i64 n, .slice A xs.length cap], .int .i64 a, .int .i64 b] w (RetV w (.tuple #[.int .i64 0, .int .i64 0, .bool false])) := by
  have HW := Lib.hid (St.start w)
  have HS0 := Lib.hid (HW.out.alloc [.int .i64 n, .slice A xs.length cap] 26)
  have HA := Lib.hid (fun W h1 => inS_any n A xs cap a W (Lib.hid h1))
  have HB := Lib.hid (fun W h1 => inS_any n A xs cap b W (Lib.hid h1))
  rw [q] at HA
  rw [q2] at HB
  clear q q2
  go_enter Try.func13, Try.ntmps13
  go_wp2_with fail
  refine (HA.out _ ((h.out.below HS0.out.base).mono HS0.out.size)).mono ?_
  rintro e w3 ⟨rfl, hb⟩
  have hS := HS0.out.below hb
  obtain ⟨b0, -⟩ := hS.box (i := 0) rfl
  have b00 := b0 0 _ rfl
  have b01 := b0 1 _ rfl
  have HS := Lib.hid hS
  clear hb hS b0
  go_wp2_with fail
  refine (HB.out _ ((h.out.below HS.out.base).mono HS.out.size)).mono ?_
  rintro e w4 ⟨rfl, hb⟩
  have HS2 := Lib.hid (HS.out.below hb)
  clear hb
  go_wp2
  exact bodyPost_ret (v := .tuple #[.int .i64 0, .int .i64 0, .bool false]) (by simp [results, Try.results13, go_sem]) rfl ⟨rfl, HS2.out.base⟩

set_option maxRecDepth 100000 in
set_option maxHeartbeats 4000000 in
theorem btwS_in (q : (isFn n xs && isSet n a) = true) (q2 : (isFn n xs && isSet n b) = true) (P Q : Nat) (ha : a = (P : Int)) (hb' : b = (Q : Int)) (hP : P < xs.length) (hQ : Q < xs.length) (h32 : xs.length ≤ 32) :
    Calls Try.prog 13 #[.agg #[.int .i64 n, .slice A xs.length cap], .int .i64 a, .int .i64 b] w (RetV w (.tuple (if P &&& Q = 0 then #[.int .i64 (xs.getD (btwTo xs P Q xs.length) 0), .int .i64 (btwTo xs P Q xs.length : Nat), .bool true] else #[.int .i64 0, .int .i64 0, .bool false]))) := by
  have HW := Lib.hid (St.start w)
  have HS0 := Lib.hid (HW.out.alloc [.int .i64 n, .slice A xs.length cap] 26)
  have HA := Lib.hid (fun W h1 => inS_any n A xs cap a W (Lib.hid h1))
  have HB := Lib.hid (fun W h1 => inS_any n A xs cap b W (Lib.hid h1))
  rw [q] at HA
  rw [q2] at HB
  subst ha hb'
  have hpq := and_nat10 P Q (by omega) (by omega)
  clear q q2
  by_cases hz : P &&& Q = 0
  · rw [hz] at hpq
    rw [if_pos hz]
    have hbe : ((((0 : Nat) : Int)) != (0 : Int)) = false := by decide
    have HBL := Lib.hid (fun s hs => btwTo_lt (xs := xs) (a := P) (b := Q) hP s hs)
    have HB0 := Lib.hid (show btwTo xs P Q 0 = P from rfl)
    have HBS := Lib.hid (fun s => show btwTo xs P Q (s + 1) = if s &&& P = P ∧ s &&& Q = 0 ∧ xs.getD s 0 < xs.getD (btwTo xs P Q s) 0 then s else btwTo xs P Q s from rfl)
    generalize btwTo xs P Q = F at *
    obtain ⟨p, hp⟩ : ∃ p, xs.length = p := ⟨_, rfl⟩
    have HX := Lib.hid hp
    rw [hp] at HA HB HS0 hP hQ h32 HBL ⊢
    clear hp hz
    go_enter Try.func13, Try.ntmps13
    go_wp2_with fail
    refine (HA.out _ ((h.out.below HS0.out.base).mono HS0.out.size)).mono ?_
    rintro e w3 ⟨rfl, hb⟩
    have hS := HS0.out.below hb
    obtain ⟨b0, -⟩ := hS.box (i := 0) rfl
    have b00 := b0 0 _ rfl
    have b01 := b0 1 _ rfl
    have HS := Lib.hid hS
    clear hb hS b0
    go_wp2_with fail
    refine (HB.out _ ((h.out.below HS.out.base).mono HS.out.size)).mono ?_
    rintro e w4 ⟨rfl, hb⟩
    have HS2 := Lib.hid (HS.out.below hb)
    clear hb b00 b01
    go_wp2
    go_loopw [9, 10] (fun v i wr => ∃ s : Nat, i = .int .i64 s ∧ s ≤ p ∧ v = .int .i64 (F s : Nat) ∧ St w wr [bx w.heap.size 26 [.int .i64 n, .slice A p cap]]) (fun _ i _ => p - (intOf i).toNat)
    case atStart => exact ⟨0, rfl, Nat.zero_le _, by rw [HB0.out], HS2.out⟩
    case round =>
      obtain ⟨s, rfl, hs, rfl, hS⟩ := hrel
      obtain ⟨b0, -⟩ := hS.box (i := 0) rfl
      have d00 := b0 0 _ rfl
      have d01 := b0 1 _ rfl
      have hfl := HBL.out s hs
      obtain ⟨r, ro, rfl, hrl, hc2⟩ := (h.out.below hS.base).at_ (k := F s) (by rw [HX.out]; exact hfl)
      have HR := Lib.hid hS
      have k1 : (0 : Int) ≤ (F s : Int) := by omega
      have k2 : (F s : Int) < (p : Int) := by omega
      by_cases hlt : s < p
      · obtain ⟨r', ro', e', -, hc1⟩ := (h.out.below hS.base).at_ (k := s) (by rw [HX.out]; exact hlt)
        obtain ⟨rfl, rfl⟩ : r = r' ∧ ro = ro' := by cases e'; exact ⟨rfl, rfl⟩
        have hst := HBS.out s
        have n1 := and_nat10 s P (by omega) (by omega)
        have n2 := and_nat10 s Q (by omega) (by omega)
        have g1 : (0 : Int) ≤ (s : Int) := by omega
        have g2 : (s : Int) < (p : Int) := by omega
        generalize hF : F s = f at *
        generalize xs.getD s 0 = x at *
        generalize xs.getD f 0 = y at *
        generalize hz : F (s + 1) = z at *
        generalize s &&& P = u at *
        generalize s &&& Q = v at *
        have HZ := Lib.hid hz
        clear hS b0 e' hz hF
        by_cases c1 : u = P
        · have e1 : ((u : Int) == (P : Int)) = true := beq_iff_eq.2 (by omega)
          by_cases c2 : v = 0
          · have e2 : ((v : Int) == (0 : Int)) = true := beq_iff_eq.2 (by omega)
            by_cases c3 : x < y
            · obtain rfl : z = s := by rw [hst, if_pos ⟨c1, c2, c3⟩]
              clear hst c1 c2
              go_wp2
              go_quiet (fail)
              go_wp2
              go_roundw
              case rel => exact ⟨z + 1, by go_num, by omega, by rw [HZ.out], HR.out.drewN _⟩
              case measure => simp [intOf]; omega
            · obtain rfl : z = f := by rw [hst, if_neg (fun hh => c3 hh.2.2)]
              clear hst c1 c2
              go_wp2
              go_quiet (fail)
              go_wp2
              go_roundw
              case rel => exact ⟨s + 1, by go_num, by omega, by rw [HZ.out], HR.out.drewN _⟩
              case measure => simp [intOf]; omega
          · have e2 : ((v : Int) == (0 : Int)) = false := beq_eq_false_iff_ne.2 (by omega)
            obtain rfl : z = f := by rw [hst, if_neg (fun hh => c2 hh.2.1)]
            clear hst c1 c2
            go_wp2
            go_quiet (fail)
            go_wp2
            go_roundw
            case rel => exact ⟨s + 1, by go_num, by omega, by rw [HZ.out], HR.out.drewN _⟩
            case measure => simp [intOf]; omega
        · have e1 : ((u : Int) == (P : Int)) = false := beq_eq_false_iff_ne.2 (by omega)
          obtain rfl : z = f := by rw [hst, if_neg (fun hh => c1 hh.1)]
          clear hst c1
          go_wp2
          go_quiet (fail)
          go_wp2
          go_roundw
          case rel => exact ⟨s + 1, by go_num, by omega, by rw [HZ.out], HR.out.drewN _⟩
          case measure => simp [intOf]; omega
      · obtain rfl : s = p := by omega
        have g2 : ¬ (s : Int) < (s : Int) := by omega
        generalize xs.getD (F s) 0 = y at *
        generalize F s = f at *
        clear hS b0
        go_wp2
        exact bodyPost_ret (v := .tuple #[.int .i64 y, .int .i64 (f : Nat), .bool true]) (by simp [results, Try.results13, go_sem]) rfl ⟨rfl, HR.out.base⟩
  · rw [if_neg hz]
    generalize P &&& Q = Z at *
    have hbe : ((Z : Int) != (0 : Int)) = true := bne_iff_ne.2 (by omega)
    go_enter Try.func13, Try.ntmps13
    go_wp2_with fail
    refine (HA.out _ ((h.out.below HS0.out.base).mono HS0.out.size)).mono ?_
    rintro e w3 ⟨rfl, hb⟩
    have hS := HS0.out.below hb
    obtain ⟨b0, -⟩ := hS.box (i := 0) rfl
    have b00 := b0 0 _ rfl
    have b01 := b0 1 _ rfl
    have HS := Lib.hid hS
    clear hb hS b0
    go_wp2_with fail
    refine (HB.out _ ((h.out.below HS.out.base).mono HS.out.size)).mono ?_
    rintro e w4 ⟨rfl, hb⟩
    have HS2 := Lib.hid (HS.out.below hb)
    clear hb
    go_wp2
    exact bodyPost_ret (v := .tuple #[.int .i64 0, .int .i64 0, .bool false]) (by simp [results, Try.results13, go_sem]) rfl ⟨rfl, HS2.out.base⟩

theorem btwS_any : Calls Try.prog 13 #[.agg #[.int .i64 n, .slice A xs.length cap], .int .i64 a, .int .i64 b] w (RetV w (.tuple #[.int .i64 (between n xs a b).1, .int .i64 (between n xs a b).2.1, .bool (between n xs a b).2.2])) := by
  unfold between
  cases hf : isFn n xs
  · rw [if_neg (fun hh => by simp at hh)]
    exact btwS_a n A xs cap a b w h (by rw [hf]; rfl)
  · cases ha : isSet n a
    · rw [if_neg (fun hh => by simp at hh)]
      exact btwS_a n A xs cap a b w h (by rw [hf, ha]; rfl)
    · cases hb : isSet n b
      · rw [if_neg (fun hh => by simp at hh)]
        exact btwS_b n A xs cap a b w h (by rw [hf, ha]; rfl) (by rw [hf, hb]; rfl)
      · obtain ⟨a1, a2⟩ := isSet_yes ha
        obtain ⟨b1, b2⟩ := isSet_yes hb
        obtain ⟨n0, -, hl, -⟩ := isFn_yes hf
        obtain ⟨P, rfl⟩ := Int.eq_ofNat_of_zero_le a1
        obtain ⟨Q, rfl⟩ := Int.eq_ofNat_of_zero_le b1
        have e : ((2 ^ n.toNat : Nat) : Int) = (2 : Int) ^ n.toNat := by simp
        have key := btwS_in n A xs cap (P : Int) (Q : Int) w h (by rw [hf, ha]; rfl) (by rw [hf, hb]; rfl) P Q rfl rfl (by omega) (by omega) (isFn_len hf).2
        rw [Int.toNat_natCast, Int.toNat_natCast]
        by_cases hz : P &&& Q = 0
        · rw [if_pos hz] at key
          rw [if_pos ⟨rfl, rfl, rfl, hz⟩]
          exact key
        · rw [if_neg hz] at key
          rw [if_neg (fun hh => hz hh.2.2.2)]
          exact key

end


end Go.Proofs.Ytlfbgaapigcpjaa.C
