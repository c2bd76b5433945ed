/-
  The contracts of impl.LeastMinimizer and GreatestMinimizer.
-/
import Derived.Test.YtffbiflgmlabaaaGreatDoorLsI
import Derived.Test.YtffbiflgmlabaaaGreatDoorMiT
import Derived.Test.YtffbiflgmlabaaaGreatDoorSubI
import Derived.Test.YtffbiflgmlabaaaGreatDoorImB
namespace Go.Proofs.YtffbiflgmlabaaaGreatDoor.C
open Go.RowKit K M
set_option linter.unusedVariables false
set_option linter.unusedSimpArgs false
set_option linter.unusedSectionVars false

theorem mset_nat {xs : List Int} {j : Nat} {x : Int} (h : mset xs j x = true) : ∃ s : Nat, x = s ∧ s < j := by
  simp only [mset, decide_eq_true_eq] at h
  exact ⟨x.toNat, by omega, h.2.1⟩

section

variable (n : Int) (A : Option Addr) (xs : List Int) (cap : Nat) (w : World) (h : Hid (Ints w w.heap.size A xs))
include h

set_option maxRecDepth 100000 in
set_option maxHeartbeats 1600000 in
theorem lminI_any : Calls Tryz.prog 22 #[.agg #[.int .i64 n, .slice A xs.length cap]] w (RetV w (.tuple #[.int .i64 (leastMin n xs).1, .bool (leastMin n xs).2])) := by
  have HW := Lib.hid (St.start w)
  have HS0 := Lib.hid (HW.out.alloc [.int .i64 n, .slice A xs.length cap] 26)
  unfold leastMin
  cases hf : isSub n xs
  · have HF := Lib.hid (fun W h1 => subI_any n A xs cap W (Lib.hid h1))
    rw [hf] at HF
    clear hf
    go_enter Tryz.func22, Tryz.ntmps22
    go_wp2_with (go_at_call 8; refine (HF.out _ ((h.out.below HS0.out.base).mono HS0.out.size)).mono ?_; rintro e w3 ⟨rfl, hb⟩; have HS := Lib.hid (HS0.out.below hb); clear hb)
    go_ret2
    exact ⟨rfl, HS.out.base⟩
  · have HF := Lib.hid (fun W h1 => subI_any n A xs cap W (Lib.hid h1))
    rw [hf] at HF
    have hx := isFn_len (sub_fn hf)
    obtain ⟨n0, n5, hl, -⟩ := isFn_yes (sub_fn hf)
    obtain ⟨N, rfl⟩ := Int.eq_ofNat_of_zero_le n0
    rw [Int.toNat_natCast] at hl
    have HL := Lib.hid (fun W h1 => leastSets_any N A xs cap W (Lib.hid h1) (by omega) hx.2)
    have hF32 : 2 ^ N - 1 < 32 := by omega
    have HK := Lib.hid (fun W => compl_any 0 N W (by omega) (by omega))
    rw [Nat.zero_xor] at HK
    have HE := Lib.hid (fun a left => and_end (xs := xs) (N := N) (a := a) (left := left) hl)
    have HT := Lib.hid (fun x => mset_nat (xs := xs) (j := xs.length) (x := x))
    have hx32 := hx.2
    rw [if_pos rfl]
    generalize andTo (args xs) ((args xs).length - 1) = R at *
    generalize least xs = y at *
    generalize mset xs xs.length = T at *
    generalize 2 ^ N - 1 = F at *
    clear hf hx hl n0 n5
    go_enter Tryz.func22, Tryz.ntmps22
    go_wp2_with (first
      | (go_at_call 8; refine (HF.out _ ((h.out.below HS0.out.base).mono HS0.out.size)).mono ?_; rintro e w3 ⟨rfl, hb⟩; have hS := HS0.out.below hb; obtain ⟨b0, -⟩ := hS.box (i := 0) rfl; have b00 := b0 0 _ rfl; have b01 := b0 1 _ rfl; have HS := Lib.hid hS; clear hb hS b0)
      | (go_at_call 41; refine (HK.out _).mono ?_; rintro e w' ⟨rfl, rfl⟩)
      | (go_at_call 46; refine (HL.out _ ((h.out.below HS.out.base).mono HS.out.size)).mono ?_; rintro e w4 ⟨b, rfl, hb, hlb, hM⟩; have HS2 := Lib.hid (HS.out.below hb); have HB := Lib.hid (Nat.le_trans HS.out.size hlb); have HN : Hid (w.heap.size < b) := Lib.hid (Nat.lt_of_lt_of_le (HS.out.lt (i := 0) rfl).2 hlb); have HM := Lib.hid hM; clear hb hlb hM)
      | (at_range; refine wpList_rangeS _ rfl _ rfl Tryz.underlying45 Tryz.underlying56 HM.out rfl ?_; intro w5 cnt hcn hR5 hg5 hs5; have HS5 := Lib.hid (HS2.out.below (below_of_grown hg5)); have HR5 := Lib.hid hR5; clear hcn hR5 hg5 hs5))
    have hr0 : w.heap.size < w4.heap.size := (HS2.out.lt (i := 0) rfl).2
    obtain ⟨r, hr⟩ : ∃ r, w4.heap.size = r := ⟨_, rfl⟩
    rw [hr] at HR5 hr0 ⊢
    clear hr b00 b01
    go_frame
    go_loopw [4] (fun v wr => ∃ (a : Nat) (left : Int → Bool) (cnt : Nat), v = .int .i64 a ∧ AndIs F T left a ∧ St w wr [K.bx w.heap.size 26 [.int .i64 (N : Int), .slice A xs.length cap]] ∧ RngS Tryz.prog 45 wr b r 32 T left cnt) (fun _ wr => wr.rangeLeft b r)
    case atStart => exact ⟨F, T, cnt, rfl, and_start F T, HS5.out, HR5.out⟩
    case round =>
      obtain ⟨a, left, cnt1, rfl, hA, hS, hR⟩ := hrel
      have HA := Lib.hid hA
      have HSr := Lib.hid hS
      have HRr := Lib.hid hR
      have ha32 := and_lt32 hA hF32
      clear hA hS hR
      go_wp2_with (at_next; refine wpList_nextS _ rfl _ rfl Tryz.underlying45 rfl HRr.out ?_ ?_)
      · intro hl0
        have HEE := Lib.hid (HE.out a left HA.out hl0)
        clear hl0
        go_wp2
        rw [HEE.out]
        go_ret2
        exact ⟨rfl, HSr.out.base⟩
      · intro x w6 cnt2 hlx hTx hR6 hlt hg6 hs6 hen
        obtain ⟨s, rfl, hs⟩ := HT.out x hTx
        have hA6 := and_step HA.out hTx
        have hS6 := HSr.out.grown hg6 (Nat.le_of_lt hr0) (fun q hm => by rw [List.mem_singleton] at hm; subst hm; exact far_box (by omega))
        have hand := and_nat10 a s (by omega) (by omega)
        have HA6 := Lib.hid hA6
        have HS6 := Lib.hid hS6
        have HR6 := Lib.hid hR6
        clear hlx hTx hA6 hS6 hR6 hg6 hs6
        generalize a &&& s = a2 at *
        go_wp2
        go_roundw
        case rel => exact ⟨a2, _, cnt2, rfl, HA6.out, HS6.out, HR6.out⟩
        case measure => rw [HR6.out.left_eq, HRr.out.left_eq]; omega

set_option maxRecDepth 100000 in
set_option maxHeartbeats 1600000 in
theorem gminI_any : Calls Tryz.prog 23 #[.agg #[.int .i64 n, .slice A xs.length cap]] w (RetV w (.tuple #[.int .i64 (greatMin n xs).1, .bool (greatMin n xs).2])) := by
  have HW := Lib.hid (St.start w)
  have HS0 := Lib.hid (HW.out.alloc [.int .i64 n, .slice A xs.length cap] 26)
  unfold greatMin
  cases hf : isSub n xs
  · have HF := Lib.hid (fun W h1 => subI_any n A xs cap W (Lib.hid h1))
    rw [hf] at HF
    clear hf
    go_enter Tryz.func23, Tryz.ntmps23
    go_wp2_with (go_at_call 8; refine (HF.out _ ((h.out.below HS0.out.base).mono HS0.out.size)).mono ?_; rintro e w3 ⟨rfl, hb⟩; have HS := Lib.hid (HS0.out.below hb); clear hb)
    go_ret2
    exact ⟨rfl, HS.out.base⟩
  · have HF := Lib.hid (fun W h1 => subI_any n A xs cap W (Lib.hid h1))
    rw [hf] at HF
    have hx := isFn_len (sub_fn hf)
    obtain ⟨n0, n5, hl, -⟩ := isFn_yes (sub_fn hf)
    obtain ⟨N, rfl⟩ := Int.eq_ofNat_of_zero_le n0
    rw [Int.toNat_natCast] at hl
    have HL := Lib.hid (fun W h1 => leastSets_any N A xs cap W (Lib.hid h1) (by omega) hx.2)
    have HE := Lib.hid (fun a left => or_end (xs := xs) (a := a) (left := left))
    have HT := Lib.hid (fun x => mset_nat (xs := xs) (j := xs.length) (x := x))
    have hx32 := hx.2
    rw [if_pos rfl]
    have hT32 : ∀ s : Nat, mset xs xs.length s = true → s < 32 := fun s hs => by obtain ⟨t, e, ht⟩ := mset_nat hs; omega
    generalize orTo (args xs) (args xs).length = R at *
    generalize least xs = y at *
    generalize mset xs xs.length = T at *
    have HT32 := Lib.hid hT32
    clear hT32
    clear hf hx hl n0 n5
    go_enter Tryz.func23, Tryz.ntmps23
    go_wp2_with (first
      | (go_at_call 8; refine (HF.out _ ((h.out.below HS0.out.base).mono HS0.out.size)).mono ?_; rintro e w3 ⟨rfl, hb⟩; have hS := HS0.out.below hb; obtain ⟨b0, -⟩ := hS.box (i := 0) rfl; have b00 := b0 0 _ rfl; have b01 := b0 1 _ rfl; have HS := Lib.hid hS; clear hb hS b0)
      | (go_at_call 46; refine (HL.out _ ((h.out.below HS.out.base).mono HS.out.size)).mono ?_; rintro e w4 ⟨b, rfl, hb, hlb, hM⟩; have HS2 := Lib.hid (HS.out.below hb); have HB := Lib.hid (Nat.le_trans HS.out.size hlb); have HN : Hid (w.heap.size < b) := Lib.hid (Nat.lt_of_lt_of_le (HS.out.lt (i := 0) rfl).2 hlb); have HM := Lib.hid hM; clear hb hlb hM)
      | (at_range; refine wpList_rangeS _ rfl _ rfl Tryz.underlying45 Tryz.underlying56 HM.out rfl ?_; intro w5 cnt hcn hR5 hg5 hs5; have HS5 := Lib.hid (HS2.out.below (below_of_grown hg5)); have HR5 := Lib.hid hR5; clear hcn hR5 hg5 hs5))
    have hr0 : w.heap.size < w4.heap.size := (HS2.out.lt (i := 0) rfl).2
    obtain ⟨r, hr⟩ : ∃ r, w4.heap.size = r := ⟨_, rfl⟩
    rw [hr] at HR5 hr0 ⊢
    clear hr b00 b01
    go_frame
    go_loopw [4] (fun v wr => ∃ (a : Nat) (left : Int → Bool) (cnt : Nat), v = .int .i64 a ∧ OrIs T left a ∧ St w wr [K.bx w.heap.size 26 [.int .i64 (N : Int), .slice A xs.length cap]] ∧ RngS Tryz.prog 45 wr b r 32 T left cnt) (fun _ wr => wr.rangeLeft b r)
    case atStart => exact ⟨0, T, cnt, rfl, or_start T, HS5.out, HR5.out⟩
    case round =>
      obtain ⟨a, left, cnt1, rfl, hA, hS, hR⟩ := hrel
      have HA := Lib.hid hA
      have HSr := Lib.hid hS
      have HRr := Lib.hid hR
      have ha32 := or_lt32 hA HT32.out
      clear hA hS hR
      go_wp2_with (at_next; refine wpList_nextS _ rfl _ rfl Tryz.underlying45 rfl HRr.out ?_ ?_)
      · intro hl0
        have HEE := Lib.hid (HE.out a left HA.out hl0)
        clear hl0
        go_wp2
        rw [HEE.out]
        go_ret2
        exact ⟨rfl, HSr.out.base⟩
      · intro x w6 cnt2 hlx hTx hR6 hlt hg6 hs6 hen
        obtain ⟨s, rfl, hs⟩ := HT.out x hTx
        have hA6 := or_step HA.out hTx
        have hS6 := HSr.out.grown hg6 (Nat.le_of_lt hr0) (fun q hm => by rw [List.mem_singleton] at hm; subst hm; exact far_box (by omega))
        have hand := or_nat10 a s (by omega) (by omega)
        have HA6 := Lib.hid hA6
        have HS6 := Lib.hid hS6
        have HR6 := Lib.hid hR6
        clear hlx hTx hA6 hS6 hR6 hg6 hs6
        generalize a ||| s = a2 at *
        go_wp2
        go_roundw
        case rel => exact ⟨a2, _, cnt2, rfl, HA6.out, HS6.out, HR6.out⟩
        case measure => rw [HR6.out.left_eq, HRr.out.left_eq]; omega

end


end Go.Proofs.YtffbiflgmlabaaaGreatDoor.C
