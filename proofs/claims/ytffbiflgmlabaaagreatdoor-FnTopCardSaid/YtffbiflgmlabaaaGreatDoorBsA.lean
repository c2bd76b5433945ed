/-
  The contracts of spec.l8Perm, l8Corner and CornerOf.
  The contract of spec.l8Orders.
  The contract of spec.CornersOf.
-/
import Derived.Test.YtffbiflgmlabaaaGreatDoorBsS
import Derived.Test.YtffbiflgmlabaaaGreatDoorExA
import Derived.StillTailTactics
import Derived.Test.YtffbiflgmlabaaaGreatDoorLolA
import Derived.Test.YtffbiflgmlabaaaGreatDoorSub
import Derived.Test.YtffbiflgmlabaaaGreatDoorBase
namespace Go.Proofs.YtffbiflgmlabaaaGreatDoor.C
open Go.RowKit K M
set_option linter.unusedVariables false
set_option linter.unusedSimpArgs false
set_option linter.unusedSectionVars false

set_option maxRecDepth 100000 in
set_option maxHeartbeats 3200000 in
theorem permS_any (N : Nat) (A : Option Addr) (p : List Int) (cap : Nat) (w : World) (h : Hid (Ints w w.heap.size A p)) (hl : p.length ≤ 1048576) (h5 : N ≤ 5) :
    Calls Tryz.prog 101 #[.slice A p.length cap, .int .i64 N] w fun e w' => e = .returned (.bool (isPerm N p)) ∧ w = w' := by
  unfold isPerm
  have HNO := Lib.hid (fun j hb m hm => perm_no (n := (N : Int)) (p := p) (j := j) hb m hm)
  have HST := Lib.hid (fun i => (by rfl : permTo (N : Int) p (i + 1) = (permTo (N : Int) p i && (decide (0 ≤ p.getD i 0 ∧ p.getD i 0 ≤ (N : Int) - 1) && !(seenTo p i).testBit (p.getD i 0).toNat))))
  have HSE := Lib.hid (fun i => (by rfl : seenTo p (i + 1) = seenTo p i ||| 2 ^ (p.getD i 0).toNat))
  have HLT := Lib.hid (fun m hm => Nat.lt_of_lt_of_le (seen_lt (N := N) (p := p) m hm) (Nat.le_trans (Nat.pow_le_pow_right (by decide) h5) (show 2 ^ 5 ≤ 32 by decide)))
  have HAT := Lib.hid (fun m hm => perm_at (n := (N : Int)) (p := p) m hm)
  have hw : IntKind.i64.wrap ((N : Int) - 1) = (N : Int) - 1 := IntWalk.i64_in _ (by omega)
  obtain ⟨m, hm⟩ : ∃ m, p.length = m := ⟨_, rfl⟩
  have HX := Lib.hid hm
  rw [hm] at hl ⊢
  clear hm
  go_enter Tryz.func101, Tryz.ntmps101
  go_wp2
  go_loop [5, 6] (fun s i => ∃ k : Nat, k ≤ m ∧ i = .int .i64 k ∧ s = .int .i64 (seenTo p k) ∧ permTo (N : Int) p k = true) (fun _ i => m - (intOf i).toNat)
  case atStart => exact ⟨0, Nat.zero_le _, rfl, rfl, rfl⟩
  case round =>
    obtain ⟨k, hk, rfl, rfl, hok⟩ := hrel
    by_cases hlt : k < m
    · obtain ⟨b, off, rfl, hbl, hc⟩ := h.out.at_ (k := k) (by rw [HX.out]; omega)
      have hk0 : (0 : Int) ≤ (k : Int) := by omega
      have hkn : (k : Int) < (m : Int) := by omega
      have hs32 := HLT.out k (fun i hi => (HAT.out k hok i hi).1)
      have hno := fun hb => HNO.out k hb m hlt
      have hst := HST.out k
      have hse := HSE.out k
      rw [hok, Bool.true_and] at hst
      generalize p.getD k 0 = x at hc hno hst hse
      generalize seenTo p k = S at hs32 hno hst hse ⊢
      by_cases hx : 0 ≤ x ∧ x ≤ (N : Int) - 1
      · obtain ⟨E, rfl⟩ := Int.eq_ofNat_of_zero_le hx.1
        rw [Int.toNat_natCast] at hno hst hse
        have hbit := bit_val S E (by omega)
        have hor := or_nat S E (by omega) (by omega)
        have hE : (E : Int) < 64 := by omega
        have hE0 : (0 : Int) ≤ (E : Int) := by omega
        cases ht : S.testBit E
        · rw [ht, decide_eq_true hx] at hst
          rw [if_neg (by rw [ht]; decide)] at hbit
          have HT := Lib.hid hst
          have HE := Lib.hid hse
          clear hst hse hno hok ht
          go_wp2_with (go_at_call 32; refine (in_yes _ 0 ((N : Int) - 1) _ hx.1 hx.2).mono ?_; rintro e w' ⟨rfl, rfl⟩)
          go_round
          case rel => exact ⟨k + 1, by omega, by go_num, by rw [HE.out], by rw [HT.out]; rfl⟩
          case measure => simp [intOf]; omega
        · have HQ := Lib.hid (hno (.inr ht))
          rw [if_pos ht] at hbit
          clear hst hse hno hok ht
          go_wp2_with (go_at_call 32; refine (in_yes _ 0 ((N : Int) - 1) _ hx.1 hx.2).mono ?_; rintro e w' ⟨rfl, rfl⟩)
          go_ret
          exact ⟨by rw [HQ.out]; rfl, rfl⟩
      · have HQ := Lib.hid (hno (.inl hx))
        have HX2 := Lib.hid (show x < 0 ∨ (N : Int) - 1 < x by omega)
        clear hst hse hno hok hx
        go_wp2_with (go_at_call 32; refine (in_no _ 0 ((N : Int) - 1) _ HX2.out).mono ?_; rintro e w' ⟨rfl, rfl⟩)
        go_ret
        exact ⟨by rw [HQ.out]; rfl, rfl⟩
    · obtain rfl : k = m := by omega
      have hkn : ¬ (k : Int) < (k : Int) := by omega
      have HQ := Lib.hid hok
      clear hok
      go_wp2
      go_ret
      exact ⟨by rw [HQ.out]; rfl, rfl⟩

set_option maxRecDepth 100000 in
set_option maxHeartbeats 6400000 in
theorem l8cornerS_any (N : Nat) (A : Option Addr) (xs : List Int) (cap : Nat) (D : Option Addr) (p : List Int) (dap : Nat) (w : World) (h : Hid (Ints w w.heap.size A xs)) (g : Hid (Ints w w.heap.size D p)) (hl : p.length ≤ 1048576) (hf : isFn (N : Int) xs = true) (hp : permTo (N : Int) p p.length = true) :
    Calls Tryz.prog 38 #[.agg #[.int .i64 N, .slice A xs.length cap], .slice D p.length dap] w (RetI w (cornerTo xs N p p.length)) := by
  obtain ⟨-, h5, hxl, hxv⟩ := isFn_yes hf
  rw [Int.toNat_natCast] at hxl
  have h32 := (isFn_len hf).2
  have hat := perm_at (n := (N : Int)) (p := p) p.length hp
  have hlt := fun m (hm : m ≤ p.length) => seen_lt (N := N) (p := p) m fun i hi => (hat i (by omega)).1
  rw [← hxl] at hlt
  have HW := Lib.hid (St.start w)
  have HAT := Lib.hid (fun i hi => (hat i hi).1)
  have HLT := Lib.hid hlt
  have HXV := Lib.hid hxv
  have HST := Lib.hid (fun i => (by rfl : cornerTo xs N p (i + 1) = (cornerTo xs N p i).set (p.getD i 0).toNat (xs.getD (seenTo p (i + 1)) 0 - xs.getD (seenTo p i) 0)))
  have HSE := Lib.hid (fun i => (by rfl : seenTo p (i + 1) = seenTo p i ||| 2 ^ (p.getD i 0).toNat))
  have HCL := Lib.hid (cornerTo_len xs N p)
  have hz : cornerTo xs N p 0 = List.replicate N 0 := rfl
  have hs0 : seenTo p 0 = 0 := rfl
  generalize cornerTo xs N p = f at *
  obtain ⟨q, hq⟩ : ∃ q, xs.length = q := ⟨_, rfl⟩
  obtain ⟨m, hm⟩ : ∃ m, p.length = m := ⟨_, rfl⟩
  have HQ := Lib.hid hq
  have HM := Lib.hid hm
  rw [hq] at h32 HLT HXV ⊢
  rw [hm] at hl HAT HLT ⊢
  clear hf hp hxl hxv hat hlt hq hm
  obtain ⟨i0, hi, hi0, hi1, hi2⟩ := info_parts info_int
  go_enter Tryz.func38, Tryz.ntmps38
  go_wp2_with (refine wpList_make_full _ rfl _ _ _ rfl (w.heap.size + 1) 3 i0 (.int .i64 0) 1 Tryz.underlying24 hi hi0 hi1 .i64 .i64 _ _ N rfl rfl (by simp) (by simp) (by rw [hi2]; omega) (by unfold maxLen; omega) (by simp) ?_; intro w1 hown1 hg1)
  rw [zeros] at hown1
  simp only [World.size_alloc] at hown1
  have HS1 := Lib.hid (show St w w1 [il (.slice (some ⟨w.heap.size + 1, 0, none⟩) N N) N (List.replicate N 0), bx w.heap.size 26 [.int .i64 N, .slice A q cap]] from ((HW.out.alloc _ _).new ((Below.refl _ _).grown hg1 (Nat.le_refl _) (by simp)) (by rw [World.size_alloc]; exact hown1)))
  clear hown1 hg1
  go_loopw [6, 7, 8] (fun s i t wr => ∃ k : Nat, i = .int .i64 k ∧ k ≤ m ∧ s = .int .i64 (seenTo p k) ∧ St w wr [il (.slice (some ⟨w.heap.size + 1, 0, none⟩) N N) N (f k), bx w.heap.size 26 [.int .i64 N, .slice A q cap]]) (fun _ i _ _ => m - (intOf i).toNat)
  case atStart => exact ⟨0, rfl, Nat.zero_le _, by rw [hs0]; rfl, by rw [hz]; exact HS1.out⟩
  case round =>
    obtain ⟨k, rfl, hk, rfl, hS⟩ := hrel
    obtain ⟨b0, -⟩ := hS.box (i := 1) rfl
    have d00 := b0 0 _ rfl
    have d01 := b0 1 _ rfl
    clear b0 HS1 hz hs0
    by_cases hkm : k < m
    · have hk0 : (0 : Int) ≤ (k : Int) := by omega
      have hkn : (k : Int) < (m : Int) := by omega
      obtain ⟨r, ro, rfl, hrl, hd⟩ := (g.out.below hS.base).at_ (k := k) (by rw [HM.out]; omega)
      have hp := HAT.out k hkm
      have hst := HST.out k
      have hse := HSE.out k
      have hs1 := HLT.out k (by omega)
      have hs2 := HLT.out (k + 1) (by omega)
      obtain ⟨b, off, rfl, hbl, hc1⟩ := (h.out.below hS.base).at_ (k := seenTo p k) (by rw [HQ.out]; omega)
      obtain ⟨b', off', e', -, hc2⟩ := (h.out.below hS.base).at_ (k := seenTo p (k + 1)) (by rw [HQ.out]; omega)
      obtain ⟨rfl, rfl⟩ : b = b' ∧ off = off' := by cases e'; exact ⟨rfl, rfl⟩
      have v1 := HXV.out _ hs1
      have v2 := HXV.out _ hs2
      generalize p.getD k 0 = x at hd hp hst hse
      obtain ⟨E, rfl⟩ := Int.eq_ofNat_of_zero_le hp.1
      rw [Int.toNat_natCast] at hst hse
      have hEN : E < N := by omega
      have hor := or_nat (seenTo p k) E (by omega) (by omega)
      rw [← hse] at hor
      obtain ⟨c1, c2⟩ := hS.cellI (i := 0) rfl hEN
      generalize hT : seenTo p (k + 1) = T at *
      generalize seenTo p k = S at *
      generalize xs.getD T 0 = u at *
      generalize xs.getD S 0 = v at *
      have hw1 : IntKind.i64.wrap (u - v) = u - v := IntWalk.i64_in _ (by omega)
      have hE64 : (E : Int) < 64 := by omega
      have hE0 : (0 : Int) ≤ (E : Int) := by omega
      have hENi : (E : Int) < (N : Int) := by omega
      have hS0 : (0 : Int) ≤ (S : Int) := by omega
      have hSq : (S : Int) < (q : Int) := by omega
      have hT0 : (0 : Int) ≤ (T : Int) := by omega
      have hTq : (T : Int) < (q : Int) := by omega
      have HF := Lib.hid hst
      have HT := Lib.hid hT
      have HR := Lib.hid hS
      clear hS hst hse e' hT
      go_wp2
      go_still_tail 17, (by kernel_rfl)
      change wpList _ _ _ _ _ wr.drew
      generalize hwd : wr.drew = wd
      have k1 : wd.cell? ⟨w.heap.size + 1, E, none⟩ = some (.int .i64 ((f k).getD E 0)) := by rw [← hwd]; exact c1
      have k2 : wd.frozen? ⟨w.heap.size + 1, E, none⟩ = false := by rw [← hwd]; exact c2
      have HR2 := Lib.hid (show St w wd _ from hwd ▸ HR.out.drew)
      clear hwd
      go_wp2
      go_roundw
      case rel => exact ⟨k + 1, by go_num, by omega, by rw [HT.out], by rw [HF.out]; exact HR2.out.setI (i := 0) rfl E _⟩
      case measure => simp [intOf]; omega
    · obtain rfl : k = m := by omega
      have hkn : ¬ (k : Int) < (k : Int) := by omega
      have HR := Lib.hid hS
      clear hS
      go_wp2
      go_ret
      have hln : (f k).length = N := HCL.out k
      exact ⟨_, _, by rw [hln]; rfl, by rw [hln]; exact HR.out.ownI (i := 0) rfl, HR.out.base⟩


section

variable (n : Int) (A : Option Addr) (xs : List Int) (cap : Nat) (D : Option Addr) (p : List Int) (dap : Nat) (w : World) (h : Hid (Ints w w.heap.size A xs)) (g : Hid (Ints w w.heap.size D p)) (hl : p.length ≤ 1048576)
include h g hl
set_option maxRecDepth 100000 in
set_option maxHeartbeats 1600000 in
theorem cornerS_any : Calls Tryz.prog 73 #[.agg #[.int .i64 n, .slice A xs.length cap], .slice D p.length dap] w (RetIB w (cornerOf n xs p).1 (cornerOf n xs p).2) := by
  have HW := Lib.hid (St.start w)
  have HG := Lib.hid (fun W h1 => groundS_any n A xs cap W (Lib.hid h1))
  unfold cornerOf
  cases q1 : isGround n xs
  · rw [q1] at HG
    rw [if_neg (by simp)]
    clear q1
    go_enter Tryz.func73, Tryz.ntmps73
    go_wp2_with fail
    refine St.use (w0 := w) (by exact HW.out.alloc _ _) ?_
    intro hS
    refine (HG.out _ ((h.out.below hS.base).mono hS.size)).mono ?_
    rintro e w1 ⟨rfl, hb⟩
    have HS := Lib.hid (hS.below hb)
    clear hS hb
    go_wp2
    go_ret2
    have hZ := HS.out.empty
    exact ⟨_, _, rfl, hZ.ownI (i := 0) rfl, hZ.base⟩
  · obtain ⟨n0, n5, -, -⟩ := isFn_yes (ground_fn q1)
    obtain ⟨N, rfl⟩ := Int.eq_ofNat_of_zero_le n0
    have HP := Lib.hid (fun W h1 => permS_any N D p dap W (Lib.hid h1) hl (by omega))
    have HC := Lib.hid (fun hp W h1 h2 => l8cornerS_any N A xs cap D p dap W (Lib.hid h1) (Lib.hid h2) hl (ground_fn q1) hp)
    rw [q1] at HG
    cases q2 : isPerm (N : Int) p
    · rw [q2] at HP
      rw [if_neg (by simp)]
      clear q1 q2 HC
      go_enter Tryz.func73, Tryz.ntmps73
      go_wp2_with fail
      refine St.use (w0 := w) (by exact HW.out.alloc _ _) ?_
      intro hS
      refine (HG.out _ ((h.out.below hS.base).mono hS.size)).mono ?_
      rintro e w1 ⟨rfl, hb⟩
      have hS1 := hS.below hb
      obtain ⟨b0, -⟩ := hS1.box (i := 0) rfl
      have b00 := b0 0 _ rfl
      have HS := Lib.hid hS1
      clear hS hb b0 hS1
      go_wp2_with (go_at_call 101; refine (HP.out _ ((g.out.below HS.out.base).mono HS.out.size)).mono ?_; rintro e w2 ⟨rfl, rfl⟩)
      go_ret2
      have hZ := HS.out.empty
      exact ⟨_, _, rfl, hZ.ownI (i := 0) rfl, hZ.base⟩
    · rw [q2] at HP
      rw [if_pos ⟨rfl, rfl⟩, Int.toNat_natCast]
      have hp : permTo (N : Int) p p.length = true := by
        unfold isPerm at q2
        rw [Bool.and_eq_true] at q2
        exact q2.1
      have HC2 := Lib.hid (HC.out hp)
      generalize cornerTo xs N p p.length = f at HC2 ⊢
      clear q1 q2 HC hp
      go_enter Tryz.func73, Tryz.ntmps73
      go_wp2_with fail
      refine St.use (w0 := w) (by exact HW.out.alloc _ _) ?_
      intro hS
      refine (HG.out _ ((h.out.below hS.base).mono hS.size)).mono ?_
      rintro e w1 ⟨rfl, hb⟩
      have hS1 := hS.below hb
      obtain ⟨b0, -⟩ := hS1.box (i := 0) rfl
      have b00 := b0 0 _ rfl
      have b01 := b0 1 _ rfl
      have HS := Lib.hid hS1
      clear hS hb b0 hS1
      go_wp2_with (go_at_call 101; refine (HP.out _ ((g.out.below HS.out.base).mono HS.out.size)).mono ?_; rintro e w2 ⟨rfl, rfl⟩)
      refine (HC2.out _ ((h.out.below HS.out.base).mono HS.out.size) ((g.out.below HS.out.base).mono HS.out.size)).mono ?_
      rintro e w3 ⟨V, c, rfl, ho, hb⟩
      have HS3 := Lib.hid (HS.out.newI hb ho)
      clear hb ho b00 b01
      go_wp2
      go_ret2
      exact ⟨V, c, rfl, HS3.out.ownI (i := 0) rfl, HS3.out.base⟩

end


end Go.Proofs.YtffbiflgmlabaaaGreatDoor.C

namespace Go.Proofs.YtffbiflgmlabaaaGreatDoor.M
set_option linter.unusedVariables false

def usedTo (p : List Int) (x : Int) : Nat → Bool
  | 0 => false
  | i + 1 => usedTo p x i || (p.getD i 0 == x)
/-- All orders of the first n elements that begin with p, d elements more. -/
def ordersTo (n : Nat) : Nat → List Int → List (List Int)
  | 0, p => [p]
  | d + 1, p => (List.range n).flatMap fun x : Nat => if usedTo p (x : Int) p.length = true then [] else ordersTo n d (p ++ [(x : Int)])
def ordersAt (n d : Nat) (p : List Int) (m : Nat) : List (List Int) := (List.range m).flatMap fun x : Nat => if usedTo p (x : Int) p.length = true then [] else ordersTo n d (p ++ [(x : Int)])
theorem ordersAt_succ (n d : Nat) (p : List Int) (m : Nat) : ordersAt n d p (m + 1) = ordersAt n d p m ++ (if usedTo p (m : Int) p.length = true then [] else ordersTo n d (p ++ [(m : Int)])) := by
  unfold ordersAt
  rw [List.range_succ, List.flatMap_append]
  simp
theorem orders_len (n : Nat) : ∀ d p, (ordersTo n d p).length ≤ n ^ d
  | 0, p => by simp [ordersTo]
  | d + 1, p => by
    have key : ∀ m, (ordersAt n d p m).length ≤ m * n ^ d := by
      intro m
      induction m with
      | zero => simp [ordersAt]
      | succ m ih =>
        rw [ordersAt_succ, List.length_append, Nat.succ_mul]
        have := orders_len n d (p ++ [(m : Int)])
        split
        · simp; omega
        · omega
    have := key n
    rw [Nat.pow_succ, Nat.mul_comm]
    exact this
theorem ordersAt_len (n d : Nat) (p : List Int) : ∀ m, (ordersAt n d p m).length ≤ m * n ^ d
  | 0 => by simp [ordersAt]
  | m + 1 => by
    have ih := ordersAt_len n d p m
    rw [ordersAt_succ, List.length_append, Nat.succ_mul]
    have := orders_len n d (p ++ [(m : Int)])
    split
    · simp; omega
    · omega

end Go.Proofs.YtffbiflgmlabaaaGreatDoor.M
namespace Go.Proofs.YtffbiflgmlabaaaGreatDoor.C
open Go.RowKit K M
set_option linter.unusedVariables false
set_option linter.unusedSimpArgs false

/-- A list of lists is left beside L. -/
def RetLol (w0 : World) (L : List Cel) (xss : List (List Int)) (e : Ending) (w' : World) : Prop := ∃ (g c : Nat) (es : List Ent), e = .returned (.slice (some ⟨g, 0, none⟩) es.length c) ∧ es.map (fun e => e.2.2) = xss ∧ St w0 w' (lol (.slice (some ⟨g, 0, none⟩) es.length c) es ++ L)

set_option maxRecDepth 100000 in
set_option maxHeartbeats 1600000 in
theorem orders_zero (N : Nat) (h4 : N ≤ 5) (p : List Int) (hp : p.length = N) (pb c : Nat) (w0 w : World) (L : List Cel) (h : Hid (St w0 w (il (.slice (some ⟨pb, 0, none⟩) p.length c) p.length p :: L))) :
    Calls Tryz.prog 37 #[.int .i64 N, .slice (some ⟨pb, 0, none⟩) p.length c] w (RetLol w0 L (ordersTo N 0 p)) := by
  have hE : ordersTo N 0 p = [p] := rfl
  rw [hE]
  have HZ : Hid (St w0 (w.alloc (.cells #[.slice (some ⟨pb, 0, none⟩) p.length c] 24)) (lol (.slice (some ⟨w.heap.size, 0, none⟩) 1 1) [(some ⟨pb, 0, none⟩, c, p)] ++ L)) := Lib.hid ((show St w0 w (ir (some ⟨pb, 0, none⟩, c, p) :: L) from h.out).oneL)
  have hb : (N : Int) == (N : Int) := beq_self_eq_true _
  rw [hp] at HZ ⊢
  clear h hE
  go_enter Tryz.func37, Tryz.ntmps37
  go_wp2
  go_ret
  exact ⟨_, _, [(some ⟨pb, 0, none⟩, c, p)], rfl, rfl, HZ.out⟩

set_option maxRecDepth 100000 in
set_option maxHeartbeats 8000000 in
theorem orders_step (N d : Nat) (h4 : N ≤ 5) (p : List Int) (hp : p.length + (d + 1) = N) (hsmall : N * N ^ d ≤ 1048576) (pb c : Nat) (w0 w : World) (L : List Cel) (h : Hid (St w0 w (il (.slice (some ⟨pb, 0, none⟩) p.length c) p.length p :: L)))
    (IH : Hid (∀ (q : List Int) (qb qc : Nat) (W : World) (L' : List Cel), q.length + d = N → Hid (St w0 W (il (.slice (some ⟨qb, 0, none⟩) q.length qc) q.length q :: L')) → Calls Tryz.prog 37 #[.int .i64 N, .slice (some ⟨qb, 0, none⟩) q.length qc] W (RetLol w0 L' (ordersTo N d q)))) :
    Calls Tryz.prog 37 #[.int .i64 N, .slice (some ⟨pb, 0, none⟩) p.length c] w (RetLol w0 L (ordersTo N (d + 1) p)) := by
  have hE : ordersTo N (d + 1) p = ordersAt N d p N := rfl
  rw [hE]
  have HST := Lib.hid (ordersAt_succ N d p)
  have HLE := Lib.hid (fun m (hm : m ≤ N) => show (ordersAt N d p m).length ≤ 1048576 from Nat.le_trans (ordersAt_len N d p m) (Nat.le_trans (Nat.mul_le_mul_right _ hm) hsmall))
  have HL2 := Lib.hid (fun q => show (ordersTo N d q).length ≤ 1048576 from Nat.le_trans (orders_len N d q) (by
    have : N ^ d ≤ N * N ^ d := Nat.le_mul_of_pos_left _ (by omega)
    omega))
  have h0 : ordersAt N d p 0 = [] := by simp [ordersAt]
  generalize ordersAt N d p = f at *
  have HU := Lib.hid (fun x i => (by rfl : usedTo p x (i + 1) = (usedTo p x i || (p.getD i 0 == x))))
  obtain ⟨m, hm⟩ : ∃ m, p.length = m := ⟨_, rfl⟩
  have HM := Lib.hid hm
  have hne : ((m : Int) == (N : Int)) = false := beq_eq_false_iff_ne.2 (by omega)
  rw [hm] at h hp HST ⊢
  clear hE hm hsmall
  have HE := Lib.hid h.out.emptyL
  obtain ⟨i0, hi, hz0, hz1, hz2⟩ := info_parts info_int
  obtain ⟨j0, hj, hy0, hy1, hy2⟩ := info_parts info_ints
  go_enter Tryz.func37, Tryz.ntmps37
  go_wp2
  go_loopw [5, 6] (fun v i wr => ∃ (x g c2 : Nat) (es : List Ent), i = .int .i64 x ∧ x ≤ N ∧ v = .slice (some ⟨g, 0, none⟩) es.length c2 ∧ es.map (fun e => e.2.2) = f x ∧ St w0 wr (lol (.slice (some ⟨g, 0, none⟩) es.length c2) es ++ (il (.slice (some ⟨pb, 0, none⟩) m c) m p :: L))) (fun _ i _ => N - (intOf i).toNat)
  case atStart => exact ⟨0, _, _, [], rfl, Nat.zero_le _, rfl, by rw [h0]; rfl, HE.out⟩
  case round =>
    obtain ⟨x, g, c2, es, rfl, hx, rfl, hes, hS⟩ := hrel
    clear HE h0
    by_cases hlt : x < N
    · have hxi : (x : Int) < (N : Int) := by omega
      obtain ⟨wo, rfl⟩ : ∃ wo : World, wo = wr := ⟨_, rfl⟩
      have HR := Lib.hid hS
      have HEs := Lib.hid hes
      clear hS hes
      go_wp2
      go_loop [7, 8] (fun u i => ∃ k : Nat, k ≤ m ∧ i = .int .i64 k ∧ u = .bool (usedTo p (x : Int) k)) (fun _ i => m - (intOf i).toNat)
      case atStart => exact ⟨0, Nat.zero_le _, rfl, rfl⟩
      case round =>
        obtain ⟨k, hk, rfl, rfl⟩ := hrel
        by_cases hkm : k < m
        · have c1 := ((HR.out.rest_of (L1 := lol _ es)).cellI (i := 0) rfl hkm).1
          have hu := HU.out (x : Int) k
          generalize p.getD k 0 = y at c1 hu
          have hk0 : (0 : Int) ≤ (k : Int) := by omega
          have hkn : (k : Int) < (m : Int) := by omega
          cases hub : usedTo p (x : Int) k
          · rw [hub, Bool.false_or] at hu
            obtain ⟨e, he⟩ : ∃ e, (y == (x : Int)) = e := ⟨_, rfl⟩
            rw [he] at hu
            have HV := Lib.hid hu
            clear hu
            go_wp2
            go_round
            case rel => exact ⟨k + 1, by omega, by go_num, by rw [HV.out]⟩
            case measure => simp [intOf]; omega
          · rw [hub, Bool.true_or] at hu
            have HV := Lib.hid hu
            clear hu
            go_wp2
            go_round
            case rel => exact ⟨k + 1, by omega, by go_num, by rw [HV.out]⟩
            case measure => simp [intOf]; omega
        · obtain rfl : k = m := by omega
          have hkn : ¬ (k : Int) < (k : Int) := by omega
          have hst := HST.out x
          cases hub : usedTo p (x : Int) k
          · rw [if_neg (by rw [hub]; decide)] at hst
            have HF := Lib.hid hst
            clear hst
            have hesl : es.length ≤ 1048576 := by
              have h1 := congrArg List.length HEs.out
              rw [List.length_map] at h1
              have := HLE.out x hx
              omega
            have HA := Lib.hid HR.out.empty
            have hlen : (p ++ [(x : Int)]).length = k + 1 := by rw [List.length_append, HM.out]; rfl
            have HI := Lib.hid (fun qb qc W L' hh => IH.out (p ++ [(x : Int)]) qb qc W L' (by omega) hh)
            have HL3 := HL2.out (p ++ [(x : Int)])
            rw [hlen] at HI
            generalize ordersTo N d (p ++ [(x : Int)]) = res at HI HF HL3
            clear hlen IH HR
            go_wp2_with (first
              | (go_at_call 37; refine (HI.out _ _ _ _ (Lib.hid HC6.out)).mono ?_; rintro e w7 ⟨g7, c7, rs, rfl, hrs, hS7⟩; have HRS := Lib.hid hrs; have hrl : rs.length ≤ 1048576 := (by rw [← hrs, List.length_map] at HL3; exact HL3); have HS7 := Lib.hid hS7; clear hS7 hrs)
              | (at_builtin; refine wpList_appN rfl (.tmp 40) (.tmp 41) 24 rfl p Tryz.underlying24 hi hz0 hz1 hz2 HA.out (i := 0) rfl HM.out rfl rfl (fun j hj => by rw [Nat.zero_add]; exact (((HA.out.drop 0).rest_of (L1 := lol _ es)).cellI (i := 0) rfl hj).1) (by simp) (by omega) (by omega) (Nat.zero_add _) ?_; intro g5 c5 w5 hS5; have HB5 := Lib.hid hS5; clear hS5)
              | (at_builtin; refine wpList_app1 rfl (.tmp 42) (.tmp 44) 24 rfl (x : Int) Tryz.underlying24 hi hz0 hz1 hz2 ((HB5.out.alloc _ _).drop 0) (i := 0) rfl rfl rfl (by simp) (by omega) ?_; intro A6 c6 w6 hS6; obtain ⟨g6, cap6, hV6, -⟩ := World.ownsRow.form (hS6.own (i := 0) rfl) (by show 0 < k + 1; omega); injection hV6 with hV1 hV2 hV3; subst hV1 hV3; clear hV2; have HC6 := Lib.hid hS6; clear hS6)
              | (at_builtin; refine wpList_appL rfl (.tmp 38) (.tmp 46) 32 rfl rs Tryz.underlying32 hj hy0 hy1 hy2 (HS7.out.perm (perm_lol _ _ _ _ _)) (i := 0) rfl rfl rfl rfl rfl (fun j e he => by rw [Nat.zero_add]; exact HS7.out.cellL (i := 0) rfl he) (by omega) (by omega) ?_; intro g8 c8 w8 hS8; have HS8 := Lib.hid (hS8.drop 1); clear hS8))
            go_roundw
            case rel =>
              refine ⟨x + 1, g8, c8, es ++ rs, by go_num, by omega, by rw [List.length_append], by rw [List.map_append, HEs.out, HRS.out, HF.out], ?_⟩
              have hZ := HS8.out
              unfold lol
              rw [List.map_append]
              exact hZ
            case measure => simp [intOf]; omega
          · rw [if_pos hub, List.append_nil] at hst
            have HF := Lib.hid hst
            clear hst
            go_wp2
            go_roundw
            case rel => exact ⟨x + 1, g, c2, es, by go_num, by omega, rfl, by rw [HEs.out, HF.out], HR.out⟩
            case measure => simp [intOf]; omega
    · obtain rfl : x = N := by omega
      have hxi : ¬ (x : Int) < (x : Int) := by omega
      have HR := Lib.hid hS
      clear hS
      go_wp2
      go_ret
      exact ⟨g, c2, es, rfl, hes, HR.out.sublist (List.Sublist.append_left (List.sublist_cons_self _ _) _)⟩

theorem orders_any (N : Nat) (h4 : N ≤ 5) : ∀ d (p : List Int), p.length + d = N → ∀ (pb c : Nat) (w0 w : World) (L : List Cel), Hid (St w0 w (il (.slice (some ⟨pb, 0, none⟩) p.length c) p.length p :: L)) →
    Calls Tryz.prog 37 #[.int .i64 N, .slice (some ⟨pb, 0, none⟩) p.length c] w (RetLol w0 L (ordersTo N d p))
  | 0, p, hp, pb, c, w0, w, L, h => orders_zero N h4 p (by omega) pb c w0 w L h
  | d + 1, p, hp, pb, c, w0, w, L, h => orders_step N d h4 p hp (by
      have h1 : N ^ (d + 1) ≤ 5 ^ 5 := Nat.le_trans (Nat.pow_le_pow_left h4 _) (Nat.pow_le_pow_right (by decide) (by omega))
      rw [Nat.pow_succ, Nat.mul_comm] at h1
      exact Nat.le_trans h1 (by decide)) pb c w0 w L h (Lib.hid fun q qb qc W L' hq hh => orders_any N h4 d q hq qb qc w0 W L' hh)

end Go.Proofs.YtffbiflgmlabaaaGreatDoor.C

namespace Go.Proofs.YtffbiflgmlabaaaGreatDoor.M
set_option linter.unusedVariables false

/-- Whether x is none of the first k lists. -/
def freshTo (acc : List (List Int)) (x : List Int) : Nat → Bool
  | 0 => true
  | k + 1 => freshTo acc x k && !decide (acc.getD k [] = x)
def addNew (acc : List (List Int)) (x : List Int) : List (List Int) := if freshTo acc x acc.length = true then acc ++ [x] else acc
def cornersTo (xs : List Int) (n : Nat) (ps : List (List Int)) : Nat → List (List Int)
  | 0 => []
  | i + 1 => addNew (cornersTo xs n ps i) (cornerTo xs n (ps.getD i []) (ps.getD i []).length)
def cornersOf (n : Int) (xs : List Int) : List (List Int) × Bool := if isGround n xs = true ∧ n ≤ 4 then (cornersTo xs n.toNat (ordersTo n.toNat n.toNat []) (ordersTo n.toNat n.toNat []).length, true) else ([], false)
theorem cornersTo_len (xs : List Int) (n : Nat) (ps : List (List Int)) : ∀ m, (cornersTo xs n ps m).length ≤ m
  | 0 => Nat.le_refl _
  | m + 1 => by
    have := cornersTo_len xs n ps m
    unfold cornersTo addNew
    split
    · rw [List.length_append]; simp; omega
    · omega
theorem cornersTo_all (xs : List Int) (n : Nat) (ps : List (List Int)) : ∀ m, ∀ y ∈ cornersTo xs n ps m, y.length = n
  | 0, y, h => by simp [cornersTo] at h
  | m + 1, y, h => by
    have ih := cornersTo_all xs n ps m y
    unfold cornersTo addNew at h
    split at h
    · rcases List.mem_append.1 h with h | h
      · exact ih h
      · obtain rfl := List.mem_singleton.1 h
        exact cornerTo_len _ _ _ _
    · exact ih h
theorem orders_ok : ∀ n, n < 5 → ∀ p ∈ ordersTo n n [], permTo (n : Int) p p.length = true ∧ p.length = n := by decide +kernel

end Go.Proofs.YtffbiflgmlabaaaGreatDoor.M
namespace Go.Proofs.YtffbiflgmlabaaaGreatDoor.K
open Go.RowKit
set_option linter.unusedVariables false
theorem perm_in (a b : Cel) (l t : List Cel) : (a :: b :: (l ++ t)).Perm (b :: ((l ++ [a]) ++ t)) := by
  refine (List.Perm.swap b a _).trans (List.Perm.cons _ ?_)
  rw [List.append_assoc]
  exact (List.perm_middle (a := a) (l₁ := l) (l₂ := t)).symm
theorem St.intsOf {w0 w : World} {L : List Cel} (h : St w0 w L) {e : Ent} (hm : ir e ∈ L) : Ints w w.heap.size e.1 e.2.2 := (OwnN.own (h.2.1 _ hm)).read

end Go.Proofs.YtffbiflgmlabaaaGreatDoor.K
namespace Go.Proofs.YtffbiflgmlabaaaGreatDoor.C
open Go.RowKit K M
set_option linter.unusedVariables false
set_option linter.unusedSimpArgs false

theorem same_any (A C : Option Addr) (xs ys : List Int) (cap dap : Nat) (w : World) (h : Hid (Ints w w.heap.size A xs)) (g : Hid (Ints w w.heap.size C ys)) (hn : xs.length ≤ 9223372036854775807) :
    Calls Tryz.prog 39 #[.slice A xs.length cap, .slice C ys.length dap] w fun e w' => e = .returned (.bool (decide (xs = ys))) ∧ ∃ n, w.drewN n = w' := by
  by_cases e : xs = ys
  · subst e
    rw [decide_eq_true rfl]
    exact same_yes A C xs cap dap w h g hn
  · rw [decide_eq_false e]
    exact same_no A C xs ys cap dap w h g hn e

/-- A new list of lists and a bool. -/
def RetLLB (w : World) (xss : List (List Int)) (b : Bool) (e : Ending) (w' : World) : Prop := ∃ (g c : Nat) (es : List Ent), e = .returned (.tuple #[.slice (some ⟨g, 0, none⟩) es.length c, .bool b]) ∧ es.map (fun e => e.2.2) = xss ∧ St w w' (lol (.slice (some ⟨g, 0, none⟩) es.length c) es)


section

variable (n : Int) (A : Option Addr) (xs : List Int) (cap : Nat) (w : World) (h : Hid (Ints w w.heap.size A xs))
include h
set_option maxRecDepth 100000 in
set_option maxHeartbeats 3200000 in
theorem cornersS_no (q : isGround n xs = false ∨ (isGround n xs = true ∧ 4 < n)) : Calls Tryz.prog 13 #[.agg #[.int .i64 n, .slice A xs.length cap]] w (RetLLB w [] false) := by
  have HW := Lib.hid (St.start w)
  have HG := Lib.hid (fun W h1 => groundS_any n A xs cap W (Lib.hid h1))
  rcases q with q | ⟨q, q2⟩
  · rw [q] at HG
    clear q
    go_enter Tryz.func13, Tryz.ntmps13
    go_wp2_with fail
    refine St.use (w0 := w) (by exact (HW.out.alloc _ _).emptyL) ?_
    intro hS
    simp only [World.size_alloc] at hS
    refine (HG.out _ ((h.out.below hS.base).mono hS.size)).mono ?_
    rintro e w1 ⟨rfl, hb⟩
    have HS := Lib.hid (hS.below hb)
    clear hS hb
    go_wp2
    go_ret2
    exact ⟨_, _, [], rfl, rfl, HS.out.sublist (List.sublist_append_left _ _)⟩
  · rw [q] at HG
    clear q
    go_enter Tryz.func13, Tryz.ntmps13
    go_wp2_with fail
    refine St.use (w0 := w) (by exact (HW.out.alloc _ _).emptyL) ?_
    intro hS
    simp only [World.size_alloc] at hS
    refine (HG.out _ ((h.out.below hS.base).mono hS.size)).mono ?_
    rintro e w1 ⟨rfl, hb⟩
    have hS1 := hS.below hb
    have b00 := hS1.cell (g := w.heap.size) (t := 26) (cs := [.int .i64 n, .slice A xs.length cap]) (by simp [lol]) 0 _ rfl
    have HS := Lib.hid hS1
    clear hS hb hS1
    go_wp2
    go_ret2
    exact ⟨_, _, [], rfl, rfl, HS.out.sublist (List.sublist_append_left _ _)⟩

set_option maxRecDepth 100000 in
set_option maxHeartbeats 8000000 in
theorem cornersS_yes (N : Nat) (hN : n = (N : Int)) (q : isGround n xs = true) (h4 : N ≤ 4) : Calls Tryz.prog 13 #[.agg #[.int .i64 n, .slice A xs.length cap]] w (RetLLB w (cornersTo xs N (ordersTo N N []) (ordersTo N N []).length) true) := by
  subst hN
  have HW := Lib.hid (St.start w)
  have HG := Lib.hid (fun W h1 => groundS_any (N : Int) A xs cap W (Lib.hid h1))
  rw [q] at HG
  have hok := orders_ok N (by omega)
  have HC := Lib.hid (fun (p : List Int) (hp : p ∈ ordersTo N N []) W D d h1 h2 => l8cornerS_any N A xs cap D p d W (Lib.hid h1) (Lib.hid h2) (by have := (hok p hp).2; omega) (ground_fn q) (hok p hp).1)
  have HO := Lib.hid (fun pb c W L hh => orders_any N (by omega) N [] (by simp) pb c w W L hh)
  have HCL := Lib.hid (fun p => cornerTo_len xs N p p.length)
  have HST := Lib.hid (fun i => (by rfl : cornersTo xs N (ordersTo N N []) (i + 1) = addNew (cornersTo xs N (ordersTo N N []) i) (cornerTo xs N ((ordersTo N N []).getD i []) ((ordersTo N N []).getD i []).length)))
  have HLE := Lib.hid (cornersTo_len xs N (ordersTo N N []))
  have HAL := Lib.hid (cornersTo_all xs N (ordersTo N N []))
  have hz : cornersTo xs N (ordersTo N N []) 0 = [] := rfl
  have h256 : (ordersTo N N []).length ≤ 256 := Nat.le_trans (orders_len N N []) (Nat.le_trans (Nat.pow_le_pow_left h4 N) (Nat.pow_le_pow_right (by decide) h4))
  generalize cornersTo xs N (ordersTo N N []) = f at *
  generalize ordersTo N N [] = ps at *
  clear q hok
  have hN4 : ¬ (4 : Int) < (N : Int) := by omega
  obtain ⟨j0, hj, hy0, hy1, hy2⟩ := info_parts info_ints
  go_enter Tryz.func13, Tryz.ntmps13
  go_wp2_with fail
  refine St.use (w0 := w) (by exact (HW.out.alloc _ _).emptyL) ?_
  intro hS
  simp only [World.size_alloc] at hS
  refine (HG.out _ ((h.out.below hS.base).mono hS.size)).mono ?_
  rintro e w1 ⟨rfl, hb⟩
  have hS1 := hS.below hb
  have b00 := hS1.cell (g := w.heap.size) (t := 26) (cs := [.int .i64 N, .slice A xs.length cap]) (by simp [lol]) 0 _ rfl
  have bl := hS1.ltOf (g := w.heap.size) (t := 26) (cs := [.int .i64 N, .slice A xs.length cap]) (by simp [lol])
  have HS := Lib.hid hS1
  clear hS hb hS1
  go_wp2_with fail
  refine (HO.out _ _ _ _ (Lib.hid HS.out.empty)).mono ?_
  rintro e w2 ⟨g, c, es, rfl, hes, hS⟩
  have HS2 := Lib.hid (hS.perm (List.perm_append_comm_assoc _ _ _))
  have HES := Lib.hid hes
  have hesl : es.length = ps.length := by rw [← hes, List.length_map]
  have HEM := Lib.hid (fun i (hi : i < es.length) => show ∃ Ae ce pe, es[i]? = some (Ae, ce, pe) ∧ ps.getD i [] = pe ∧ pe ∈ ps from
    ⟨es[i].1, es[i].2.1, es[i].2.2, by simp [hi], by rw [← hes]; simp [hi], by rw [← hes]; exact List.mem_map_of_mem (f := fun e : Ent => e.2.2) (List.getElem_mem hi)⟩)
  clear hS hes HS HO b00 bl
  obtain ⟨q, hq⟩ : ∃ q, es.length = q := ⟨_, rfl⟩
  have HQ := Lib.hid hq
  have HPL := Lib.hid (show q = ps.length by rw [← hesl, hq])
  rw [← hesl] at h256
  rw [hq] at h256 HEM ⊢
  clear hesl
  go_wp2
  go_loopw [4, 6] (fun v i wr => ∃ (k go co : Nat) (os : List Ent), i = .int .i64 k ∧ k ≤ q ∧ v = .slice (some ⟨go, 0, none⟩) os.length co ∧ os.map (fun e => e.2.2) = f k ∧ St w wr (lol (.slice (some ⟨go, 0, none⟩) os.length co) os ++ (lol (.slice (some ⟨g, 0, none⟩) es.length c) es ++ [bx w.heap.size 26 [.int .i64 N, .slice A xs.length cap]]))) (fun _ i _ => q - (intOf i).toNat)
  case atStart => exact ⟨0, _, _, [], rfl, Nat.zero_le _, rfl, by rw [hz]; rfl, HS2.out⟩
  case round =>
    obtain ⟨k, go, co, os, rfl, hk, rfl, hos, hS⟩ := hrel
    clear HS2 hz
    have HR := Lib.hid hS
    have HOS := Lib.hid hos
    clear hS hos
    by_cases hlt : k < q
    · have hki : (k : Int) < (q : Int) := by omega
      have hk0 : (0 : Int) ≤ (k : Int) := by omega
      obtain ⟨Ae, ce, pe, he, hpe, hmem⟩ := HEM.out k hlt
      have HE := Lib.hid he
      have hst := HST.out k
      rw [hpe] at hst
      have HCI := Lib.hid (fun W D d h1 h2 => HC.out pe hmem W D d h1 h2)
      have hxl := HCL.out pe
      generalize cornerTo xs N pe pe.length = x at HCI hst hxl
      have HF := Lib.hid hst
      have d00 := HR.out.cell (g := w.heap.size) (t := 26) (cs := [.int .i64 N, .slice A xs.length cap]) (by simp [lol]) 0 _ rfl
      have d01 := HR.out.cell (g := w.heap.size) (t := 26) (cs := [.int .i64 N, .slice A xs.length cap]) (by simp [lol]) 1 _ rfl
      have d02 : wr.cell? ⟨g, k, none⟩ = some (.slice Ae pe.length ce) := (HR.out.rest_of (L1 := lol _ os)).cellL (i := 0) rfl he
      clear hst he hpe hmem
      go_wp2
      go_region_held3 (fun w' => w'.cell? ⟨w.heap.size, 0, none⟩ = some (.int .i64 N) ∧ w'.cell? ⟨w.heap.size, 1, none⟩ = some (.slice A xs.length cap) ∧ w'.cell? ⟨g, k, none⟩ = some (.slice Ae pe.length ce)) (first | (refine ⟨?_, ?_, ?_⟩ <;> assumption) | assumption | go_keep) ((go_at_call 38; refine (HCI.out _ _ _ ?_ ?_).mono ?_; (first | exact (h.out.below HR.out.base).mono HR.out.size | exact (h.out.below HR.out.drew.base).mono HR.out.drew.size); (first | exact HR.out.intsOf (e := (Ae, ce, pe)) (by simp only [lol]; exact List.mem_append_right _ (List.mem_append_left _ (List.mem_cons_of_mem _ (List.mem_map_of_mem (List.mem_of_getElem? HE.out))))) | exact HR.out.drew.intsOf (e := (Ae, ce, pe)) (by simp only [lol]; exact List.mem_append_right _ (List.mem_append_left _ (List.mem_cons_of_mem _ (List.mem_map_of_mem (List.mem_of_getElem? HE.out)))))); rintro e w5 ⟨V, cv, rfl, ho, hb⟩; have hS5 := HR.out.drew.newI hb ho; rw [hxl] at hS5; have d00' := hS5.cell (g := w.heap.size) (t := 26) (cs := [.int .i64 N, .slice A xs.length cap]) (by simp [lol]) 0 _ rfl; have d01' := hS5.cell (g := w.heap.size) (t := 26) (cs := [.int .i64 N, .slice A xs.length cap]) (by simp [lol]) 1 _ rfl; have d02' : w5.cell? ⟨g, k, none⟩ = some (.slice Ae pe.length ce) := ((hS5.drop 0).rest_of (L1 := lol _ os)).cellL (i := 0) rfl HE.out; have HS5 := Lib.hid hS5; clear hS5 hb ho d00 d01 d02))
      have hosl : (f k).length = os.length := by rw [← HOS.out, List.length_map]
      have hosk : os.length ≤ 1048576 := by have := HLE.out k; omega
      have HSM := Lib.hid (fun W Ao ao (yo : List Int) h1 h2 hl => same_any Ao V yo x ao cv W (Lib.hid h1) (Lib.hid h2) hl)
      rw [hxl] at HSM
      go_wp2
      go_loopw [8, 9] (fun u i wr2 => ∃ t : Nat, i = .int .i64 t ∧ t ≤ os.length ∧ u = .bool (freshTo (f k) x t) ∧ St w wr2 (il (.slice V N cv) N x :: (lol (.slice (some ⟨go, 0, none⟩) os.length co) os ++ (lol (.slice (some ⟨g, 0, none⟩) es.length c) es ++ [bx w.heap.size 26 [.int .i64 N, .slice A xs.length cap]])))) (fun _ i _ => os.length - (intOf i).toNat)
      case atStart => exact ⟨0, rfl, Nat.zero_le _, rfl, HS5.out⟩
      case round =>
        obtain ⟨t, rfl, ht, rfl, hS⟩ := hrel
        clear HS5
        have HT := Lib.hid hS
        clear hS
        by_cases htl : t < os.length
        · obtain ⟨Ao, ao, yo, ho, hyo⟩ : ∃ Ao ao yo, os[t]? = some (Ao, ao, yo) ∧ (f k).getD t [] = yo := ⟨os[t].1, os[t].2.1, os[t].2.2, by simp [htl], by rw [← HOS.out]; simp [htl]⟩
          have hfr : freshTo (f k) x (t + 1) = (freshTo (f k) x t && !decide ((f k).getD t [] = x)) := rfl
          rw [hyo] at hfr
          have htc : wr.cell? ⟨go, t, none⟩ = some (.slice Ao yo.length ao) := HT.out.cellL (i := 1) rfl ho
          have hmo : ir (Ao, ao, yo) ∈ il (.slice V N cv) N x :: (lol (.slice (some ⟨go, 0, none⟩) os.length co) os ++ (lol (.slice (some ⟨g, 0, none⟩) es.length c) es ++ [bx w.heap.size 26 [.int .i64 N, .slice A xs.length cap]])) := List.mem_cons_of_mem _ (List.mem_append_left _ (List.mem_cons_of_mem _ (List.mem_map_of_mem (List.mem_of_getElem? ho))))
          have hyl := HT.out.intsOf hmo
          have hyn : yo.length ≤ 9223372036854775807 := by
            have h1 : yo ∈ f k := by rw [← HOS.out]; exact List.mem_map_of_mem (f := fun e : Ent => e.2.2) (List.mem_of_getElem? ho)
            have := HAL.out k yo h1
            omega
          have HYL := Lib.hid hyl
          have ht0 : (0 : Int) ≤ (t : Int) := by omega
          have hti : (t : Int) < (os.length : Int) := by omega
          cases hfb : freshTo (f k) x t
          · rw [hfb, Bool.false_and] at hfr
            have HV := Lib.hid hfr
            clear hfr ho hyo hmo hyl
            go_wp2
            go_roundw
            case rel => exact ⟨t + 1, by go_num, by omega, by rw [HV.out], HT.out⟩
            case measure => simp [intOf]; omega
          · rw [hfb, Bool.true_and] at hfr
            have HV := Lib.hid hfr
            clear hfr ho hyo hmo hyl
            go_wp2_with (go_at_call 39; refine (HSM.out _ _ _ _ HYL.out (HT.out.ints (i := 0) rfl) hyn).mono ?_; rintro e w7 ⟨rfl, qq, rfl⟩)
            go_roundw
            case rel => exact ⟨t + 1, by go_num, by omega, by rw [HV.out], HT.out.drewN _⟩
            case measure => simp [intOf]; omega
        · obtain rfl : t = os.length := by omega
          have hti : ¬ (os.length : Int) < (os.length : Int) := by omega
          have hst := HF.out
          unfold addNew at hst
          rw [hosl] at hst
          cases hfb : freshTo (f k) x os.length
          · rw [if_neg (by rw [hfb]; decide)] at hst
            have HV := Lib.hid hst
            clear hst
            go_wp2
            go_roundw
            case rel => exact ⟨k + 1, go, co, os, by go_num, by omega, rfl, by rw [HOS.out, HV.out], HT.out.drop 0⟩
            case measure => simp [intOf]; omega
          · rw [if_pos hfb] at hst
            have HV := Lib.hid hst
            clear hst
            go_wp2_with (at_builtin; refine wpList_appL rfl (.tmp 53) (.tmp 55) 32 rfl [(V, cv, x)] Tryz.underlying32 hj hy0 hy1 hy2 ((HT.out.alloc _ _).drop 0) (i := 1) rfl rfl rfl rfl rfl (fun j e he => by rcases j with _ | j <;> simp at he; subst he; simp [sv, hxl]) (by omega) (by omega) ?_; intro g8 c8 w8 hS8; have HS8 := Lib.hid hS8; clear hS8)
            go_roundw
            case rel =>
              refine ⟨k + 1, g8, c8, os ++ [(V, cv, x)], by go_num, by omega, by rw [List.length_append]; rfl, by rw [List.map_append, HOS.out, HV.out]; rfl, ?_⟩
              have hZ := HS8.out
              have hir : il (.slice V N cv) N x = ir (V, cv, x) := by unfold ir sv; rw [hxl]
              rw [hir] at hZ
              have hP := hZ.perm (perm_in _ _ _ _)
              unfold lol
              rw [List.map_append]
              exact hP
            case measure => simp [intOf]; omega
    · obtain rfl : k = q := by omega
      have hki : ¬ (k : Int) < (k : Int) := by omega
      go_wp2
      go_ret2
      exact ⟨go, co, os, rfl, by rw [HOS.out, HPL.out], HR.out.sublist (List.sublist_append_left _ _)⟩

theorem cornersS_any : Calls Tryz.prog 13 #[.agg #[.int .i64 n, .slice A xs.length cap]] w (RetLLB w (cornersOf n xs).1 (cornersOf n xs).2) := by
  unfold cornersOf
  cases q : isGround n xs
  · rw [if_neg (by simp)]
    exact cornersS_no n A xs cap w h (.inl q)
  · by_cases h4 : n ≤ 4
    · rw [if_pos ⟨rfl, h4⟩]
      obtain ⟨n0, -, -, -⟩ := isFn_yes (ground_fn q)
      exact cornersS_yes n A xs cap w h n.toNat (by omega) q (by omega)
    · rw [if_neg fun hh => h4 hh.2]
      exact cornersS_no n A xs cap w h (.inr ⟨q, by omega⟩)

end


end Go.Proofs.YtffbiflgmlabaaaGreatDoor.C
