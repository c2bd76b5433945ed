/-
  The contracts of spec.l8Perm, l8Corner and CornerOf.
  The contract of spec.l8Orders.
  The contract of spec.CornersOf.
-/
import Derived.Test.YtffbiflgmlabaaaDoorBsS
import Derived.Test.YtffbiflgmlabaaaDoorExA
import Derived.StillTailTactics
import Derived.Test.YtffbiflgmlabaaaDoorLolA
import Derived.Test.YtffbiflgmlabaaaDoorSub
import Derived.Test.YtffbiflgmlabaaaDoorBase
namespace Go.Proofs.YtffbiflgmlabaaaDoor.C
open Go.RowKit K M
set_option linter.unusedVariables false
set_option linter.unusedSimpArgs false
set_option linter.unusedSectionVars false

set_option maxRecDepth 100000 in
set_option maxHeartbeats 3200000 in
theorem permS_any (N : Nat) (A : Option Addr) (p : List Int) (cap : Nat) (w : World) (h : Hid (Ints w w.heap.size A p)) (hl : p.length ≤ 1048576) (h5 : N ≤ 5) :
    Calls Tryd.prog 76 #[.slice A p.length cap, .int .i64 N] w fun e w' => e = .returned (.bool (isPerm N p)) ∧ w = w' := by
  unfold isPerm
  have HNO := Lib.hid (fun j hb m hm => perm_no (n := (N : Int)) (p := p) (j := j) hb m hm)
  have HST := Lib.hid (fun i => (by rfl : permTo (N : Int) p (i + 1) = (permTo (N : Int) p i && (decide (0 ≤ p.getD i 0 ∧ p.getD i 0 ≤ (N : Int) - 1) && !(seenTo p i).testBit (p.getD i 0).toNat))))
  have HSE := Lib.hid (fun i => (by rfl : seenTo p (i + 1) = seenTo p i ||| 2 ^ (p.getD i 0).toNat))
  have HLT := Lib.hid (fun m hm => Nat.lt_of_lt_of_le (seen_lt (N := N) (p := p) m hm) (Nat.le_trans (Nat.pow_le_pow_right (by decide) h5) (show 2 ^ 5 ≤ 32 by decide)))
  have HAT := Lib.hid (fun m hm => perm_at (n := (N : Int)) (p := p) m hm)
  have hw : IntKind.i64.wrap ((N : Int) - 1) = (N : Int) - 1 := IntWalk.i64_in _ (by omega)
  obtain ⟨m, hm⟩ : ∃ m, p.length = m := ⟨_, rfl⟩
  have HX := Lib.hid hm
  rw [hm] at hl ⊢
  clear hm
  go_enter Tryd.func76, Tryd.ntmps76
  go_wp2
  go_loop [5, 6] (fun s i => ∃ k : Nat, k ≤ m ∧ i = .int .i64 k ∧ s = .int .i64 (seenTo p k) ∧ permTo (N : Int) p k = true) (fun _ i => m - (intOf i).toNat)
  case atStart => exact ⟨0, Nat.zero_le _, rfl, rfl, rfl⟩
  case round =>
    obtain ⟨k, hk, rfl, rfl, hok⟩ := hrel
    by_cases hlt : k < m
    · obtain ⟨b, off, rfl, hbl, hc⟩ := h.out.at_ (k := k) (by rw [HX.out]; omega)
      have hk0 : (0 : Int) ≤ (k : Int) := by omega
      have hkn : (k : Int) < (m : Int) := by omega
      have hs32 := HLT.out k (fun i hi => (HAT.out k hok i hi).1)
      have hno := fun hb => HNO.out k hb m hlt
      have hst := HST.out k
      have hse := HSE.out k
      rw [hok, Bool.true_and] at hst
      generalize p.getD k 0 = x at hc hno hst hse
      generalize seenTo p k = S at hs32 hno hst hse ⊢
      by_cases hx : 0 ≤ x ∧ x ≤ (N : Int) - 1
      · obtain ⟨E, rfl⟩ := Int.eq_ofNat_of_zero_le hx.1
        rw [Int.toNat_natCast] at hno hst hse
        have hbit := bit_val S E (by omega)
        have hor := or_nat S E (by omega) (by omega)
        have hE : (E : Int) < 64 := by omega
        have hE0 : (0 : Int) ≤ (E : Int) := by omega
        cases ht : S.testBit E
        · rw [ht, decide_eq_true hx] at hst
          rw [if_neg (by rw [ht]; decide)] at hbit
          have HT := Lib.hid hst
          have HE := Lib.hid hse
          clear hst hse hno hok ht
          go_wp2_with (go_at_call 67; refine (in_yes _ 0 ((N : Int) - 1) _ hx.1 hx.2).mono ?_; rintro e w' ⟨rfl, rfl⟩)
          go_round
          case rel => exact ⟨k + 1, by omega, by go_num, by rw [HE.out], by rw [HT.out]; rfl⟩
          case measure => simp [intOf]; omega
        · have HQ := Lib.hid (hno (.inr ht))
          rw [if_pos ht] at hbit
          clear hst hse hno hok ht
          go_wp2_with (go_at_call 67; refine (in_yes _ 0 ((N : Int) - 1) _ hx.1 hx.2).mono ?_; rintro e w' ⟨rfl, rfl⟩)
          go_ret
          exact ⟨by rw [HQ.out]; rfl, rfl⟩
      · have HQ := Lib.hid (hno (.inl hx))
        have HX2 := Lib.hid (show x < 0 ∨ (N : Int) - 1 < x by omega)
        clear hst hse hno hok hx
        go_wp2_with (go_at_call 67; refine (in_no _ 0 ((N : Int) - 1) _ HX2.out).mono ?_; rintro e w' ⟨rfl, rfl⟩)
        go_ret
        exact ⟨by rw [HQ.out]; rfl, rfl⟩
    · obtain rfl : k = m := by omega
      have hkn : ¬ (k : Int) < (k : Int) := by omega
      have HQ := Lib.hid hok
      clear hok
      go_wp2
      go_ret
      exact ⟨by rw [HQ.out]; rfl, rfl⟩

set_option maxRecDepth 100000 in
set_option maxHeartbeats 6400000 in
theorem l8cornerS_any (N : Nat) (A : Option Addr) (xs : List Int) (cap : Nat) (D : Option Addr) (p : List Int) (dap : Nat) (w : World) (h : Hid (Ints w w.heap.size A xs)) (g : Hid (Ints w w.heap.size D p)) (hl : p.length ≤ 1048576) (hf : isFn (N : Int) xs = true) (hp : permTo (N : Int) p p.length = true) :
    Calls Tryd.prog 77 #[.agg #[.int .i64 N, .slice A xs.length cap], .slice D p.length dap] w (RetI w (cornerTo xs N p p.length)) := by
  obtain ⟨-, h5, hxl, hxv⟩ := isFn_yes hf
  rw [Int.toNat_natCast] at hxl
  have h32 := (isFn_len hf).2
  have hat := perm_at (n := (N : Int)) (p := p) p.length hp
  have hlt := fun m (hm : m ≤ p.length) => seen_lt (N := N) (p := p) m fun i hi => (hat i (by omega)).1
  rw [← hxl] at hlt
  have HW := Lib.hid (St.start w)
  have HAT := Lib.hid (fun i hi => (hat i hi).1)
  have HLT := Lib.hid hlt
  have HXV := Lib.hid hxv
  have HST := Lib.hid (fun i => (by rfl : cornerTo xs N p (i + 1) = (cornerTo xs N p i).set (p.getD i 0).toNat (xs.getD (seenTo p (i + 1)) 0 - xs.getD (seenTo p i) 0)))
  have HSE := Lib.hid (fun i => (by rfl : seenTo p (i + 1) = seenTo p i ||| 2 ^ (p.getD i 0).toNat))
  have HCL := Lib.hid (cornerTo_len xs N p)
  have hz : cornerTo xs N p 0 = List.replicate N 0 := rfl
  have hs0 : seenTo p 0 = 0 := rfl
  generalize cornerTo xs N p = f at *
  obtain ⟨q, hq⟩ : ∃ q, xs.length = q := ⟨_, rfl⟩
  obtain ⟨m, hm⟩ : ∃ m, p.length = m := ⟨_, rfl⟩
  have HQ := Lib.hid hq
  have HM := Lib.hid hm
  rw [hq] at h32 HLT HXV ⊢
  rw [hm] at hl HAT HLT ⊢
  clear hf hp hxl hxv hat hlt hq hm
  obtain ⟨i0, hi, hi0, hi1, hi2⟩ := info_parts info_int
  go_enter Tryd.func77, Tryd.ntmps77
  go_wp2_with (refine wpList_make_full _ rfl _ _ _ rfl (w.heap.size + 1) 3 i0 (.int .i64 0) 1 Tryd.underlying24 hi hi0 hi1 .i64 .i64 _ _ N rfl rfl (by simp) (by simp) (by rw [hi2]; omega) (by unfold maxLen; omega) (by simp) ?_; intro w1 hown1 hg1)
  rw [zeros] at hown1
  simp only [World.size_alloc] at hown1
  have HS1 := Lib.hid (show St w w1 [il (.slice (some ⟨w.heap.size + 1, 0, none⟩) N N) N (List.replicate N 0), bx w.heap.size 26 [.int .i64 N, .slice A q cap]] from ((HW.out.alloc _ _).new ((Below.refl _ _).grown hg1 (Nat.le_refl _) (by simp)) (by rw [World.size_alloc]; exact hown1)))
  clear hown1 hg1
  go_loopw [6, 7, 8] (fun s i t wr => ∃ k : Nat, i = .int .i64 k ∧ k ≤ m ∧ s = .int .i64 (seenTo p k) ∧ St w wr [il (.slice (some ⟨w.heap.size + 1, 0, none⟩) N N) N (f k), bx w.heap.size 26 [.int .i64 N, .slice A q cap]]) (fun _ i _ _ => m - (intOf i).toNat)
  case atStart => exact ⟨0, rfl, Nat.zero_le _, by rw [hs0]; rfl, by rw [hz]; exact HS1.out⟩
  case round =>
    obtain ⟨k, rfl, hk, rfl, hS⟩ := hrel
    obtain ⟨b0, -⟩ := hS.box (i := 1) rfl
    have d00 := b0 0 _ rfl
    have d01 := b0 1 _ rfl
    clear b0 HS1 hz hs0
    by_cases hkm : k < m
    · have hk0 : (0 : Int) ≤ (k : Int) := by omega
      have hkn : (k : Int) < (m : Int) := by omega
      obtain ⟨r, ro, rfl, hrl, hd⟩ := (g.out.below hS.base).at_ (k := k) (by rw [HM.out]; omega)
      have hp := HAT.out k hkm
      have hst := HST.out k
      have hse := HSE.out k
      have hs1 := HLT.out k (by omega)
      have hs2 := HLT.out (k + 1) (by omega)
      obtain ⟨b, off, rfl, hbl, hc1⟩ := (h.out.below hS.base).at_ (k := seenTo p k) (by rw [HQ.out]; omega)
      obtain ⟨b', off', e', -, hc2⟩ := (h.out.below hS.base).at_ (k := seenTo p (k + 1)) (by rw [HQ.out]; omega)
      obtain ⟨rfl, rfl⟩ : b = b' ∧ off = off' := by cases e'; exact ⟨rfl, rfl⟩
      have v1 := HXV.out _ hs1
      have v2 := HXV.out _ hs2
      generalize p.getD k 0 = x at hd hp hst hse
      obtain ⟨E, rfl⟩ := Int.eq_ofNat_of_zero_le hp.1
      rw [Int.toNat_natCast] at hst hse
      have hEN : E < N := by omega
      have hor := or_nat (seenTo p k) E (by omega) (by omega)
      rw [← hse] at hor
      obtain ⟨c1, c2⟩ := hS.cellI (i := 0) rfl hEN
      generalize hT : seenTo p (k + 1) = T at *
      generalize seenTo p k = S at *
      generalize xs.getD T 0 = u at *
      generalize xs.getD S 0 = v at *
      have hw1 : IntKind.i64.wrap (u - v) = u - v := IntWalk.i64_in _ (by omega)
      have hE64 : (E : Int) < 64 := by omega
      have hE0 : (0 : Int) ≤ (E : Int) := by omega
      have hENi : (E : Int) < (N : Int) := by omega
      have hS0 : (0 : Int) ≤ (S : Int) := by omega
      have hSq : (S : Int) < (q : Int) := by omega
      have hT0 : (0 : Int) ≤ (T : Int) := by omega
      have hTq : (T : Int) < (q : Int) := by omega
      have HF := Lib.hid hst
      have HT := Lib.hid hT
      have HR := Lib.hid hS
      clear hS hst hse e' hT
      go_wp2
      go_still_tail 17, (by kernel_rfl)
      change wpList _ _ _ _ _ wr.drew
      generalize hwd : wr.drew = wd
      have k1 : wd.cell? ⟨w.heap.size + 1, E, none⟩ = some (.int .i64 ((f k).getD E 0)) := by rw [← hwd]; exact c1
      have k2 : wd.frozen? ⟨w.heap.size + 1, E, none⟩ = false := by rw [← hwd]; exact c2
      have HR2 := Lib.hid (show St w wd _ from hwd ▸ HR.out.drew)
      clear hwd
      go_wp2
      go_roundw
      case rel => exact ⟨k + 1, by go_num, by omega, by rw [HT.out], by rw [HF.out]; exact HR2.out.setI (i := 0) rfl E _⟩
      case measure => simp [intOf]; omega
    · obtain rfl : k = m := by omega
      have hkn : ¬ (k : Int) < (k : Int) := by omega
      have HR := Lib.hid hS
      clear hS
      go_wp2
      go_ret
      have hln : (f k).length = N := HCL.out k
      exact ⟨_, _, by rw [hln]; rfl, by rw [hln]; exact HR.out.ownI (i := 0) rfl, HR.out.base⟩


section

variable (n : Int) (A : Option Addr) (xs : List Int) (cap : Nat) (D : Option Addr) (p : List Int) (dap : Nat) (w : World) (h : Hid (Ints w w.heap.size A xs)) (g : Hid (Ints w w.heap.size D p)) (hl : p.length ≤ 1048576)
include h g hl
set_option maxRecDepth 100000 in
set_option maxHeartbeats 1600000 in
theorem cornerS_any : Calls Tryd.prog 27 #[.agg #[.int .i64 n, .slice A xs.length cap], .slice D p.length dap] w (RetIB w (cornerOf n xs p).1 (cornerOf n xs p).2) := by
  have HW := Lib.hid (St.start w)
  have HG := Lib.hid (fun W h1 => groundS_any n A xs cap W (Lib.hid h1))
  unfold cornerOf
  cases q1 : isGround n xs
  · rw [q1] at HG
    rw [if_neg (by simp)]
    clear q1
    go_enter Tryd.func27, Tryd.ntmps27
    go_wp2_with fail
    refine St.use (w0 := w) (by exact HW.out.alloc _ _) ?_
    intro hS
    refine (HG.out _ ((h.out.below hS.base).mono hS.size)).mono ?_
    rintro e w1 ⟨rfl, hb⟩
    have HS := Lib.hid (hS.below hb)
    clear hS hb
    go_wp2
    go_ret2
    have hZ := HS.out.empty
    exact ⟨_, _, rfl, hZ.ownI (i := 0) rfl, hZ.base⟩
  · obtain ⟨n0, n5, -, -⟩ := isFn_yes (ground_fn q1)
    obtain ⟨N, rfl⟩ := Int.eq_ofNat_of_zero_le n0
    have HP := Lib.hid (fun W h1 => permS_any N D p dap W (Lib.hid h1) hl (by omega))
    have HC := Lib.hid (fun hp W h1 h2 => l8cornerS_any N A xs cap D p dap W (Lib.hid h1) (Lib.hid h2) hl (ground_fn q1) hp)
    rw [q1] at HG
    cases q2 : isPerm (N : Int) p
    · rw [q2] at HP
      rw [if_neg (by simp)]
      clear q1 q2 HC
      go_enter Tryd.func27, Tryd.ntmps27
      go_wp2_with fail
      refine St.use (w0 := w) (by exact HW.out.alloc _ _) ?_
      intro hS
      refine (HG.out _ ((h.out.below hS.base).mono hS.size)).mono ?_
      rintro e w1 ⟨rfl, hb⟩
      have hS1 := hS.below hb
      obtain ⟨b0, -⟩ := hS1.box (i := 0) rfl
      have b00 := b0 0 _ rfl
      have HS := Lib.hid hS1
      clear hS hb b0 hS1
      go_wp2_with (go_at_call 76; refine (HP.out _ ((g.out.below HS.out.base).mono HS.out.size)).mono ?_; rintro e w2 ⟨rfl, rfl⟩)
      go_ret2
      have hZ := HS.out.empty
      exact ⟨_, _, rfl, hZ.ownI (i := 0) rfl, hZ.base⟩
    · rw [q2] at HP
      rw [if_pos ⟨rfl, rfl⟩, Int.toNat_natCast]
      have hp : permTo (N : Int) p p.length = true := by
        unfold isPerm at q2
        rw [Bool.and_eq_true] at q2
        exact q2.1
      have HC2 := Lib.hid (HC.out hp)
      generalize cornerTo xs N p p.length = f at HC2 ⊢
      clear q1 q2 HC hp
      go_enter Tryd.func27, Tryd.ntmps27
      go_wp2_with fail
      refine St.use (w0 := w) (by exact HW.out.alloc _ _) ?_
      intro hS
      refine (HG.out _ ((h.out.below hS.base).mono hS.size)).mono ?_
      rintro e w1 ⟨rfl, hb⟩
      have hS1 := hS.below hb
      obtain ⟨b0, -⟩ := hS1.box (i := 0) rfl
      have b00 := b0 0 _ rfl
      have b01 := b0 1 _ rfl
      have HS := Lib.hid hS1
      clear hS hb b0 hS1
      go_wp2_with (go_at_call 76; refine (HP.out _ ((g.out.below HS.out.base).mono HS.out.size)).mono ?_; rintro e w2 ⟨rfl, rfl⟩)
      refine (HC2.out _ ((h.out.below HS.out.base).mono HS.out.size) ((g.out.below HS.out.base).mono HS.out.size)).mono ?_
      rintro e w3 ⟨V, c, rfl, ho, hb⟩
      have HS3 := Lib.hid (HS.out.newI hb ho)
      clear hb ho b00 b01
      go_wp2
      go_ret2
      exact ⟨V, c, rfl, HS3.out.ownI (i := 0) rfl, HS3.out.base⟩

end


end Go.Proofs.YtffbiflgmlabaaaDoor.C

namespace Go.Proofs.YtffbiflgmlabaaaDoor.M
set_option linter.unusedVariables false

def usedTo (p : List Int) (x : Int) : Nat → Bool
  | 0 => false
  | i + 1 => usedTo p x i || (p.getD i 0 == x)
/-- All orders of the first n elements that begin with p, d elements more. -/
def ordersTo (n : Nat) : Nat → List Int → List (List Int)
  | 0, p => [p]
  | d + 1, p => (List.range n).flatMap fun x : Nat => if usedTo p (x : Int) p.length = true then [] else ordersTo n d (p ++ [(x : Int)])
def ordersAt (n d : Nat) (p : List Int) (m : Nat) : List (List Int) := (List.range m).flatMap fun x : Nat => if usedTo p (x : Int) p.length = true then [] else ordersTo n d (p ++ [(x : Int)])
theorem ordersAt_succ (n d : Nat) (p : List Int) (m : Nat) : ordersAt n d p (m + 1) = ordersAt n d p m ++ (if usedTo p (m : Int) p.length = true then [] else ordersTo n d (p ++ [(m : Int)])) := by
  unfold ordersAt
  rw [List.range_succ, List.flatMap_append]
  simp
theorem orders_len (n : Nat) : ∀ d p, (ordersTo n d p).length ≤ n ^ d
  | 0, p => by simp [ordersTo]
  | d + 1, p => by
    have key : ∀ m, (ordersAt n d p m).length ≤ m * n ^ d := by
      intro m
      induction m with
      | zero => simp [ordersAt]
      | succ m ih =>
        rw [ordersAt_succ, List.length_append, Nat.succ_mul]
        have := orders_len n d (p ++ [(m : Int)])
        split
        · simp; omega
        · omega
    have := key n
    rw [Nat.pow_succ, Nat.mul_comm]
    exact this
theorem ordersAt_len (n d : Nat) (p : List Int) : ∀ m, (ordersAt n d p m).length ≤ m * n ^ d
  | 0 => by simp [ordersAt]
  | m + 1 => by
    have ih := ordersAt_len n d p m
    rw [ordersAt_succ, List.length_append, Nat.succ_mul]
    have := orders_len n d (p ++ [(m : Int)])
    split
    · simp; omega
    · omega

end Go.Proofs.YtffbiflgmlabaaaDoor.M
namespace Go.Proofs.YtffbiflgmlabaaaDoor.C
open Go.RowKit K M
set_option linter.unusedVariables false
set_option linter.unusedSimpArgs false

/-- A list of lists is left beside L. -/
def RetLol (w0 : World) (L : List Cel) (xss : List (List Int)) (e : Ending) (w' : World) : Prop := ∃ (g c : Nat) (es : List Ent), e = .returned (.slice (some ⟨g, 0, none⟩) es.length c) ∧ es.map (fun e => e.2.2) = xss ∧ St w0 w' (lol (.slice (some ⟨g, 0, none⟩) es.length c) es ++ L)

end Go.Proofs.YtffbiflgmlabaaaDoor.C

namespace Go.Proofs.YtffbiflgmlabaaaDoor.M
set_option linter.unusedVariables false

/-- Whether x is none of the first k lists. -/
def freshTo (acc : List (List Int)) (x : List Int) : Nat → Bool
  | 0 => true
  | k + 1 => freshTo acc x k && !decide (acc.getD k [] = x)
def addNew (acc : List (List Int)) (x : List Int) : List (List Int) := if freshTo acc x acc.length = true then acc ++ [x] else acc
def cornersTo (xs : List Int) (n : Nat) (ps : List (List Int)) : Nat → List (List Int)
  | 0 => []
  | i + 1 => addNew (cornersTo xs n ps i) (cornerTo xs n (ps.getD i []) (ps.getD i []).length)
def cornersOf (n : Int) (xs : List Int) : List (List Int) × Bool := if isGround n xs = true ∧ n ≤ 4 then (cornersTo xs n.toNat (ordersTo n.toNat n.toNat []) (ordersTo n.toNat n.toNat []).length, true) else ([], false)
theorem cornersTo_len (xs : List Int) (n : Nat) (ps : List (List Int)) : ∀ m, (cornersTo xs n ps m).length ≤ m
  | 0 => Nat.le_refl _
  | m + 1 => by
    have := cornersTo_len xs n ps m
    unfold cornersTo addNew
    split
    · rw [List.length_append]; simp; omega
    · omega
theorem cornersTo_all (xs : List Int) (n : Nat) (ps : List (List Int)) : ∀ m, ∀ y ∈ cornersTo xs n ps m, y.length = n
  | 0, y, h => by simp [cornersTo] at h
  | m + 1, y, h => by
    have ih := cornersTo_all xs n ps m y
    unfold cornersTo addNew at h
    split at h
    · rcases List.mem_append.1 h with h | h
      · exact ih h
      · obtain rfl := List.mem_singleton.1 h
        exact cornerTo_len _ _ _ _
    · exact ih h
theorem orders_ok : ∀ n, n < 5 → ∀ p ∈ ordersTo n n [], permTo (n : Int) p p.length = true ∧ p.length = n := by decide +kernel

end Go.Proofs.YtffbiflgmlabaaaDoor.M
namespace Go.Proofs.YtffbiflgmlabaaaDoor.K
open Go.RowKit
set_option linter.unusedVariables false
theorem perm_in (a b : Cel) (l t : List Cel) : (a :: b :: (l ++ t)).Perm (b :: ((l ++ [a]) ++ t)) := by
  refine (List.Perm.swap b a _).trans (List.Perm.cons _ ?_)
  rw [List.append_assoc]
  exact (List.perm_middle (a := a) (l₁ := l) (l₂ := t)).symm
theorem St.intsOf {w0 w : World} {L : List Cel} (h : St w0 w L) {e : Ent} (hm : ir e ∈ L) : Ints w w.heap.size e.1 e.2.2 := (OwnN.own (h.2.1 _ hm)).read

end Go.Proofs.YtffbiflgmlabaaaDoor.K
namespace Go.Proofs.YtffbiflgmlabaaaDoor.C
open Go.RowKit K M
set_option linter.unusedVariables false
set_option linter.unusedSimpArgs false

/-- A new list of lists and a bool. -/
def RetLLB (w : World) (xss : List (List Int)) (b : Bool) (e : Ending) (w' : World) : Prop := ∃ (g c : Nat) (es : List Ent), e = .returned (.tuple #[.slice (some ⟨g, 0, none⟩) es.length c, .bool b]) ∧ es.map (fun e => e.2.2) = xss ∧ St w w' (lol (.slice (some ⟨g, 0, none⟩) es.length c) es)


section

end


end Go.Proofs.YtffbiflgmlabaaaDoor.C
