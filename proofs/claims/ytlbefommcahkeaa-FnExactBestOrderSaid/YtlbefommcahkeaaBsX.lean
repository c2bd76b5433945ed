/-
  The contracts of spec.l8Perm, l8Corner and CornerOf.
-/
import Derived.Test.YtlbefommcahkeaaBsS
import Derived.Test.YtlbefommcahkeaaExT
import Derived.StillTailTactics
namespace Go.Proofs.Ytlbefommcahkeaa.C
open Go.RowKit K M
set_option linter.unusedVariables false
set_option linter.unusedSimpArgs false
set_option linter.unusedSectionVars false

set_option maxRecDepth 100000 in
set_option maxHeartbeats 6400000 in
theorem l8cornerS_any (N : Nat) (A : Option Addr) (xs : List Int) (cap : Nat) (D : Option Addr) (p : List Int) (dap : Nat) (w : World) (h : Hid (Ints w w.heap.size A xs)) (g : Hid (Ints w w.heap.size D p)) (hl : p.length ≤ 1048576) (hf : isFn (N : Int) xs = true) (hp : permTo (N : Int) p p.length = true) :
    Calls Try.prog 29 #[.agg #[.int .i64 N, .slice A xs.length cap], .slice D p.length dap] w (RetI w (cornerTo xs N p p.length)) := by
  obtain ⟨-, h5, hxl, hxv⟩ := isFn_yes hf
  rw [Int.toNat_natCast] at hxl
  have h32 := (isFn_len hf).2
  have hat := perm_at (n := (N : Int)) (p := p) p.length hp
  have hlt := fun m (hm : m ≤ p.length) => seen_lt (N := N) (p := p) m fun i hi => (hat i (by omega)).1
  rw [← hxl] at hlt
  have HW := Lib.hid (St.start w)
  have HAT := Lib.hid (fun i hi => (hat i hi).1)
  have HLT := Lib.hid hlt
  have HXV := Lib.hid hxv
  have HST := Lib.hid (fun i => (by rfl : cornerTo xs N p (i + 1) = (cornerTo xs N p i).set (p.getD i 0).toNat (xs.getD (seenTo p (i + 1)) 0 - xs.getD (seenTo p i) 0)))
  have HSE := Lib.hid (fun i => (by rfl : seenTo p (i + 1) = seenTo p i ||| 2 ^ (p.getD i 0).toNat))
  have HCL := Lib.hid (cornerTo_len xs N p)
  have hz : cornerTo xs N p 0 = List.replicate N 0 := rfl
  have hs0 : seenTo p 0 = 0 := rfl
  generalize cornerTo xs N p = f at *
  obtain ⟨q, hq⟩ : ∃ q, xs.length = q := ⟨_, rfl⟩
  obtain ⟨m, hm⟩ : ∃ m, p.length = m := ⟨_, rfl⟩
  have HQ := Lib.hid hq
  have HM := Lib.hid hm
  rw [hq] at h32 HLT HXV ⊢
  rw [hm] at hl HAT HLT ⊢
  clear hf hp hxl hxv hat hlt hq hm
  obtain ⟨i0, hi, hi0, hi1, hi2⟩ := info_parts info_int
  go_enter Try.func29, Try.ntmps29
  go_wp2_with (refine wpList_make_full _ rfl _ _ _ rfl (w.heap.size + 1) 3 i0 (.int .i64 0) 1 Try.underlying22 hi hi0 hi1 .i64 .i64 _ _ N rfl rfl (by simp) (by simp) (by rw [hi2]; omega) (by unfold maxLen; omega) (by simp) ?_; intro w1 hown1 hg1)
  rw [zeros] at hown1
  simp only [World.size_alloc] at hown1
  have HS1 := Lib.hid (show St w w1 [il (.slice (some ⟨w.heap.size + 1, 0, none⟩) N N) N (List.replicate N 0), bx w.heap.size 28 [.int .i64 N, .slice A q cap]] from ((HW.out.alloc _ _).new ((Below.refl _ _).grown hg1 (Nat.le_refl _) (by simp)) (by rw [World.size_alloc]; exact hown1)))
  clear hown1 hg1
  go_loopw [6, 7, 8] (fun s i t wr => ∃ k : Nat, i = .int .i64 k ∧ k ≤ m ∧ s = .int .i64 (seenTo p k) ∧ St w wr [il (.slice (some ⟨w.heap.size + 1, 0, none⟩) N N) N (f k), bx w.heap.size 28 [.int .i64 N, .slice A q cap]]) (fun _ i _ _ => m - (intOf i).toNat)
  case atStart => exact ⟨0, rfl, Nat.zero_le _, by rw [hs0]; rfl, by rw [hz]; exact HS1.out⟩
  case round =>
    obtain ⟨k, rfl, hk, rfl, hS⟩ := hrel
    obtain ⟨b0, -⟩ := hS.box (i := 1) rfl
    have d00 := b0 0 _ rfl
    have d01 := b0 1 _ rfl
    clear b0 HS1 hz hs0
    by_cases hkm : k < m
    · have hk0 : (0 : Int) ≤ (k : Int) := by omega
      have hkn : (k : Int) < (m : Int) := by omega
      obtain ⟨r, ro, rfl, hrl, hd⟩ := (g.out.below hS.base).at_ (k := k) (by rw [HM.out]; omega)
      have hp := HAT.out k hkm
      have hst := HST.out k
      have hse := HSE.out k
      have hs1 := HLT.out k (by omega)
      have hs2 := HLT.out (k + 1) (by omega)
      obtain ⟨b, off, rfl, hbl, hc1⟩ := (h.out.below hS.base).at_ (k := seenTo p k) (by rw [HQ.out]; omega)
      obtain ⟨b', off', e', -, hc2⟩ := (h.out.below hS.base).at_ (k := seenTo p (k + 1)) (by rw [HQ.out]; omega)
      obtain ⟨rfl, rfl⟩ : b = b' ∧ off = off' := by cases e'; exact ⟨rfl, rfl⟩
      have v1 := HXV.out _ hs1
      have v2 := HXV.out _ hs2
      generalize p.getD k 0 = x at hd hp hst hse
      obtain ⟨E, rfl⟩ := Int.eq_ofNat_of_zero_le hp.1
      rw [Int.toNat_natCast] at hst hse
      have hEN : E < N := by omega
      have hor := or_nat (seenTo p k) E (by omega) (by omega)
      rw [← hse] at hor
      obtain ⟨c1, c2⟩ := hS.cellI (i := 0) rfl hEN
      generalize hT : seenTo p (k + 1) = T at *
      generalize seenTo p k = S at *
      generalize xs.getD T 0 = u at *
      generalize xs.getD S 0 = v at *
      have hw1 : IntKind.i64.wrap (u - v) = u - v := IntWalk.i64_in _ (by omega)
      have hE64 : (E : Int) < 64 := by omega
      have hE0 : (0 : Int) ≤ (E : Int) := by omega
      have hENi : (E : Int) < (N : Int) := by omega
      have hS0 : (0 : Int) ≤ (S : Int) := by omega
      have hSq : (S : Int) < (q : Int) := by omega
      have hT0 : (0 : Int) ≤ (T : Int) := by omega
      have hTq : (T : Int) < (q : Int) := by omega
      have HF := Lib.hid hst
      have HT := Lib.hid hT
      have HR := Lib.hid hS
      clear hS hst hse e' hT
      go_wp2
      go_still_tail 17, (by kernel_rfl)
      change wpList _ _ _ _ _ wr.drew
      generalize hwd : wr.drew = wd
      have k1 : wd.cell? ⟨w.heap.size + 1, E, none⟩ = some (.int .i64 ((f k).getD E 0)) := by rw [← hwd]; exact c1
      have k2 : wd.frozen? ⟨w.heap.size + 1, E, none⟩ = false := by rw [← hwd]; exact c2
      have HR2 := Lib.hid (show St w wd _ from hwd ▸ HR.out.drew)
      clear hwd
      go_wp2
      go_roundw
      case rel => exact ⟨k + 1, by go_num, by omega, by rw [HT.out], by rw [HF.out]; exact HR2.out.setI (i := 0) rfl E _⟩
      case measure => simp [intOf]; omega
    · obtain rfl : k = m := by omega
      have hkn : ¬ (k : Int) < (k : Int) := by omega
      have HR := Lib.hid hS
      clear hS
      go_wp2
      go_ret
      have hln : (f k).length = N := HCL.out k
      exact ⟨_, _, by rw [hln]; rfl, by rw [hln]; exact HR.out.ownI (i := 0) rfl, HR.out.base⟩


section

end


end Go.Proofs.Ytlbefommcahkeaa.C
