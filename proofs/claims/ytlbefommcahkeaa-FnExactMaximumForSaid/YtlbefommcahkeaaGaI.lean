/-
  The contract of impl.gainsAlong.
-/
import Derived.Test.YtlbefommcahkeaaGaM
import Derived.Test.YtlbefommcahkeaaVal
import Derived.Test.YtlbefommcahkeaaSt
import Derived.StillTailTactics
namespace Go.Proofs.Ytlbefommcahkeaa.C
open Go.RowKit K M
set_option linter.unusedVariables false
set_option linter.unusedSimpArgs false

set_option maxRecDepth 100000 in
set_option maxHeartbeats 4000000 in
theorem gainsI_any (n : Int) (A : Option Addr) (xs : List Int) (cap : Nat) (D : Option Addr) (os : List Int) (dap : Nat) (w : World) (h : Hid (Ints w w.heap.size A xs)) (g : Hid (Ints w w.heap.size D os)) (m : Nat) (o : Nat → Nat)
    (hm : os.length = m) (h5 : m ≤ 5) (hx : xs.length = 2 ^ m) (hv : ∀ k, k < xs.length → -1000 ≤ xs.getD k 0 ∧ xs.getD k 0 ≤ 1000) (ho : ∀ i, i < m → os.getD i 0 = (o i : Int)) (hlt : ∀ i, i < m → o i < m) :
    Calls Try.prog 30 #[.agg #[.int .i64 n, .slice A xs.length cap], .slice D os.length dap] w (RetI w (gain xs o m m)) := by
  have HW := Lib.hid (St.start w)
  have h32 : 2 ^ m ≤ 32 := Nat.le_trans (Nat.pow_le_pow_right (by decide) h5) (by decide)
  have hpl := Lib.hid (fun i (hi : i ≤ m) => show pre o i < xs.length by rw [hx]; exact pre_lt i fun k hk => hlt k (by omega))
  have HPS := Lib.hid (fun i => show pre o (i + 1) = pre o i ||| 2 ^ o i from rfl)
  have HGL := Lib.hid (fun k => gain_len xs o m k)
  have HG := Lib.hid (fun k => show gain xs o m (k + 1) = (gain xs o m k).set (o k) (xs.getD (pre o (k + 1)) 0 - xs.getD (pre o k) 0) from rfl)
  have HG0 := Lib.hid (show gain xs o m 0 = List.replicate m 0 from rfl)
  have HO := Lib.hid ho
  have HLT := Lib.hid hlt
  have HXV := Lib.hid hv
  obtain ⟨p, hp⟩ : ∃ p, xs.length = p := ⟨_, rfl⟩
  have HX := Lib.hid hp
  have HM := Lib.hid hm
  rw [hp] at hpl hx ⊢
  rw [hm]
  have hp32 : p ≤ 32 := by omega
  have hgm := HGL.out m
  generalize gain xs o m = G at *
  clear ho hlt hv hp hm hx h32
  obtain ⟨i0, hi, hi0, hi1, hi2⟩ := info_parts info_int
  go_enter Try.func30, Try.ntmps30
  go_wp2_with (refine wpList_make_full _ rfl _ _ _ rfl (w.heap.size + 1) 3 i0 (.int .i64 0) 1 Try.underlying22 hi hi0 hi1 .i64 .i64 _ _ m rfl rfl rfl rfl (by rw [hi2]; omega) (by unfold maxLen; omega) (by simp) ?_; intro w1 hown1 hg1)
  rw [zeros] at hown1
  simp only [World.size_alloc] at hown1
  have HS1 := Lib.hid (show St w _ [il (.slice (some ⟨w.heap.size + 1, 0, none⟩) m m) m (List.replicate m 0), bx w.heap.size 28 [.int .i64 n, .slice A p cap]] from ((HW.out.alloc _ _).new ((Below.refl _ _).grown hg1 (Nat.le_refl _) (by simp)) (by rw [World.size_alloc]; exact hown1)))
  clear hown1 hg1 hi hi0 hi1 hi2
  go_loopw [6, 15] (fun b i wr => ∃ k : Nat, i = .int .i64 k ∧ k ≤ m ∧ b = .int .i64 (pre o k) ∧ St w wr [il (.slice (some ⟨w.heap.size + 1, 0, none⟩) m m) m (G k), bx w.heap.size 28 [.int .i64 n, .slice A p cap]]) (fun _ i _ => m - (intOf i).toNat)
  case atStart => exact ⟨0, rfl, Nat.zero_le _, rfl, by rw [HG0.out]; exact HS1.out⟩
  case round =>
    obtain ⟨k, rfl, hk, rfl, hS⟩ := hrel
    by_cases hlt : k < m
    · obtain ⟨b, off, rfl, hbl, hco⟩ := (g.out.below hS.base).at_ (k := k) (by rw [HM.out]; exact hlt)
      rw [HO.out k hlt] at hco
      have hek := HLT.out k hlt
      have hs1 := hpl.out k (by omega)
      have hs2 := hpl.out (k + 1) (by omega)
      have hst := HPS.out k
      have hG := HG.out k
      obtain ⟨b', off', rfl, hbl', hc1⟩ := (h.out.below hS.base).at_ (k := pre o k) (by rw [HX.out]; exact hs1)
      obtain ⟨b'', off'', e'', hbl'', hc2⟩ := (h.out.below hS.base).at_ (k := pre o (k + 1)) (by rw [HX.out]; exact hs2)
      obtain ⟨rfl, rfl⟩ : b' = b'' ∧ off' = off'' := by cases e''; exact ⟨rfl, rfl⟩
      have v1 := HXV.out _ (by rw [HX.out]; exact hs1)
      have v2 := HXV.out _ (by rw [HX.out]; exact hs2)
      obtain ⟨b0, -⟩ := hS.box (i := 1) rfl
      have b00 := b0 0 _ rfl
      have b01 := b0 1 _ rfl
      generalize hE : o k = E at *
      obtain ⟨c1, c2⟩ := hS.cellI (i := 0) rfl hek
      have hwe : withE (pre o k : Int) (E : Int) = pre o (k + 1) := by
        rw [hst]
        unfold withE
        rw [Int.toNat_natCast, Int.toNat_natCast]
      generalize hT : pre o (k + 1) = T at *
      generalize pre o k = S at *
      generalize xs.getD T 0 = u at *
      generalize xs.getD S 0 = v at *
      have hcw := Lib.hid (fun W => with_any (S : Int) (E : Int) W (by omega) (by omega) (by omega) (by omega))
      rw [hwe] at hcw
      have hw1 : IntKind.i64.wrap (u - v) = u - v := IntWalk.i64_in _ (by omega)
      have hE0 : (0 : Int) ≤ (E : Int) := by omega
      have hEm : (E : Int) < (m : Int) := by omega
      have hk0 : (0 : Int) ≤ (k : Int) := by omega
      have hkm : (k : Int) < (m : Int) := by omega
      have hS0 : (0 : Int) ≤ (S : Int) := by omega
      have hSp : (S : Int) < (p : Int) := by omega
      have hT0 : (0 : Int) ≤ (T : Int) := by omega
      have hTp : (T : Int) < (p : Int) := by omega
      have HGK := Lib.hid hG
      have HT := Lib.hid hT
      have HR := Lib.hid hS
      clear hS hst e'' hT hG b0 hE hwe
      go_wp2_with (go_at_call 44; refine (hcw.out _).mono ?_; rintro e w' ⟨rfl, rfl⟩)
      go_still_tail 14, (by kernel_rfl)
      change wpList _ _ _ _ _ wr.drew
      generalize hwd : wr.drew = wd
      have k1 : wd.cell? ⟨w.heap.size + 1, E, none⟩ = some (.int .i64 ((G k).getD E 0)) := by rw [← hwd]; exact c1
      have k2 : wd.frozen? ⟨w.heap.size + 1, E, none⟩ = false := by rw [← hwd]; exact c2
      have HR2 := Lib.hid (show St w wd _ from hwd ▸ HR.out.drew)
      clear hwd
      go_wp2
      go_roundw
      case rel => exact ⟨k + 1, by go_num, by omega, by rw [HT.out], by rw [HGK.out]; exact HR2.out.setI (i := 0) rfl E _⟩
      case measure => simp [intOf]; omega
    · obtain rfl : k = m := by omega
      have hkn : ¬ (k : Int) < (k : Int) := by omega
      have HR := Lib.hid hS
      clear hS
      go_wp2
      go_ret
      exact ⟨_, _, by rw [hgm]; rfl, by rw [hgm]; exact HR.out.ownI (i := 0) rfl, HR.out.base⟩

end Go.Proofs.Ytlbefommcahkeaa.C
