/-
  The contracts of impl.isWeight, weightOf and of ModularFunction's closure.
-/
import Derived.Test.YtgenllnpmjialaaDoorMakeMod
import Derived.Test.YtgenllnpmjialaaDoorModS
import Derived.Test.YtgenllnpmjialaaDoorEls
import Derived.Test.YtgenllnpmjialaaDoorWsM
namespace Go.Proofs.YtgenllnpmjialaaDoor.C
open Go.RowKit K M
set_option linter.unusedVariables false
set_option linter.unusedSimpArgs false

set_option maxRecDepth 100000 in
set_option maxHeartbeats 1600000 in
theorem weighI_any (A : Option Addr) (ws : List Int) (cap S : Nat) (w : World) (h : Hid (Ints w w.heap.size A ws)) (hv : ∀ k, k < ws.length → -1000 ≤ ws.getD k 0 ∧ ws.getD k 0 ≤ 1000) (hm : ws.length ≤ 5) (hS : S < 2 ^ ws.length) (hb : Hid (Brujn w)) :
    Calls Tryd.prog 31 #[.slice A ws.length cap, .int .i64 S] w (RetV w (.int .i64 (weigh ws S ws.length))) := by
  have hS32 : S < 1024 := Nat.lt_of_lt_of_le hS (Nat.le_trans (Nat.pow_le_pow_right (by decide) hm) (by decide))
  have HT := Lib.hid (weigh_els ws S ws.length hS (by omega))
  have hat := Lib.hid (fun k (hk : k < (els S).length) => els_at S ws.length hS hk)
  have hdr := Lib.hid (fun k (hk : k < (els S).length) => wsum_drop ws (els S) hk)
  have hlen := els_len S
  have HE := Lib.hid (listI_any S w hS32 hb)
  obtain ⟨m, hxm⟩ : ∃ m, ws.length = m := ⟨_, rfl⟩
  rw [hxm] at hm HT hat hS ⊢
  generalize els S = es at *
  obtain ⟨l, hel⟩ : ∃ l, es.length = l := ⟨_, rfl⟩
  have HW := Lib.hid (St.start w)
  have HX := Lib.hid hxm
  have HV := Lib.hid hv
  have HL := Lib.hid hel
  rw [hel] at hlen hat hdr
  clear hv hxm hS hS32
  go_enter Tryd.func31, Tryd.ntmps31
  go_wp2_with fail
  refine HE.out.mono ?_
  rintro e w1 ⟨V, cc, rfl, ho, hb1⟩
  rw [hel]
  rw [hel] at ho
  have HS1 := Lib.hid (HW.out.newI hb1 ho)
  rw [hel] at HS1
  clear ho hb1 hel
  go_wp2
  go_loopw [5, 11] (fun y i wr => ∃ (k : Nat) (t : Int), i = .int .i64 k ∧ k ≤ l ∧ y = .int .i64 t ∧ Hid (-1000 * (k : Int) ≤ t ∧ t ≤ 1000 * (k : Int)) ∧ Hid (t + wsum ws (es.drop k) = weigh ws S m) ∧ St w wr [il (.slice V l cc) l es]) (fun _ i _ => l - (intOf i).toNat)
  case atStart => exact ⟨0, 0, rfl, Nat.zero_le _, rfl, Lib.hid (by omega), Lib.hid (by rw [List.drop_zero, HT.out]; omega), HS1.out⟩
  case round =>
    obtain ⟨k, t, rfl, hk, rfl, hbd, hsum, hS⟩ := hrel
    have HS := Lib.hid hS
    clear hS
    by_cases hlt : k < l
    · obtain ⟨b, off, rfl, hbl, hc0⟩ := (HS.out.ints (i := 0) rfl).at_ (k := k) (by rw [HL.out]; exact hlt)
      obtain ⟨g1, g2⟩ := hat.out k hlt
      have hd := hdr.out k hlt
      obtain ⟨E, hE⟩ : ∃ E : Nat, es.getD k 0 = (E : Int) := ⟨_, (Int.toNat_of_nonneg g1).symm⟩
      rw [hE] at hc0 g1 g2 hd
      rw [Int.toNat_natCast] at hd
      have hEm : E < m := by omega
      obtain ⟨b', off', rfl, hbl', hc'⟩ := h.out.at_ (k := E) (by rw [HX.out]; exact hEm)
      have d1 := (HS.out.base.cell (p := ⟨b', off' + E, none⟩) hbl').trans hc'
      obtain ⟨v1, v2⟩ := HV.out E (by rw [HX.out]; exact hEm)
      obtain ⟨t1, t2⟩ := hbd.out
      have hs := hsum.out
      rw [hd] at hs
      generalize ws.getD E 0 = x at d1 v1 v2 hs
      have hw : IntKind.i64.wrap (t + x) = t + x := IntWalk.i64_in _ (by omega)
      have HB := Lib.hid (show -1000 * ((k + 1 : Nat) : Int) ≤ t + x ∧ t + x ≤ 1000 * ((k + 1 : Nat) : Int) by omega)
      have HU := Lib.hid (show (t + x) + wsum ws (es.drop (k + 1)) = weigh ws S m by omega)
      have hk0 : (0 : Int) ≤ (k : Int) := by omega
      have hkl : (k : Int) < (l : Int) := by omega
      have hE0 : (0 : Int) ≤ (E : Int) := by omega
      have hEi : (E : Int) < (m : Int) := by omega
      clear hc' hs hd t1 t2 hE
      go_wp2
      go_roundw
      case rel => exact ⟨k + 1, t + x, by go_num, by omega, rfl, HB, HU, HS.out⟩
      case measure => simp [intOf]; omega
    · obtain rfl : k = l := by omega
      have hkl : ¬ (k : Int) < (k : Int) := by omega
      have hfin := hsum.out
      rw [List.drop_of_length_le (by rw [HL.out]; exact Nat.le_refl _)] at hfin
      have HF := Lib.hid (show t = weigh ws S m by simpa [wsum] using hfin)
      clear hfin
      go_wp2
      go_ret
      exact ⟨by rw [HF.out]; rfl, HS.out.base⟩

set_option maxRecDepth 100000 in
set_option maxHeartbeats 1600000 in
theorem modC (A : Option Addr) (ws : List Int) (cap S : Nat) (c : Int) (cb wb : Nat) (w : World) (h : Hid (Ints w w.heap.size A ws)) (hv : ∀ k, k < ws.length → -1000 ≤ ws.getD k 0 ∧ ws.getD k 0 ≤ 1000) (hm : ws.length ≤ 5) (hS : S < 2 ^ ws.length) (hb : Hid (Brujn w)) (c1 : -1000 ≤ c) (c2 : c ≤ 1000)
    (hc : w.cell? ⟨cb, 0, none⟩ = some (.int .i64 c)) (hw : w.cell? ⟨wb, 0, none⟩ = some (.slice A ws.length cap)) (lc : cb < w.heap.size) (lw : wb < w.heap.size) :
    Calls Tryd.prog 30 #[.int .i64 S, .pointer (some ⟨cb, 0, none⟩), .pointer (some ⟨wb, 0, none⟩)] w (RetV w (.int .i64 (c + weigh ws S ws.length))) := by
  have HC := Lib.hid (fun W (hW : Ints W W.heap.size A ws) (hB : Brujn W) => weighI_any A ws cap S W (Lib.hid hW) hv hm hS (Lib.hid hB))
  obtain ⟨g1, g2⟩ := weigh_bd hv S ws.length (Nat.le_refl _)
  generalize ws.length = m at *
  generalize weigh ws S m = y at *
  have hy : IntKind.i64.wrap (c + y) = c + y := IntWalk.i64_in _ (by omega)
  have HW := Lib.hid (St.start w)
  clear hv hS
  go_enter Tryd.func30, Tryd.ntmps30
  go_wp2
  go_region_held3 (fun w' => w'.cell? ⟨cb, 0, none⟩ = some (.int .i64 c) ∧ w'.cell? ⟨wb, 0, none⟩ = some (.slice A m cap)) (first | assumption | go_keep) ((go_at_call 31; refine (HC.out _ ?_ ?_).mono ?_; (first | exact h.out | exact h.out.drew); (first | exact hb.out | exact hb.out); rintro e w2 ⟨rfl, hb2⟩; have HB2 := Lib.hid (HW.out.drew.below hb2); have hc' := (hb2.cell (p := ⟨cb, 0, none⟩) lc).trans hc; have hw' := (hb2.cell (p := ⟨wb, 0, none⟩) lw).trans hw; clear hb2))
  go_wp2
  go_ret
  exact ⟨rfl, HB2.out.base⟩

end Go.Proofs.YtgenllnpmjialaaDoor.C
