/-
  The contract of spec.ModularFunction.
-/
import Derived.Test.YtidhggcekimigaaDoorSub
import Derived.Test.YtidhggcekimigaaDoorFunS2
namespace Go.Proofs.YtidhggcekimigaaDoor.C
open Go.RowKit K M
set_option linter.unusedVariables false
set_option linter.unusedSimpArgs false

theorem weigh_bd {ws : List Int} (hv : ∀ k, k < ws.length → -1000 ≤ ws.getD k 0 ∧ ws.getD k 0 ≤ 1000) (s : Nat) : ∀ i, i ≤ ws.length → -1000 * (i : Int) ≤ weigh ws s i ∧ weigh ws s i ≤ 1000 * (i : Int)
  | 0, _ => by simp [weigh]
  | i + 1, hi => by
    have h1 := weigh_bd hv s i (by omega)
    have h2 := hv i (by omega)
    unfold weigh
    split <;> omega

set_option maxRecDepth 100000 in
set_option maxHeartbeats 1600000 in
theorem weighS_any (A : Option Addr) (ws : List Int) (cap s : Nat) (w : World) (h : Hid (Ints w w.heap.size A ws)) (hv : ∀ k, k < ws.length → -1000 ≤ ws.getD k 0 ∧ ws.getD k 0 ≤ 1000) (hm : ws.length ≤ 5) (hs : s < 4294967296) :
    Calls Tryd.prog 75 #[.slice A ws.length cap, .int .i64 s] w fun e w' => e = .returned (.int .i64 (weigh ws s ws.length)) ∧ ∃ q, w.drewN q = w' := by
  obtain ⟨m, hxm⟩ : ∃ m, ws.length = m := ⟨_, rfl⟩
  have hb := weigh_bd hv s
  rw [hxm] at hm hb ⊢
  have HX := Lib.hid hxm
  have HV := Lib.hid hv
  have HB := Lib.hid hb
  clear hv hxm hb
  go_enter Tryd.func75, Tryd.ntmps75
  go_wp2
  go_loopw [5, 6] (fun n i wr => ∃ k : Nat, i = .int .i64 k ∧ k ≤ m ∧ n = .int .i64 (weigh ws s k) ∧ ∃ q, w.drewN q = wr) (fun _ i _ => m - (intOf i).toNat)
  case atStart => exact ⟨0, rfl, Nat.zero_le _, rfl, 0, rfl⟩
  case round =>
    obtain ⟨k, rfl, hk, rfl, q, rfl⟩ := hrel
    by_cases hlt : k < m
    · obtain ⟨b, off, rfl, hbl, hc⟩ := h.out.at_ (k := k) (by rw [HX.out]; exact hlt)
      obtain ⟨v1, v2⟩ := HV.out k (by rw [HX.out]; exact hlt)
      obtain ⟨g1, g2⟩ := HB.out k (by omega)
      have hstep : weigh ws s (k + 1) = if s.testBit k = true then weigh ws s k + ws.getD k 0 else weigh ws s k := rfl
      generalize weigh ws s k = y at g1 g2 hstep
      generalize ws.getD k 0 = x at hc v1 v2 hstep
      have e1 := bit_val s k hs
      have hk0 : (0 : Int) ≤ (k : Int) := by omega
      have hkn : (k : Int) < (m : Int) := by omega
      have hw : IntKind.i64.wrap (y + x) = y + x := IntWalk.i64_in _ (by omega)
      by_cases t : s.testBit k = true
      · rw [if_pos t] at e1 hstep
        have HS := Lib.hid hstep
        clear hstep
        go_wp2
        go_roundw
        case rel => exact ⟨k + 1, by go_num, by omega, by rw [HS.out], _, rfl⟩
        case measure => simp [intOf]; omega
      · rw [if_neg t] at e1 hstep
        have HS := Lib.hid hstep
        clear hstep
        go_wp2
        go_roundw
        case rel => exact ⟨k + 1, by go_num, by omega, by rw [HS.out], _, rfl⟩
        case measure => simp [intOf]; omega
    · obtain rfl : k = m := by omega
      have hkn : ¬ (k : Int) < (k : Int) := by omega
      go_wp2
      go_ret
      exact ⟨rfl, _, rfl⟩

end Go.Proofs.YtidhggcekimigaaDoor.C
