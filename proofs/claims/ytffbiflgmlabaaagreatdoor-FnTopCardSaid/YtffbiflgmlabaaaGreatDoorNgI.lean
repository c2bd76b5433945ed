/-
  The contract of impl.NegativePart.
-/
import Derived.Test.YtffbiflgmlabaaaGreatDoorImA
import Derived.Test.YtffbiflgmlabaaaGreatDoorDuB
namespace Go.Proofs.YtffbiflgmlabaaaGreatDoor.C
open Go.RowKit K M
set_option linter.unusedVariables false
set_option linter.unusedSimpArgs false

theorem negPI_long (A : Option Addr) (ws : List Int) (cap : Nat) (w : World) (h5 : ¬ ws.length ≤ 5) :
    Calls Tryz.prog 20 #[.slice A ws.length cap] w fun e w' => e = .returned (.tuple #[.int .i64 0, .bool false]) ∧ w = w' := by
  have hg : (5 : Int) < (ws.length : Int) := by omega
  clear h5
  go_enter Tryz.func20, Tryz.ntmps20
  go_wp2
  exact bodyPost_ret (v := .tuple #[.int .i64 0, .bool false]) (by simp [results, Tryz.results20, go_sem]) rfl ⟨rfl, rfl⟩

theorem negPI_bad (A : Option Addr) (ws : List Int) (cap : Nat) (w : World) (h : Hid (Ints w w.heap.size A ws)) (h5 : ws.length ≤ 5) (hv : ¬ ∀ k, k < ws.length → -5000 ≤ ws.getD k 0 ∧ ws.getD k 0 ≤ 5000) :
    Calls Tryz.prog 20 #[.slice A ws.length cap] w fun e w' => e = .returned (.tuple #[.int .i64 0, .bool false]) ∧ w = w' := by
  obtain ⟨j, hj, hb, hk⟩ := vec5_bad hv
  have HC := Lib.hid (withinI_no 5000 A ws cap w h (by decide) (by decide) (by omega) j hj hb hk)
  have hg : ¬ (5 : Int) < (ws.length : Int) := by omega
  clear hv h hb hk hj h5
  go_enter Tryz.func20, Tryz.ntmps20
  go_wp2_with (go_at_call 47; refine HC.out.mono ?_; rintro e w' ⟨rfl, rfl⟩)
  exact bodyPost_ret (v := .tuple #[.int .i64 0, .bool false]) (by simp [results, Tryz.results20, go_sem]) rfl ⟨rfl, rfl⟩

set_option maxRecDepth 100000 in
set_option maxHeartbeats 1600000 in
theorem negPI_yes (A : Option Addr) (ws : List Int) (cap : Nat) (w : World) (h : Hid (Ints w w.heap.size A ws)) (h5 : ws.length ≤ 5) (hv : ∀ k, k < ws.length → -5000 ≤ ws.getD k 0 ∧ ws.getD k 0 ≤ 5000) :
    Calls Tryz.prog 20 #[.slice A ws.length cap] w fun e w' => e = .returned (.tuple #[.int .i64 (sm (fun k => min 0 (ws.getD k 0)) ws.length), .bool true]) ∧ w = w' := by
  have HC := Lib.hid (withinI_yes 5000 A ws cap w h (by decide) (by decide) (by omega) hv)
  have hg : ¬ (5 : Int) < (ws.length : Int) := by omega
  have HB := Lib.hid (neg_bd hv)
  have HS := Lib.hid (fun k => show sm (fun k => min 0 (ws.getD k 0)) (k + 1) = sm (fun k => min 0 (ws.getD k 0)) k + min 0 (ws.getD k 0) from rfl)
  have hz : sm (fun k => min 0 (ws.getD k 0)) 0 = 0 := rfl
  generalize sm (fun k => min 0 (ws.getD k 0)) = f at *
  obtain ⟨m, hm⟩ : ∃ m, ws.length = m := ⟨_, rfl⟩
  have HM := Lib.hid hm
  rw [hm] at HC HB hg h5 ⊢
  clear hv hm
  go_enter Tryz.func20, Tryz.ntmps20
  go_wp2_with (go_at_call 47; refine HC.out.mono ?_; rintro e w' ⟨rfl, rfl⟩)
  go_loop [4, 17] (fun t i => ∃ k : Nat, k ≤ m ∧ i = .int .i64 k ∧ t = .int .i64 (f k)) (fun _ i => m - (intOf i).toNat)
  case atStart => exact ⟨0, Nat.zero_le _, rfl, by rw [hz]⟩
  case round =>
    obtain ⟨k, hk, rfl, rfl⟩ := hrel
    clear hz
    by_cases hlt : k < m
    · obtain ⟨b, off, rfl, hbl, hc⟩ := h.out.at_ (k := k) (by rw [HM.out]; exact hlt)
      have hk0 : (0 : Int) ≤ (k : Int) := by omega
      have hkn : (k : Int) < (m : Int) := by omega
      have b1 := HB.out k (by omega)
      have b2 := HB.out (k + 1) (by omega)
      have hs := HS.out k
      rw [hs] at b2
      generalize ws.getD k 0 = x at hc hs b2
      generalize hy : f k = y at *
      by_cases hx : 0 < x
      · have hmin : min 0 x = 0 := by omega
        rw [hmin, Int.add_zero] at hs
        have hw : IntKind.i64.wrap y = y := IntWalk.i64_in _ (by omega)
        have HX := Lib.hid hs
        clear hs hmin hy
        go_wp2
        go_round
        case rel => exact ⟨k + 1, by omega, by go_num, by rw [HX.out]⟩
        case measure => simp [intOf]; omega
      · have hmin : min 0 x = x := by omega
        rw [hmin] at hs b2
        have hw : IntKind.i64.wrap (y + x) = y + x := IntWalk.i64_in _ (by omega)
        have HX := Lib.hid hs
        clear hs hmin hy
        go_wp2
        go_round
        case rel => exact ⟨k + 1, by omega, by go_num, by rw [HX.out]⟩
        case measure => simp [intOf]; omega
    · obtain rfl : k = m := by omega
      have hkn : ¬ (k : Int) < (k : Int) := by omega
      go_wp2
      exact bodyPost_ret (v := .tuple #[.int .i64 (f k), .bool true]) (by simp [results, Tryz.results20, go_sem]) rfl ⟨rfl, rfl⟩

theorem negPI_any (A : Option Addr) (ws : List Int) (cap : Nat) (w : World) (h : Hid (Ints w w.heap.size A ws)) :
    Calls Tryz.prog 20 #[.slice A ws.length cap] w (RetV w (.tuple #[.int .i64 (negPart ws).1, .bool (negPart ws).2])) := by
  have key : Calls Tryz.prog 20 #[.slice A ws.length cap] w fun e w' => e = .returned (.tuple #[.int .i64 (negPart ws).1, .bool (negPart ws).2]) ∧ w = w' := by
    unfold negPart
    cases q : isVec5 ws
    · rw [if_neg (by simp)]
      by_cases h5 : ws.length ≤ 5
      · exact negPI_bad A ws cap w h h5 fun hv => by rw [isVec5_mk h5 hv] at q; cases q
      · exact negPI_long A ws cap w h5
    · rw [if_pos rfl]
      exact negPI_yes A ws cap w h (isVec5_yes q).1 (isVec5_yes q).2
  exact key.mono fun e w' ⟨he, hw⟩ => ⟨he, by subst hw; exact Below.refl _ _⟩

end Go.Proofs.YtffbiflgmlabaaaGreatDoor.C
