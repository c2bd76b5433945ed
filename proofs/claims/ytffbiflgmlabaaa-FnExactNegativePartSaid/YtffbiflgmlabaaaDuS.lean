/-
  The contracts of spec.NegativePart and RankOfVector.
-/
import Derived.Test.YtffbiflgmlabaaaDuM
import Derived.Test.YtffbiflgmlabaaaBsS
import Derived.Test.YtffbiflgmlabaaaExS
import Derived.Test.YtffbiflgmlabaaaVal
namespace Go.Proofs.Ytffbiflgmlabaaa.C
open Go.RowKit K M
set_option linter.unusedVariables false
set_option linter.unusedSimpArgs false
set_option linter.unusedSectionVars false

theorem neg_bd {ws : List Int} (hv : ∀ k, k < ws.length → -5000 ≤ ws.getD k 0 ∧ ws.getD k 0 ≤ 5000) : ∀ j, j ≤ ws.length → -(5000 * (j : Int)) ≤ sm (fun k => min 0 (ws.getD k 0)) j ∧ sm (fun k => min 0 (ws.getD k 0)) j ≤ 0
  | 0, _ => by simp [sm]
  | j + 1, hj => by
    have ih := neg_bd hv j (by omega)
    have h1 := hv j (by omega)
    rw [sm]
    omega

set_option maxRecDepth 100000 in
set_option maxHeartbeats 1600000 in
theorem negS_any (A : Option Addr) (ws : List Int) (cap : Nat) (w : World) (h : Hid (Ints w w.heap.size A ws)) (hl : ws.length ≤ 1048576) :
    Calls Try.prog 4 #[.slice A ws.length cap] w (RetV w (.tuple #[.int .i64 (negPart ws).1, .bool (negPart ws).2])) := by
  have HV := Lib.hid (fun W h1 => vec5S_any A ws cap W (Lib.hid h1) hl)
  unfold negPart
  cases q : isVec5 ws
  · rw [if_neg (by simp)]
    rw [q] at HV
    clear q
    go_enter Try.func4, Try.ntmps4
    go_wp2_with (go_at_call 8; refine (HV.out _ h.out).mono ?_; rintro e w' ⟨rfl, rfl⟩)
    exact bodyPost_ret (v := .tuple #[.int .i64 0, .bool false]) (by simp [results, Try.results4, go_sem]) rfl ⟨rfl, Below.refl _ _⟩
  · rw [if_pos rfl]
    rw [q] at HV
    obtain ⟨h5, hv⟩ := isVec5_yes q
    have HB := Lib.hid (neg_bd hv)
    have HS := Lib.hid (fun k => show sm (fun k => min 0 (ws.getD k 0)) (k + 1) = sm (fun k => min 0 (ws.getD k 0)) k + min 0 (ws.getD k 0) from rfl)
    have hz : sm (fun k => min 0 (ws.getD k 0)) 0 = 0 := rfl
    generalize sm (fun k => min 0 (ws.getD k 0)) = f at *
    obtain ⟨m, hm⟩ : ∃ m, ws.length = m := ⟨_, rfl⟩
    have HM := Lib.hid hm
    rw [hm] at HV HB h5 ⊢
    clear q hv hm hl
    go_enter Try.func4, Try.ntmps4
    go_wp2_with (go_at_call 8; refine (HV.out _ h.out).mono ?_; rintro e w' ⟨rfl, rfl⟩)
    go_loop [4, 5] (fun t i => ∃ k : Nat, k ≤ m ∧ i = .int .i64 k ∧ t = .int .i64 (f k)) (fun _ i => m - (intOf i).toNat)
    case atStart => exact ⟨0, Nat.zero_le _, rfl, by rw [hz]⟩
    case round =>
      obtain ⟨k, hk, rfl, rfl⟩ := hrel
      clear hz
      by_cases hlt : k < m
      · obtain ⟨b, off, rfl, hbl, hc⟩ := h.out.at_ (k := k) (by rw [HM.out]; exact hlt)
        have hk0 : (0 : Int) ≤ (k : Int) := by omega
        have hkn : (k : Int) < (m : Int) := by omega
        have b1 := HB.out k (by omega)
        have b2 := HB.out (k + 1) (by omega)
        have hs := HS.out k
        rw [hs] at b2
        generalize ws.getD k 0 = x at hc hs b2
        generalize hy : f k = y at *
        by_cases hx : x < 0
        · have hmin : min 0 x = x := by omega
          rw [hmin] at hs b2
          have hw : IntKind.i64.wrap (y + x) = y + x := IntWalk.i64_in _ (by omega)
          have HX := Lib.hid hs
          clear hs hmin hy
          go_wp2
          go_round
          case rel => exact ⟨k + 1, by omega, by go_num, by rw [HX.out]⟩
          case measure => simp [intOf]; omega
        · have hmin : min 0 x = 0 := by omega
          rw [hmin, Int.add_zero] at hs
          have hw : IntKind.i64.wrap y = y := IntWalk.i64_in _ (by omega)
          have HX := Lib.hid hs
          clear hs hmin hy
          go_wp2
          go_round
          case rel => exact ⟨k + 1, by omega, by go_num, by rw [HX.out]⟩
          case measure => simp [intOf]; omega
      · obtain rfl : k = m := by omega
        have hkn : ¬ (k : Int) < (k : Int) := by omega
        go_wp2
        exact bodyPost_ret (v := .tuple #[.int .i64 (f k), .bool true]) (by simp [results, Try.results4, go_sem]) rfl ⟨rfl, Below.refl _ _⟩


section

variable (n : Int) (A : Option Addr) (xs : List Int) (cap : Nat) (D : Option Addr) (ws : List Int) (dap : Nat) (w : World) (h : Hid (Ints w w.heap.size A xs)) (g : Hid (Ints w w.heap.size D ws)) (hl : ws.length ≤ 1048576)
include h g hl

omit h g hl in
theorem rank_bd {xs ws : List Int} (hx : ∀ k, k < xs.length → -1000 ≤ xs.getD k 0 ∧ xs.getD k 0 ≤ 1000) (hw : ∀ s, -25000 ≤ weigh ws s ws.length ∧ weigh ws s ws.length ≤ 25000) : ∀ m, m ≤ xs.length → -26000 ≤ rankTo xs ws m ∧ rankTo xs ws m ≤ 100000
  | 0, _ => by simp [rankTo]
  | m + 1, hm => by
    have ih := rank_bd hx hw m (by omega)
    have h1 := hx m (by omega)
    have h2 := hw (xs.length - 1 - m)
    rw [rankTo]
    omega

end


end Go.Proofs.Ytffbiflgmlabaaa.C
