/-
  The contract of impl.IsDualVector, by the library's slices.ContainsFunc.
-/
import Derived.Test.YtffbiflgmlabaaaGreatDoorImB
import Derived.Test.YtffbiflgmlabaaaGreatDoorNgI
import Derived.Test.YtffbiflgmlabaaaGreatDoorLsI
namespace Go.Proofs.YtffbiflgmlabaaaGreatDoor.C
open Go.RowKit K M
set_option linter.unusedVariables false
set_option linter.unusedSimpArgs false
set_option linter.unusedSectionVars false

theorem posC (x : Int) (w : World) : Calls Tryz.prog 50 #[.int .i64 x] w fun e w' => e = .returned (.bool (decide (0 < x))) ∧ w = w' := by
  go_enter Tryz.func50, Tryz.ntmps50
  go_wp2
  go_ret
  exact ⟨rfl, rfl⟩

set_option maxRecDepth 100000 in
set_option maxHeartbeats 1600000 in
theorem indexPI (A : Option Addr) (ws : List Int) (c : Nat) (w : World) (h : Hid (Ints w w.heap.size A ws)) (hl : ws.length ≤ 1048576) :
    Calls Tryz.prog 70 #[.slice A ws.length c, .func (.func 50) #[] #[]] w fun e w' => ∃ r : Int, e = .returned (.int .i64 r) ∧ decide (0 ≤ r) = !noPos ws ws.length ∧ ∃ q, w.drewN q = w' := by
  have HF := Lib.hid (fun k => show noPos ws (k + 1) = (noPos ws k && decide (ws.getD k 0 ≤ 0)) from rfl)
  have HN := Lib.hid (fun k (hk : k < ws.length) (hx : 0 < ws.getD k 0) => noPos_no hx ws.length hk)
  have h0 : noPos ws 0 = true := rfl
  obtain ⟨m, hm⟩ : ∃ m, ws.length = m := ⟨_, rfl⟩
  have HM := Lib.hid hm
  rw [hm] at hl HN ⊢
  generalize noPos ws = f at *
  clear hm
  go_enter Tryz.func70, Tryz.ntmps70
  go_wp2
  go_loopw [8] (fun i wr => ∃ k q : Nat, k ≤ m ∧ i = .int .i64 k ∧ Hid (f k = true) ∧ w.drewN q = wr) (fun i _ => m - (intOf i).toNat)
  case atStart => exact ⟨0, 0, Nat.zero_le _, rfl, Lib.hid h0, rfl⟩
  case round =>
    obtain ⟨k, q, hk, rfl, hf, hq⟩ := hrel
    clear h0
    by_cases hlt : k < m
    · obtain ⟨b, off, rfl, hbl, hc0⟩ := h.out.at_ (k := k) (by rw [HM.out]; exact hlt)
      have hc : wr.cell? ⟨b, off + k, none⟩ = some (.int .i64 (ws.getD k 0)) := by rw [← hq]; exact hc0
      have hk0 : (0 : Int) ≤ (k : Int) := by omega
      have hkn : (k : Int) < (m : Int) := by omega
      have hu := HF.out k
      have hn := HN.out k hlt
      have HQ := Lib.hid hq
      clear hc0 hq
      generalize ws.getD k 0 = x at hc hu hn
      by_cases hx : 0 < x
      · have HX := Lib.hid (hn hx)
        have hd : decide (0 < x) = true := decide_eq_true hx
        clear hu hn
        go_wp2_with (go_at_call 50; refine (posC x _).mono ?_; rw [hd]; rintro e w' ⟨rfl, rfl⟩)
        go_ret
        exact ⟨(k : Int), rfl, by rw [HX.out]; exact decide_eq_true hk0, _, HQ.out⟩
      · rw [hf.out, decide_eq_true (by omega : x ≤ 0)] at hu
        have HX := Lib.hid hu
        have hd : decide (0 < x) = false := decide_eq_false hx
        clear hu hn
        go_wp2_with (go_at_call 50; refine (posC x _).mono ?_; rw [hd]; rintro e w' ⟨rfl, rfl⟩)
        go_roundw
        case rel => exact ⟨k + 1, q, by omega, by go_num, Lib.hid (by rw [HX.out]; rfl), HQ.out⟩
        case measure => simp [intOf]; omega
    · obtain rfl : k = m := by omega
      have hkn : ¬ (k : Int) < (k : Int) := by omega
      go_wp2
      go_ret
      exact ⟨-1, rfl, by rw [hf.out]; rfl, q, hq⟩

theorem containsPI (A : Option Addr) (ws : List Int) (c : Nat) (w : World) (h : Hid (Ints w w.heap.size A ws)) (hl : ws.length ≤ 1048576) :
    Calls Tryz.prog 49 #[.slice A ws.length c, .func (.func 50) #[] #[]] w fun e w' => e = .returned (.bool (!noPos ws ws.length)) ∧ ∃ q, w.drewN q = w' := by
  have HI := Lib.hid (indexPI A ws c w h hl)
  generalize (!noPos ws ws.length) = b at *
  generalize ws.length = m at *
  clear h hl
  go_enter Tryz.func49, Tryz.ntmps49
  go_wp2_with (go_at_call 70; refine HI.out.mono ?_; rintro e w' ⟨r, rfl, hr, q, rfl⟩)
  go_ret
  exact ⟨by rw [← hr]; rfl, q, rfl⟩

theorem sum_neg {ws : List Int} : ∀ m, noPos ws m = true → sm (fun k => min 0 (ws.getD k 0)) m = sm (fun k => ws.getD k 0) m
  | 0, _ => rfl
  | m + 1, h => by
    rw [noPos, Bool.and_eq_true, decide_eq_true_eq] at h
    rw [sm, sm, sum_neg m h.1]
    have := h.2
    omega


section

variable (n : Int) (A : Option Addr) (xs : List Int) (cap : Nat) (D : Option Addr) (ws : List Int) (dap : Nat) (w : World) (h : Hid (Ints w w.heap.size A xs)) (g : Hid (Ints w w.heap.size D ws)) (hl : ws.length ≤ 1048576) (hbr : Hid (Brujn w))
include h g hl hbr

set_option maxHeartbeats 1600000 in
theorem isDualI_no (q : isBelow n xs ws = false) : Calls Tryz.prog 24 #[.agg #[.int .i64 n, .slice A xs.length cap], .slice D ws.length dap] w (RetV w (.bool false)) := by
  have HW := Lib.hid (St.start w)
  have HB := Lib.hid (fun W h1 h2 h3 => belowI_any n A xs cap D ws dap W (Lib.hid h1) (Lib.hid h2) hl (Lib.hid h3))
  rw [q] at HB
  clear q
  go_enter Tryz.func24, Tryz.ntmps24
  go_wp2_with (go_at_call 40; refine St.use (w0 := w) (by exact HW.out.alloc _ _) ?_; intro hS; refine (HB.out _ ((h.out.below hS.base).mono hS.size) ((g.out.below hS.base).mono hS.size) (brujn_on hbr.out hS.base)).mono ?_; rintro e w1 ⟨rfl, hb⟩; have HS := Lib.hid (hS.below hb); clear hS hb)
  go_ret
  exact ⟨rfl, HS.out.base⟩

set_option maxHeartbeats 1600000 in
theorem isDualI_pos (q : isBelow n xs ws = true) (q2 : noPos ws ws.length = false) : Calls Tryz.prog 24 #[.agg #[.int .i64 n, .slice A xs.length cap], .slice D ws.length dap] w (RetV w (.bool false)) := by
  have HW := Lib.hid (St.start w)
  have HB := Lib.hid (fun W h1 h2 h3 => belowI_any n A xs cap D ws dap W (Lib.hid h1) (Lib.hid h2) hl (Lib.hid h3))
  have HC := Lib.hid (fun W h1 => containsPI D ws dap W (Lib.hid h1) hl)
  rw [q] at HB
  rw [q2] at HC
  clear q q2
  have hmf : ∀ (fn : Fn) (first cap : Array Value) (w : World), (Instr.makeFunc fn first cap).run Tryz.prog w = .ok (.func fn first cap) w := fun _ _ _ _ => rfl
  go_enter Tryz.func24, Tryz.ntmps24
  go_wp2_with (first
    | (go_at_call 40; refine St.use (w0 := w) (by exact HW.out.alloc _ _) ?_; intro hS; refine (HB.out _ ((h.out.below hS.base).mono hS.size) ((g.out.below hS.base).mono hS.size) (brujn_on hbr.out hS.base)).mono ?_; rintro e w1 ⟨rfl, hb⟩; have HS := Lib.hid (hS.below hb); clear hS hb)
    | (go_at_call 49; refine (HC.out _ ((g.out.below HS.out.base).mono HS.out.size)).mono ?_; rintro e w2 ⟨rfl, q, rfl⟩; have HS2 := Lib.hid (HS.out.drewN q)))
  go_ret
  exact ⟨rfl, HS2.out.base⟩

set_option maxHeartbeats 1600000 in
theorem isDualI_yes (q : isBelow n xs ws = true) (q2 : noPos ws ws.length = true) : Calls Tryz.prog 24 #[.agg #[.int .i64 n, .slice A xs.length cap], .slice D ws.length dap] w (RetV w (.bool (decide (sm (fun k => ws.getD k 0) ws.length = least xs)))) := by
  have HW := Lib.hid (St.start w)
  have HB := Lib.hid (fun W h1 h2 h3 => belowI_any n A xs cap D ws dap W (Lib.hid h1) (Lib.hid h2) hl (Lib.hid h3))
  have HC := Lib.hid (fun W h1 => containsPI D ws dap W (Lib.hid h1) hl)
  have HP := Lib.hid (fun W h1 => negPI_any D ws dap W (Lib.hid h1))
  have HL := Lib.hid (fun W h1 => minOfI_any n A xs cap W (Lib.hid h1))
  obtain ⟨e1, -, e3, -⟩ := isBelow_yes q
  have hn : negPart ws = (sm (fun k => ws.getD k 0) ws.length, true) := by
    unfold negPart
    rw [if_pos e3, sum_neg ws.length q2]
  have hm : minOf n xs = (least xs, true) := by
    unfold minOf
    rw [if_pos (ground_fn e1)]
  rw [q] at HB
  rw [q2] at HC
  rw [hn] at HP
  rw [hm] at HL
  dsimp only at HP HL
  generalize sm (fun k => ws.getD k 0) ws.length = y at *
  generalize least xs = z at *
  clear q q2 hn hm e1 e3
  have key : decide (y = z) = (y == z) := by
    by_cases e : y = z
    · subst e; simp
    · rw [decide_eq_false e, beq_eq_false_iff_ne.2 e]
  rw [key]
  clear key
  have hmf : ∀ (fn : Fn) (first cap : Array Value) (w : World), (Instr.makeFunc fn first cap).run Tryz.prog w = .ok (.func fn first cap) w := fun _ _ _ _ => rfl
  go_enter Tryz.func24, Tryz.ntmps24
  go_wp2_with (first
    | (go_at_call 40; refine St.use (w0 := w) (by exact HW.out.alloc _ _) ?_; intro hS; refine (HB.out _ ((h.out.below hS.base).mono hS.size) ((g.out.below hS.base).mono hS.size) (brujn_on hbr.out hS.base)).mono ?_; rintro e w1 ⟨rfl, hb⟩; have HS := Lib.hid (hS.below hb); clear hS hb)
    | (go_at_call 49; refine (HC.out _ ((g.out.below HS.out.base).mono HS.out.size)).mono ?_; rintro e w2 ⟨rfl, q, rfl⟩; have HS2 := Lib.hid (HS.out.drewN q))
    | (go_at_call 20; refine (HP.out _ ((g.out.below HS2.out.base).mono HS2.out.size)).mono ?_; rintro e w3 ⟨rfl, hb⟩; have hS3 := HS2.out.below hb; obtain ⟨b0, -⟩ := hS3.box (i := 0) rfl; have b00 := b0 0 _ rfl; have b01 := b0 1 _ rfl; have HS3 := Lib.hid hS3; clear hb hS3 b0)
    | (go_at_call 19; refine (HL.out _ ((h.out.below HS3.out.base).mono HS3.out.size)).mono ?_; rintro e w4 ⟨rfl, hb⟩; have HS4 := Lib.hid (HS3.out.below hb); clear hb))
  go_ret
  exact ⟨rfl, HS4.out.base⟩

theorem isDualI_any : Calls Tryz.prog 24 #[.agg #[.int .i64 n, .slice A xs.length cap], .slice D ws.length dap] w (RetV w (.bool (isDual n xs ws))) := by
  unfold isDual
  cases q : isBelow n xs ws
  · exact isDualI_no n A xs cap D ws dap w h g hl hbr q
  · cases q2 : noPos ws ws.length
    · exact isDualI_pos n A xs cap D ws dap w h g hl hbr q q2
    · rw [Bool.true_and, Bool.true_and]
      exact isDualI_yes n A xs cap D ws dap w h g hl hbr q q2

end


end Go.Proofs.YtffbiflgmlabaaaGreatDoor.C
