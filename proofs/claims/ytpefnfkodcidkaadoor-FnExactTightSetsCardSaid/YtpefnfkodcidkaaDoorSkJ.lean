/-
  The contracts of impl.leastSlack, isBaseVector and IsBelow.
-/
import Derived.Test.YtpefnfkodcidkaaDoorSkI
import Derived.Test.YtpefnfkodcidkaaDoorVwI
import Derived.Test.YtpefnfkodcidkaaDoorSubI
namespace Go.Proofs.YtpefnfkodcidkaaDoor.C
open Go.RowKit K M
set_option linter.unusedVariables false
set_option linter.unusedSimpArgs false
set_option linter.unusedSectionVars false

theorem ground_parts {n : Int} {xs : List Int} (h : isGround n xs = true) : 0 ≤ n ∧ n ≤ 5 ∧ xs.length = 2 ^ n.toNat ∧ ∀ k, k < xs.length → -1000 ≤ xs.getD k 0 ∧ xs.getD k 0 ≤ 1000 := isFn_yes (ground_fn h)


section

variable (n : Int) (A : Option Addr) (xs : List Int) (cap : Nat) (D : Option Addr) (ws : List Int) (dap : Nat) (w : World) (h : Hid (Ints w w.heap.size A xs)) (g : Hid (Ints w w.heap.size D ws)) (hbr : Hid (Brujn w))
include h g hbr

set_option maxRecDepth 100000 in
set_option maxHeartbeats 1600000 in
/-- The least difference of the sets with the elements of c and without those of d. -/
theorem leastSlackI_any (q1 : isGround n xs = true) (q2 : (ws.length : Int) = n) (q3 : isVec5 ws = true) (c d F : Nat) (hc : c < 32) (hd : d < 32) (hF : (c ||| d) ^^^ (2 ^ n.toNat - 1) = F) (hF32 : F < 32) (hin : ∀ x, x &&& F = x → (c ||| x) < 2 ^ n.toNat) :
    Calls Tryd.prog 32 #[.agg #[.int .i64 n, .slice A xs.length cap], .slice D ws.length dap, .int .i64 c, .int .i64 d] w (RetV w (.int .i64 (slackV xs ws c (leastTo (slackV xs ws c) F F)))) := by
  have HW := Lib.hid (St.start w)
  obtain ⟨h0, h5, hl, hvv⟩ := ground_parts q1
  obtain ⟨h6, hv⟩ := isVec5_yes q3
  obtain ⟨N, rfl⟩ := Int.eq_ofNat_of_zero_le h0
  rw [Int.toNat_natCast] at hl hF hin
  have hwN : ws.length = N := by omega
  have hor : bits .or .i64 (c : Int) (d : Int) = ((c ||| d : Nat) : Int) := or_val c d (by omega) (by omega)
  have hcd : c ||| d < 32 := Nat.or_lt_two_pow (n := 5) (by omega) (by omega)
  have HK := Lib.hid (fun W => compl_any (c ||| d) N W (by omega) (by omega))
  have HS := Lib.hid (fun (W : World) (x : Nat) (h1 : Ints W W.heap.size A xs) (h2 : Ints W W.heap.size D ws) (h3 : Brujn W) (hx : x &&& F = x) => by
    have hq := hin x hx
    have hb := hvv _ (show c ||| x < xs.length by rw [hl]; exact hq)
    have hxF : x ≤ F := by have : x &&& F ≤ F := Nat.and_le_right; omega
    exact slackC (N : Int) A xs cap D ws dap c x (c ||| x) W (Lib.hid h1) (Lib.hid h2) (Lib.hid h3) h6 hv hc (by omega) rfl (by rw [hl]; exact hq) (by rw [hwN]; exact hq) hb.1 hb.2)
  have HL := Lib.hid (fun p W hh => least_slack_any F hF32 (slackV xs ws c) p W (Lib.hid hh))
  rw [hF] at HK
  have hsv : ∀ x, xs.getD (c ||| x) 0 - weigh ws (c ||| x) ws.length = slackV xs ws c x := fun x => rfl
  simp only [hsv] at HS
  generalize slackV xs ws c = f at *
  clear hsv
  generalize leastTo f F F = r at *
  have hmf : ∀ (fn : Fn) (first cap : Array Value) (w : World), (Instr.makeFunc fn first cap).run Tryd.prog w = .ok (.func fn first cap) w := fun _ _ _ _ => rfl
  generalize c ||| d = cd at *
  clear hF hF32 hv hvv hl h0 h5 h6 hin hcd q1 q2 q3 hwN
  go_enter Tryd.func32, Tryd.ntmps32
  go_wp2_with (go_at_call 34; refine (HK.out _).mono ?_; rintro e w' ⟨rfl, rfl⟩)
  have HS1 := Lib.hid (HW.out.alloc [.int .i64 (N : Int), .slice A xs.length cap] 27)
  refine (HL.out _ _ ?_).mono ?_
  · intro x hx W hW
    have hS := HS1.out.below hW
    exact HS.out W x ((h.out.below hS.base).mono hS.size) ((g.out.below hS.base).mono hS.size) (brujn_on hbr.out hS.base) hx
  rintro e w1 ⟨rfl, hb⟩
  have HS2 := Lib.hid (HS1.out.below hb)
  clear hb
  go_wp2
  go_ret
  exact ⟨rfl, HS2.out.base⟩

end


theorem bvI_ne (n : Int) (D : Option Addr) (ws : List Int) (dap : Nat) (w : World) (q : (ws.length : Int) ≠ n) :
    Calls Tryd.prog 31 #[.slice D ws.length dap, .int .i64 n] w fun e w' => e = .returned (.bool false) ∧ w = w' := by
  have hne : ((ws.length : Int) == n) = false := beq_eq_false_iff_ne.2 q
  clear q
  go_enter Tryd.func31, Tryd.ntmps31
  go_wp2
  go_ret
  exact ⟨rfl, rfl⟩

theorem bvI_yes (D : Option Addr) (ws : List Int) (dap : Nat) (w : World) (g : Hid (Ints w w.heap.size D ws)) (hl : ws.length ≤ 1048576) (hv : ∀ k, k < ws.length → -5000 ≤ ws.getD k 0 ∧ ws.getD k 0 ≤ 5000) :
    Calls Tryd.prog 31 #[.slice D ws.length dap, .int .i64 (ws.length : Int)] w fun e w' => e = .returned (.bool true) ∧ w = w' := by
  have HC := Lib.hid (withinI_yes 5000 D ws dap w g (by decide) (by decide) hl hv)
  have hne : ((ws.length : Int) == (ws.length : Int)) = true := beq_self_eq_true _
  clear hv g hl
  go_enter Tryd.func31, Tryd.ntmps31
  go_wp2_with (go_at_call 42; refine HC.out.mono ?_; rintro e w' ⟨rfl, rfl⟩)
  go_ret
  exact ⟨rfl, rfl⟩

theorem bvI_no (D : Option Addr) (ws : List Int) (dap : Nat) (w : World) (g : Hid (Ints w w.heap.size D ws)) (hl : ws.length ≤ 1048576) (hv : ¬ ∀ k, k < ws.length → -5000 ≤ ws.getD k 0 ∧ ws.getD k 0 ≤ 5000) :
    Calls Tryd.prog 31 #[.slice D ws.length dap, .int .i64 (ws.length : Int)] w fun e w' => e = .returned (.bool false) ∧ w = w' := by
  obtain ⟨j, hj, hb, hk⟩ := vec5_bad hv
  have HC := Lib.hid (withinI_no 5000 D ws dap w g (by decide) (by decide) hl j hj hb hk)
  have hne : ((ws.length : Int) == (ws.length : Int)) = true := beq_self_eq_true _
  clear hv g hl hj hb hk
  go_enter Tryd.func31, Tryd.ntmps31
  go_wp2_with (go_at_call 42; refine HC.out.mono ?_; rintro e w' ⟨rfl, rfl⟩)
  go_ret
  exact ⟨rfl, rfl⟩


section

variable (n : Int) (A : Option Addr) (xs : List Int) (cap : Nat) (D : Option Addr) (ws : List Int) (dap : Nat) (w : World) (h : Hid (Ints w w.heap.size A xs)) (g : Hid (Ints w w.heap.size D ws)) (hl : ws.length ≤ 1048576)
include h g hl

set_option maxRecDepth 100000 in
theorem belowI_bad (q : isGround n xs = false) : Calls Tryd.prog 12 #[.agg #[.int .i64 n, .slice A xs.length cap], .slice D ws.length dap] w (RetV w (.bool false)) := by
  have HW := Lib.hid (St.start w)
  have HG := Lib.hid (fun W h1 => groundI_any n A xs cap W (Lib.hid h1))
  rw [q] at HG
  clear q
  go_enter Tryd.func12, Tryd.ntmps12
  go_wp2_with (go_at_call 30; refine St.use (w0 := w) (by exact HW.out.alloc _ _) ?_; intro hS; refine (HG.out _ ((h.out.below hS.base).mono hS.size)).mono ?_; rintro e w1 ⟨rfl, hb⟩; have HS := Lib.hid (hS.below hb); clear hS hb)
  go_ret
  exact ⟨rfl, HS.out.base⟩

set_option maxRecDepth 100000 in
set_option maxHeartbeats 1600000 in
theorem belowI_no (q1 : isGround n xs = true) (q : (ws.length : Int) ≠ n ∨ ((ws.length : Int) = n ∧ isVec5 ws = false)) : Calls Tryd.prog 12 #[.agg #[.int .i64 n, .slice A xs.length cap], .slice D ws.length dap] w (RetV w (.bool false)) := by
  have HW := Lib.hid (St.start w)
  have HG := Lib.hid (fun W h1 => groundI_any n A xs cap W (Lib.hid h1))
  obtain ⟨-, h5, -, -⟩ := ground_parts q1
  rw [q1] at HG
  have HV : Hid (∀ W, Ints W W.heap.size D ws → Calls Tryd.prog 31 #[.slice D ws.length dap, .int .i64 n] W fun e w' => e = .returned (.bool false) ∧ W = w') := by
    refine Lib.hid fun W h1 => ?_
    rcases q with q | ⟨q2, q3⟩
    · exact bvI_ne n D ws dap W q
    · rw [← q2]
      refine bvI_no D ws dap W (Lib.hid h1) hl fun hv => ?_
      rw [isVec5_mk (by omega) hv] at q3
      cases q3
  clear q q1 h5 hl
  go_enter Tryd.func12, Tryd.ntmps12
  go_wp2_with (first | (go_at_call 30; refine St.use (w0 := w) (by exact HW.out.alloc _ _) ?_; intro hS; refine (HG.out _ ((h.out.below hS.base).mono hS.size)).mono ?_; rintro e w1 ⟨rfl, hb⟩; have hS1 := hS.below hb; obtain ⟨b0, -⟩ := hS1.box (i := 0) rfl; have b00 := b0 0 _ rfl; have HS := Lib.hid hS1; clear hS hb hS1 b0) | (go_at_call 31; refine (HV.out _ ((g.out.below HS.out.base).mono HS.out.size)).mono ?_; rintro e w2 ⟨rfl, rfl⟩))
  go_ret
  exact ⟨rfl, HS.out.base⟩

set_option maxRecDepth 100000 in
set_option maxHeartbeats 1600000 in
theorem belowI_yes (hbr : Hid (Brujn w)) (q1 : isGround n xs = true) (q2 : (ws.length : Int) = n) (q3 : isVec5 ws = true) : Calls Tryd.prog 12 #[.agg #[.int .i64 n, .slice A xs.length cap], .slice D ws.length dap] w (RetV w (.bool (belowTo xs ws xs.length))) := by
  have HW := Lib.hid (St.start w)
  have HG := Lib.hid (fun W h1 => groundI_any n A xs cap W (Lib.hid h1))
  obtain ⟨h0, h5, hlx, -⟩ := ground_parts q1
  rw [q1] at HG
  have HV : Hid (∀ W, Ints W W.heap.size D ws → Calls Tryd.prog 31 #[.slice D ws.length dap, .int .i64 n] W fun e w' => e = .returned (.bool true) ∧ W = w') := by
    refine Lib.hid fun W h1 => ?_
    rw [← q2]
    exact bvI_yes D ws dap W (Lib.hid h1) hl (isVec5_yes q3).2
  have hfl := freeAll_lt n.toNat (by omega)
  have h32 : 2 ^ n.toNat ≤ 32 := Nat.le_trans (Nat.pow_le_pow_right (by decide) (show n.toNat ≤ 5 by omega)) (by decide)
  have HL := Lib.hid (fun W h1 h2 h3 => leastSlackI_any n A xs cap D ws dap W (Lib.hid h1) (Lib.hid h2) (Lib.hid h3) q1 q2 q3 0 0 (freeAll n.toNat) (by decide) (by decide) rfl (by omega) (fun x hx => by
    have : x &&& freeAll n.toNat ≤ freeAll n.toNat := Nat.and_le_right
    rw [Nat.zero_or]
    omega))
  rw [below_least hlx]
  rw [freeAll_eq] at HL
  generalize slackV xs ws 0 (leastTo (slackV xs ws 0) (2 ^ n.toNat - 1) (2 ^ n.toNat - 1)) = y at HL ⊢
  clear hfl h32 q1 q2 q3 hl hlx h0 h5
  go_enter Tryd.func12, Tryd.ntmps12
  go_wp2_with (first | (go_at_call 30; refine St.use (w0 := w) (by exact HW.out.alloc _ _) ?_; intro hS; refine (HG.out _ ((h.out.below hS.base).mono hS.size)).mono ?_; rintro e w1 ⟨rfl, hb⟩; have hS1 := hS.below hb; obtain ⟨b0, -⟩ := hS1.box (i := 0) rfl; have b00 := b0 0 _ rfl; have b01 := b0 1 _ rfl; have HS := Lib.hid hS1; clear hS hb hS1 b0) | (go_at_call 31; refine (HV.out _ ((g.out.below HS.out.base).mono HS.out.size)).mono ?_; rintro e w2 ⟨rfl, rfl⟩) | (go_at_call 32; refine (HL.out _ ((h.out.below HS.out.base).mono HS.out.size) ((g.out.below HS.out.base).mono HS.out.size) (brujn_on hbr.out HS.out.base)).mono ?_; rintro e w3 ⟨rfl, hb⟩; have HS3 := Lib.hid (HS.out.below hb); clear hb))
  go_ret
  exact ⟨rfl, HS3.out.base⟩

theorem belowI_any (hbr : Hid (Brujn w)) : Calls Tryd.prog 12 #[.agg #[.int .i64 n, .slice A xs.length cap], .slice D ws.length dap] w (RetV w (.bool (isBelow n xs ws))) := by
  unfold isBelow
  cases q1 : isGround n xs
  · exact belowI_bad n A xs cap D ws dap w h g hl q1
  · by_cases q2 : (ws.length : Int) = n
    · cases q3 : isVec5 ws
      · rw [Bool.false_and, Bool.and_false, Bool.and_false]
        exact belowI_no n A xs cap D ws dap w h g hl q1 (.inr ⟨q2, q3⟩)
      · rw [decide_eq_true q2, Bool.true_and, Bool.true_and, Bool.true_and]
        exact belowI_yes n A xs cap D ws dap w h g hl hbr q1 q2 q3
    · rw [decide_eq_false q2, Bool.false_and, Bool.and_false]
      exact belowI_no n A xs cap D ws dap w h g hl q1 (.inl q2)

end


end Go.Proofs.YtpefnfkodcidkaaDoor.C
