/-
  The contracts of spec's chapter 8: vectors, weights, IsBelow.
-/
import Derived.Test.YtffbiflgmlabaaaGreatDoorAllM
import Derived.Test.YtffbiflgmlabaaaGreatDoorSub
import Derived.Test.YtffbiflgmlabaaaGreatDoorFunA
import Derived.Test.YtffbiflgmlabaaaGreatDoorSubS
import Derived.Deep.RegionHeld3
namespace Go.Proofs.YtffbiflgmlabaaaGreatDoor.C
open Go.RowKit K M
set_option linter.unusedVariables false
set_option linter.unusedSimpArgs false
set_option linter.unusedSectionVars false

theorem vec5S_good (A : Option Addr) (ws : List Int) (cap : Nat) (w : World) (h : Hid (Ints w w.heap.size A ws)) (hl : ws.length ≤ 1048576) (hv : ∀ k, k < ws.length → -5000 ≤ ws.getD k 0 ∧ ws.getD k 0 ≤ 5000) :
    Calls Tryz.prog 52 #[.slice A ws.length cap] w fun e w' => e = .returned (.bool (decide (ws.length ≤ 5))) ∧ w = w' := by
  obtain ⟨m, hm⟩ : ∃ m, ws.length = m := ⟨_, rfl⟩
  have HX := Lib.hid hm
  have HV := Lib.hid hv
  rw [hm] at hl ⊢
  clear hm hv
  go_enter Tryz.func52, Tryz.ntmps52
  go_wp2
  go_loop [3] (fun i => ∃ k : Nat, k ≤ m ∧ i = .int .i64 k) (fun i => m - (intOf i).toNat)
  case atStart => exact ⟨0, Nat.zero_le _, rfl⟩
  case round =>
    obtain ⟨k, hk, rfl⟩ := hrel
    by_cases hlt : k < m
    · obtain ⟨b, off, rfl, hbl, hc⟩ := h.out.at_ (k := k) (by rw [HX.out]; omega)
      have hk0 : (0 : Int) ≤ (k : Int) := by omega
      have hkn : (k : Int) < (m : Int) := by omega
      obtain ⟨v1, v2⟩ := HV.out k (by rw [HX.out]; exact hlt)
      generalize ws.getD k 0 = x at hc v1 v2
      go_wp2_with (go_at_call 32; refine (in_yes x (-5000) 5000 _ v1 v2).mono ?_; rintro e w' ⟨rfl, rfl⟩)
      go_round
      case rel => exact ⟨k + 1, by omega, by go_num⟩
      case measure => simp [intOf]; omega
    · obtain rfl : k = m := by omega
      have hkn : ¬ (k : Int) < (k : Int) := by omega
      by_cases h5 : k ≤ 5
      · have hg : (k : Int) ≤ 5 := by omega
        have hd : decide (k ≤ 5) = true := decide_eq_true h5
        go_wp2
        go_ret
        exact ⟨rfl, rfl⟩
      · have hg : ¬ (k : Int) ≤ 5 := by omega
        have hd : decide (k ≤ 5) = false := decide_eq_false h5
        go_wp2
        go_ret
        exact ⟨rfl, rfl⟩

theorem vec5S_bad (A : Option Addr) (ws : List Int) (cap : Nat) (w : World) (h : Hid (Ints w w.heap.size A ws)) (hl : ws.length ≤ 1048576) (j : Nat) (hj : j < ws.length) (hb : ws.getD j 0 < -5000 ∨ 5000 < ws.getD j 0) (hv : ∀ k, k < j → -5000 ≤ ws.getD k 0 ∧ ws.getD k 0 ≤ 5000) :
    Calls Tryz.prog 52 #[.slice A ws.length cap] w fun e w' => e = .returned (.bool false) ∧ w = w' := by
  obtain ⟨m, hm⟩ : ∃ m, ws.length = m := ⟨_, rfl⟩
  have HX := Lib.hid hm
  have HV := Lib.hid hv
  have HB := Lib.hid hb
  rw [hm] at hl hj ⊢
  clear hm hv hb
  go_enter Tryz.func52, Tryz.ntmps52
  go_wp2
  go_loop [3] (fun i => ∃ k : Nat, k ≤ j ∧ i = .int .i64 k) (fun i => m - (intOf i).toNat)
  case atStart => exact ⟨0, Nat.zero_le _, rfl⟩
  case round =>
    obtain ⟨k, hk, rfl⟩ := hrel
    obtain ⟨b, off, rfl, hbl, hc⟩ := h.out.at_ (k := k) (by rw [HX.out]; omega)
    have hk0 : (0 : Int) ≤ (k : Int) := by omega
    have hkn : (k : Int) < (m : Int) := by omega
    by_cases hlt : k < j
    · obtain ⟨v1, v2⟩ := HV.out k hlt
      generalize ws.getD k 0 = x at hc v1 v2
      go_wp2_with (go_at_call 32; refine (in_yes x (-5000) 5000 _ v1 v2).mono ?_; rintro e w' ⟨rfl, rfl⟩)
      go_round
      case rel => exact ⟨k + 1, by omega, by go_num⟩
      case measure => simp [intOf]; omega
    · obtain rfl : k = j := by omega
      have hb := HB.out
      clear HB HV
      generalize ws.getD k 0 = x at hc hb
      have HB := Lib.hid hb
      clear hb
      go_wp2_with (go_at_call 32; refine (in_no x (-5000) 5000 _ HB.out).mono ?_; rintro e w' ⟨rfl, rfl⟩)
      go_ret
      exact ⟨rfl, rfl⟩

theorem vec5S_any (A : Option Addr) (ws : List Int) (cap : Nat) (w : World) (h : Hid (Ints w w.heap.size A ws)) (hl : ws.length ≤ 1048576) :
    Calls Tryz.prog 52 #[.slice A ws.length cap] w fun e w' => e = .returned (.bool (isVec5 ws)) ∧ w = w' := by
  by_cases hv : ∀ k, k < ws.length → -5000 ≤ ws.getD k 0 ∧ ws.getD k 0 ≤ 5000
  · rw [isVec5_good hv]
    exact vec5S_good A ws cap w h hl hv
  · obtain ⟨j, hj, hb, hk⟩ := vec5_bad hv
    rw [isVec5_bad hj hb]
    exact vec5S_bad A ws cap w h hl j hj hb hk

set_option maxRecDepth 100000 in
set_option maxHeartbeats 1600000 in
theorem weigh5S_any (A : Option Addr) (ws : List Int) (cap s : Nat) (w : World) (h : Hid (Ints w w.heap.size A ws)) (hv : ∀ k, k < ws.length → -5000 ≤ ws.getD k 0 ∧ ws.getD k 0 ≤ 5000) (hm : ws.length ≤ 5) (hs : s < 4294967296) :
    Calls Tryz.prog 87 #[.slice A ws.length cap, .int .i64 s] w fun e w' => e = .returned (.int .i64 (weigh ws s ws.length)) ∧ ∃ q, w.drewN q = w' := by
  obtain ⟨m, hxm⟩ : ∃ m, ws.length = m := ⟨_, rfl⟩
  have hb := weigh5_bd hv s
  rw [hxm] at hm hb ⊢
  have HX := Lib.hid hxm
  have HV := Lib.hid hv
  have HB := Lib.hid hb
  clear hv hxm hb
  go_enter Tryz.func87, Tryz.ntmps87
  go_wp2
  go_loopw [5, 6] (fun n i wr => ∃ k : Nat, i = .int .i64 k ∧ k ≤ m ∧ n = .int .i64 (weigh ws s k) ∧ ∃ q, w.drewN q = wr) (fun _ i _ => m - (intOf i).toNat)
  case atStart => exact ⟨0, rfl, Nat.zero_le _, rfl, 0, rfl⟩
  case round =>
    obtain ⟨k, rfl, hk, rfl, q, rfl⟩ := hrel
    by_cases hlt : k < m
    · obtain ⟨b, off, rfl, hbl, hc⟩ := h.out.at_ (k := k) (by rw [HX.out]; exact hlt)
      obtain ⟨v1, v2⟩ := HV.out k (by rw [HX.out]; exact hlt)
      obtain ⟨g1, g2⟩ := HB.out k (by omega)
      have hstep : weigh ws s (k + 1) = if s.testBit k = true then weigh ws s k + ws.getD k 0 else weigh ws s k := rfl
      generalize weigh ws s k = y at g1 g2 hstep
      generalize ws.getD k 0 = x at hc v1 v2 hstep
      have e1 := bit_val s k hs
      have hk0 : (0 : Int) ≤ (k : Int) := by omega
      have hkn : (k : Int) < (m : Int) := by omega
      have hw : IntKind.i64.wrap (y + x) = y + x := IntWalk.i64_in _ (by omega)
      by_cases t : s.testBit k = true
      · rw [if_pos t] at e1 hstep
        have HS := Lib.hid hstep
        clear hstep
        go_wp2
        go_roundw
        case rel => exact ⟨k + 1, by go_num, by omega, by rw [HS.out], _, rfl⟩
        case measure => simp [intOf]; omega
      · rw [if_neg t] at e1 hstep
        have HS := Lib.hid hstep
        clear hstep
        go_wp2
        go_roundw
        case rel => exact ⟨k + 1, by go_num, by omega, by rw [HS.out], _, rfl⟩
        case measure => simp [intOf]; omega
    · obtain rfl : k = m := by omega
      have hkn : ¬ (k : Int) < (k : Int) := by omega
      go_wp2
      go_ret
      exact ⟨rfl, _, rfl⟩


theorem quiet_gives {P : Program} {f : FuncId} {args : Array Value} {w : World} {n : Nat} {x : Int} (h : Calls P f args (w.drewN n) fun e w' => e = .returned (.int .i64 x) ∧ ∃ q, (w.drewN n).drewN q = w') :
    Calls P f args (w.drewN n) fun e w'' => e = .returned (.int .i64 x) ∧ ∃ m, w'' = w.drewN m :=
  h.mono fun _ _ ⟨he, q, hq⟩ => ⟨he, n + q, by rw [← hq]; simp [World.drewN, Nat.add_assoc]⟩


section

variable (n : Int) (A : Option Addr) (xs : List Int) (cap : Nat) (D : Option Addr) (ws : List Int) (dap : Nat) (w : World) (h : Hid (Ints w w.heap.size A xs)) (g : Hid (Ints w w.heap.size D ws)) (hl : ws.length ≤ 1048576)
include h g hl
set_option maxRecDepth 100000 in
set_option maxHeartbeats 1600000 in
theorem belowS_no (q : isGround n xs = false ∨ (isGround n xs = true ∧ (ws.length : Int) ≠ n) ∨ (isGround n xs = true ∧ (ws.length : Int) = n ∧ isVec5 ws = false)) :
    Calls Tryz.prog 66 #[.agg #[.int .i64 n, .slice A xs.length cap], .slice D ws.length dap] w (RetV w (.bool false)) := by
  have HW := Lib.hid (St.start w)
  have HG := Lib.hid (fun W h1 => groundS_any n A xs cap W (Lib.hid h1))
  have HV := Lib.hid (fun W h1 => vec5S_any D ws dap W (Lib.hid h1) hl)
  rcases q with q | ⟨q, q2⟩ | ⟨q, q2, q3⟩
  · rw [q] at HG
    clear q
    go_enter Tryz.func66, Tryz.ntmps66
    go_wp2_with fail
    refine St.use (w0 := w) (by exact HW.out.alloc _ _) ?_
    intro hS
    refine (HG.out _ ((h.out.below hS.base).mono hS.size)).mono ?_
    rintro e w1 ⟨rfl, hb⟩
    have HS := Lib.hid (hS.below hb)
    clear hS hb
    go_wp2
    go_ret
    exact ⟨rfl, HS.out.base⟩
  · rw [q] at HG
    have hne : ((ws.length : Int) != n) = true := bne_iff_ne.2 q2
    clear q q2
    go_enter Tryz.func66, Tryz.ntmps66
    go_wp2_with fail
    refine St.use (w0 := w) (by exact HW.out.alloc _ _) ?_
    intro hS
    refine (HG.out _ ((h.out.below hS.base).mono hS.size)).mono ?_
    rintro e w1 ⟨rfl, hb⟩
    have hS1 := hS.below hb
    obtain ⟨b0, -⟩ := hS1.box (i := 0) rfl
    have b00 := b0 0 _ rfl
    have HS := Lib.hid hS1
    clear hS hb b0 hS1
    go_wp2
    go_ret
    exact ⟨rfl, HS.out.base⟩
  · rw [q] at HG
    rw [q3] at HV
    have hne : ((ws.length : Int) != n) = false := bne_eq_false_iff_eq.2 q2
    clear q q2 q3
    go_enter Tryz.func66, Tryz.ntmps66
    go_wp2_with fail
    refine St.use (w0 := w) (by exact HW.out.alloc _ _) ?_
    intro hS
    refine (HG.out _ ((h.out.below hS.base).mono hS.size)).mono ?_
    rintro e w1 ⟨rfl, hb⟩
    have hS1 := hS.below hb
    obtain ⟨b0, -⟩ := hS1.box (i := 0) rfl
    have b00 := b0 0 _ rfl
    have HS := Lib.hid hS1
    clear hS hb b0 hS1
    go_wp2_with (go_at_call 52; refine (HV.out _ ((g.out.below HS.out.base).mono HS.out.size)).mono ?_; rintro e w2 ⟨rfl, rfl⟩)
    go_ret
    exact ⟨rfl, HS.out.base⟩

set_option maxRecDepth 100000 in
set_option maxHeartbeats 3200000 in
theorem belowS_yes (q1 : isGround n xs = true) (q2 : (ws.length : Int) = n) (q3 : isVec5 ws = true) :
    Calls Tryz.prog 66 #[.agg #[.int .i64 n, .slice A xs.length cap], .slice D ws.length dap] w (RetV w (.bool (belowTo xs ws xs.length))) := by
  have HW := Lib.hid (St.start w)
  have HG := Lib.hid (fun W h1 => groundS_any n A xs cap W (Lib.hid h1))
  have HV := Lib.hid (fun W h1 => vec5S_any D ws dap W (Lib.hid h1) hl)
  rw [q1] at HG
  rw [q3] at HV
  obtain ⟨h5, hv⟩ := isVec5_yes q3
  have hx32 := (isFn_len (ground_fn q1)).2
  have HWS := Lib.hid (fun W s (h1 : Ints W W.heap.size D ws) (hs : s < 4294967296) => weigh5S_any D ws dap s W (Lib.hid h1) hv h5 hs)
  have hne : ((ws.length : Int) != n) = false := bne_eq_false_iff_eq.2 q2
  have HBA := Lib.hid (below_at (xs := xs) (ws := ws))
  have HBN := Lib.hid (fun s (hs : s < xs.length) hh => below_no (xs := xs) (ws := ws) (m := xs.length) (s := s) hs hh)
  obtain ⟨p, hp⟩ : ∃ p, xs.length = p := ⟨_, rfl⟩
  obtain ⟨m, hm⟩ : ∃ m, ws.length = m := ⟨_, rfl⟩
  have HP := Lib.hid hp
  rw [hp] at HBN hx32 HG ⊢
  rw [hm] at HV hne h5 HWS HBA HBN ⊢
  clear q1 q2 q3 hv hp hm hl
  go_enter Tryz.func66, Tryz.ntmps66
  go_wp2_with fail
  refine St.use (w0 := w) (by exact HW.out.alloc _ _) ?_
  intro hS
  refine (HG.out _ ((h.out.below hS.base).mono hS.size)).mono ?_
  rintro e w1 ⟨rfl, hb⟩
  have hS1 := hS.below hb
  obtain ⟨b0, -⟩ := hS1.box (i := 0) rfl
  have b00 := b0 0 _ rfl
  have HS := Lib.hid hS1
  clear hS hb b0 hS1
  go_wp2_with (go_at_call 52; refine (HV.out _ ((g.out.below HS.out.base).mono HS.out.size)).mono ?_; rintro e w2 ⟨rfl, rfl⟩)
  go_loopw [5] (fun i wr => ∃ s : Nat, i = .int .i64 s ∧ s ≤ p ∧ Hid (∀ k, k < s → weigh ws k m ≤ xs.getD k 0) ∧ St w wr [bx w.heap.size 26 [.int .i64 n, .slice A p cap]]) (fun i _ => p - (intOf i).toNat)
  case atStart => exact ⟨0, rfl, Nat.zero_le _, Lib.hid (fun k hk => absurd hk (by omega)), HS.out⟩
  case round =>
    obtain ⟨s, rfl, hs, HALL, hS⟩ := hrel
    obtain ⟨b0, -⟩ := hS.box (i := 0) rfl
    have d00 := b0 0 _ rfl
    have d01 := b0 1 _ rfl
    clear HS b00 b0
    by_cases hlt : s < p
    · have hsi : (s : Int) < (p : Int) := by omega
      have hs0 : (0 : Int) ≤ (s : Int) := by omega
      obtain ⟨b, off, rfl, hbl, hc⟩ := (h.out.below hS.base).at_ (k := s) (by rw [HP.out]; exact hlt)
      have HQ := Lib.hid (fun k => HWS.out (wr.drewN k) s ((g.out.below hS.base).mono hS.size) (by omega))
      have HN := Lib.hid (HBN.out s hlt)
      have HA2 := Lib.hid (show (∀ k, k < s → weigh ws k m ≤ xs.getD k 0) → weigh ws s m ≤ xs.getD s 0 → ∀ k, k < s + 1 → weigh ws k m ≤ xs.getD k 0 from fun h1 h2 k hk => by
        rcases Nat.lt_or_ge k s with h3 | h3
        · exact h1 k h3
        · obtain rfl : k = s := by omega
          exact h2)
      have HA3 := Lib.hid (fun h2 => HA2.out HALL.out h2)
      clear HA2
      generalize xs.getD s 0 = x at hc HN HA3
      generalize weigh ws s m = y at HQ HN HA3
      have HR := Lib.hid hS
      clear hS
      by_cases hgt : x < y
      · have HN2 := Lib.hid (HN.out hgt)
        go_wp2
        go_quiet ((go_at_call 87; exact quiet_gives (HQ.out _)))
        go_wp2
        go_ret
        exact ⟨by rw [HN2.out]; rfl, (HR.out.drewN _).base⟩
      · have HA4 := Lib.hid (HA3.out (by omega))
        go_wp2
        go_quiet ((go_at_call 87; exact quiet_gives (HQ.out _)))
        go_wp2
        go_roundw
        case rel => exact ⟨s + 1, by go_num, by omega, HA4, HR.out.drewN _⟩
        case measure => simp [intOf]; omega
    · obtain rfl : s = p := by omega
      have hsi : ¬ (s : Int) < (s : Int) := by omega
      have HB := Lib.hid ((HBA.out s).2 HALL.out)
      have HR := Lib.hid hS
      clear hS
      go_wp2
      go_ret
      exact ⟨by rw [HB.out]; rfl, HR.out.base⟩

theorem belowS_any : Calls Tryz.prog 66 #[.agg #[.int .i64 n, .slice A xs.length cap], .slice D ws.length dap] w (RetV w (.bool (isBelow n xs ws))) := by
  unfold isBelow
  cases q1 : isGround n xs
  · exact belowS_no n A xs cap D ws dap w h g hl (.inl q1)
  · by_cases q2 : (ws.length : Int) = n
    · cases q3 : isVec5 ws
      · rw [Bool.false_and, Bool.and_false, Bool.and_false]
        exact belowS_no n A xs cap D ws dap w h g hl (.inr (.inr ⟨q1, q2, q3⟩))
      · rw [decide_eq_true q2, Bool.true_and, Bool.true_and, Bool.true_and]
        exact belowS_yes n A xs cap D ws dap w h g hl q1 q2 q3
    · rw [decide_eq_false q2, Bool.false_and, Bool.and_false]
      exact belowS_no n A xs cap D ws dap w h g hl (.inr (.inl ⟨q1, q2⟩))

end


end Go.Proofs.YtffbiflgmlabaaaGreatDoor.C
