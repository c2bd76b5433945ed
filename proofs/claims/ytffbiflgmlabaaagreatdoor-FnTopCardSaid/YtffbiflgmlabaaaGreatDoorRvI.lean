/-
  The contracts of impl.raise and impl.RaiseVector: numbers raised through pointers.
-/
import Derived.Test.YtffbiflgmlabaaaGreatDoorImB
import Derived.Test.YtffbiflgmlabaaaGreatDoorDuA
import Derived.Test.YtffbiflgmlabaaaGreatDoorImA
import Derived.StillTailTactics
namespace Go.Proofs.YtffbiflgmlabaaaGreatDoor.C
open Go.RowKit K M
set_option linter.unusedVariables false
set_option linter.unusedSimpArgs false
set_option linter.unusedSectionVars false

theorem raise_keep (b off : Nat) (x d m : Int) (w : World) (hc : w.cell? ⟨b, off, none⟩ = some (.int .i64 x)) (hm : ¬ x < m) :
    Calls Tryz.prog 65 #[.pointer (some ⟨b, off, none⟩), .int .i64 d, .int .i64 m] w fun e w' => e = .returned (.tuple #[]) ∧ w = w' := by
  go_enter Tryz.func65, Tryz.ntmps65
  go_wp2
  exact bodyPost_end (v := .tuple #[]) (by simp [results, Tryz.results65, go_sem]) rfl ⟨rfl, rfl⟩

theorem raise_up (b off : Nat) (x d m y : Int) (w : World) (hc : w.cell? ⟨b, off, none⟩ = some (.int .i64 x)) (hf : w.frozen? ⟨b, off, none⟩ = false) (hm : x < m) (hw : IntKind.i64.wrap (x + d) = x + d) (hy : min m (x + d) = y) :
    Calls Tryz.prog 65 #[.pointer (some ⟨b, off, none⟩), .int .i64 d, .int .i64 m] w fun e w' => e = .returned (.tuple #[]) ∧ w.setCell ⟨b, off, none⟩ (.int .i64 y) = w' := by
  by_cases hlt : m < x + d
  · obtain rfl : m = y := by omega
    clear hy
    go_enter Tryz.func65, Tryz.ntmps65
    go_wp2
    exact bodyPost_end (v := .tuple #[]) (by simp [results, Tryz.results65, go_sem]) rfl ⟨rfl, rfl⟩
  · obtain rfl : x + d = y := by omega
    clear hy
    go_enter Tryz.func65, Tryz.ntmps65
    go_wp2
    exact bodyPost_end (v := .tuple #[]) (by simp [results, Tryz.results65, go_sem]) rfl ⟨rfl, rfl⟩


section

variable (N : Nat) (A : Option Addr) (xs : List Int) (cap : Nat) (D : Option Addr) (ws : List Int) (dap : Nat) (w : World) (bl : Bl N xs ws) (h : Hid (Ints w w.heap.size A xs)) (g : Hid (Ints w w.heap.size D ws)) (hbr : Hid (Brujn w))
include bl h g hbr
/-- The least difference of the sets with an element is its capacity. -/
theorem slackE_any (e : Nat) (he : e < N) : Calls Tryz.prog 62 #[.agg #[.int .i64 (N : Int), .slice A xs.length cap], .slice D ws.length dap, .int .i64 (0 ||| 2 ^ e : Nat), .int .i64 0] w (RetV w (.int .i64 (capE xs ws e))) := by
  obtain ⟨q1, q2, q3, -⟩ := isBelow_yes bl.is
  have h32 : 2 ^ N ≤ 32 := Nat.le_trans (Nat.pow_le_pow_right (by decide) bl.five) (by decide)
  have h5 := bl.five
  have hfl := freeOne_lt N (by omega) e he
  have hE32 : 0 ||| 2 ^ e < 32 := by
    rw [Nat.zero_or]
    exact Nat.lt_of_lt_of_le (Nat.pow_lt_pow_right (by decide) he) h32
  have key := leastSlackI_any (N : Int) A xs cap D ws dap w h g hbr q1 q2 q3 (0 ||| 2 ^ e) 0 (freeOne N e) hE32 (by decide) (by rw [Int.toNat_natCast]; rfl) (by omega) (fun x hx => by rw [Int.toNat_natCast]; exact (one_in h5 he x hx).1)
  have e2 : capE xs ws e = slackV xs ws (0 ||| 2 ^ e) (leastTo (slackV xs ws (0 ||| 2 ^ e)) (freeOne N e) (freeOne N e)) :=
    cap_least (c := 0 ||| 2 ^ e) (F := freeOne N e) bl.lx (one_in h5 he) (one_out N (by omega) e he) (fun s hs => by have := slack_bd bl.bx q3 s (by rw [bl.lx]; exact hs); omega)
  rw [e2]
  exact key

end



section

variable (n : Int) (A : Option Addr) (xs : List Int) (cap : Nat) (D : Option Addr) (ws : List Int) (dap : Nat) (E : Option Addr) (ms : List Int) (eap : Nat) (w : World) (h : Hid (Ints w w.heap.size A xs)) (g : Hid (Ints w w.heap.size D ws)) (k : Hid (Ints w w.heap.size E ms)) (hl : ws.length ≤ 1048576) (hml : ms.length ≤ 1048576) (hbr : Hid (Brujn w))
include h g k hl hml hbr

set_option maxRecDepth 100000 in
set_option maxHeartbeats 1600000 in
theorem raiseI_no (q : isSub n xs = false ∨ (isSub n xs = true ∧ isBelow n xs ws = false) ∨ (isSub n xs = true ∧ isBelow n xs ws = true ∧ (isVec5 ms = false ∨ ms.length ≠ ws.length))) :
    Calls Tryz.prog 44 #[.agg #[.int .i64 n, .slice A xs.length cap], .slice D ws.length dap, .slice E ms.length eap] w (RetIB w [] false) := by
  have HW := Lib.hid (St.start w)
  have HG := Lib.hid (fun W h1 => subI_any n A xs cap W (Lib.hid h1))
  have HB := Lib.hid (fun W h1 h2 h3 => belowI_any n A xs cap D ws dap W (Lib.hid h1) (Lib.hid h2) hl (Lib.hid h3))
  rcases q with q | ⟨q, q2⟩ | ⟨q, q2, q3⟩
  all_goals (rw [q] at HG)
  all_goals (try rw [q2] at HB)
  · clear q
    go_enter Tryz.func44, Tryz.ntmps44
    go_wp2_with (go_at_call 8; refine St.use (w0 := w) (by exact HW.out.alloc _ _) ?_; intro hS; refine (HG.out _ ((h.out.below hS.base).mono hS.size)).mono ?_; rintro e w1 ⟨rfl, hb⟩; have HS := Lib.hid (hS.below hb); clear hS hb)
    exact bodyPost_ret (v := .tuple #[.slice none 0 0, .bool false]) (by simp [results, Tryz.results44, go_sem]) rfl ⟨none, 0, rfl, K.Own.nil _ _, HS.out.base⟩
  · clear q q2
    go_enter Tryz.func44, Tryz.ntmps44
    go_wp2_with (first
      | (go_at_call 8; refine St.use (w0 := w) (by exact HW.out.alloc _ _) ?_; intro hS; refine (HG.out _ ((h.out.below hS.base).mono hS.size)).mono ?_; rintro e w1 ⟨rfl, hb⟩; have hS1 := hS.below hb; obtain ⟨b0, -⟩ := hS1.box (i := 0) rfl; have b00 := b0 0 _ rfl; have b01 := b0 1 _ rfl; have HS := Lib.hid hS1; clear hS hb hS1 b0)
      | (go_at_call 40; refine (HB.out _ ((h.out.below HS.out.base).mono HS.out.size) ((g.out.below HS.out.base).mono HS.out.size) (brujn_on hbr.out HS.out.base)).mono ?_; rintro e w2 ⟨rfl, hb⟩; have HS2 := Lib.hid (HS.out.below hb); clear hb b00 b01))
    exact bodyPost_ret (v := .tuple #[.slice none 0 0, .bool false]) (by simp [results, Tryz.results44, go_sem]) rfl ⟨none, 0, rfl, K.Own.nil _ _, HS2.out.base⟩
  · have bn := (isBelow_yes q2).2.1
    have b5 := isVec5_yes (isBelow_yes q2).2.2.1
    have HV : Hid (∀ W, Ints W W.heap.size E ms → Calls Tryz.prog 61 #[.slice E ms.length eap, .int .i64 n] W fun e w' => e = .returned (.bool false) ∧ W = w') := by
      refine Lib.hid fun W h1 => ?_
      by_cases hq : (ms.length : Int) = n
      · rw [← hq]
        refine bvI_no E ms eap W (Lib.hid h1) hml fun hv => ?_
        rcases q3 with q3 | q3
        · rw [isVec5_mk (by omega) hv] at q3
          cases q3
        · omega
      · exact bvI_ne n E ms eap W hq
    clear q q2 q3 bn b5
    go_enter Tryz.func44, Tryz.ntmps44
    go_wp2_with (first
      | (go_at_call 8; refine St.use (w0 := w) (by exact HW.out.alloc _ _) ?_; intro hS; refine (HG.out _ ((h.out.below hS.base).mono hS.size)).mono ?_; rintro e w1 ⟨rfl, hb⟩; have hS1 := hS.below hb; obtain ⟨b0, -⟩ := hS1.box (i := 0) rfl; have b00 := b0 0 _ rfl; have b01 := b0 1 _ rfl; have HS := Lib.hid hS1; clear hS hb hS1 b0)
      | (go_at_call 40; refine (HB.out _ ((h.out.below HS.out.base).mono HS.out.size) ((g.out.below HS.out.base).mono HS.out.size) (brujn_on hbr.out HS.out.base)).mono ?_; rintro e w2 ⟨rfl, hb⟩; have hS2 := HS.out.below hb; obtain ⟨b0, -⟩ := hS2.box (i := 0) rfl; have c00 := b0 0 _ rfl; have HS2 := Lib.hid hS2; clear hb b00 b01 hS2 b0)
      | (go_at_call 61; refine (HV.out _ ((k.out.below HS2.out.base).mono HS2.out.size)).mono ?_; rintro e w3 ⟨rfl, rfl⟩))
    exact bodyPost_ret (v := .tuple #[.slice none 0 0, .bool false]) (by simp [results, Tryz.results44, go_sem]) rfl ⟨none, 0, rfl, K.Own.nil _ _, HS2.out.base⟩

set_option maxRecDepth 100000 in
set_option maxHeartbeats 8000000 in
theorem raiseI_yes (q1 : isSub n xs = true) (q2 : isBelow n xs ws = true) (q3 : isVec5 ms = true) (q4 : ms.length = ws.length) :
    Calls Tryz.prog 44 #[.agg #[.int .i64 n, .slice A xs.length cap], .slice D ws.length dap, .slice E ms.length eap] w (RetIB w (raiseTo xs ws ms ws.length) true) := by
  have HW := Lib.hid (St.start w)
  have HG := Lib.hid (fun W h1 => subI_any n A xs cap W (Lib.hid h1))
  have HB := Lib.hid (fun W h1 h2 h3 => belowI_any n A xs cap D ws dap W (Lib.hid h1) (Lib.hid h2) hl (Lib.hid h3))
  rw [q1] at HG
  rw [q2] at HB
  obtain ⟨h0, -, -, -⟩ := isFn_yes (ground_fn (isBelow_yes q2).1)
  obtain ⟨N, rfl⟩ := Int.eq_ofNat_of_zero_le h0
  have bl := bl_of q2
  obtain ⟨-, hmv⟩ := isVec5_yes q3
  have hmN : ms.length = N := by rw [q4, bl.len]
  have HV := Lib.hid (fun W h1 => bvI_yes E ms eap W (Lib.hid h1) hml hmv)
  have hBL := raise_bl bl (fun k hk => (hmv k (by omega)).2)
  have h5 := bl.five
  have HCP := Lib.hid (fun (k : Nat) (hk : k < N) W V v h1 h2 h3 => slackE_any N A xs cap V (raiseTo xs ws ms k) v W (hBL k (by omega)) (Lib.hid h1) (Lib.hid h2) (Lib.hid h3) k hk)
  have HWI := Lib.hid (fun (k : Nat) (hk : k < N) W => with_any 0 (k : Int) W (by decide) (by decide) (by omega) (by omega))
  have HWE := Lib.hid (fun (k : Nat) => show withE 0 (k : Int) = 0 ||| 2 ^ k from rfl)
  have HCB := Lib.hid (fun (k : Nat) (hk : k < N) => capE_pos (hBL k (by omega)) k)
  have HCU := Lib.hid (fun (k : Nat) (hk : k < N) => show capE xs (raiseTo xs ws ms k) k ≤ 100000 from by
    rcases capE_at (hBL k (by omega)) k with h1 | ⟨S, s1, -, s3⟩
    · omega
    · have b1 := (hBL k (by omega)).bx S (by rw [bl.lx]; exact s1)
      have b2 := vec5_weigh (isBelow_yes (hBL k (by omega)).is).2.2.1 S
      rw [(hBL k (by omega)).len] at b2
      omega)
  have HBW := Lib.hid (fun (k : Nat) (hk : k < N) => (hBL k (by omega)).bw k hk)
  have HMV := Lib.hid (fun (k : Nat) (hk : k < N) => hmv k (by omega))
  have HST := Lib.hid (fun k => show raiseTo xs ws ms (k + 1) = if (raiseTo xs ws ms k).getD k 0 < ms.getD k 0 then (raiseTo xs ws ms k).set k (min (ms.getD k 0) ((raiseTo xs ws ms k).getD k 0 + capE xs (raiseTo xs ws ms k) k)) else raiseTo xs ws ms k from rfl)
  have HLE := Lib.hid (fun k => show (raiseTo xs ws ms k).length = N by rw [raise_len, bl.len])
  have hz : raiseTo xs ws ms 0 = ws := rfl
  have hwN := bl.len
  have HWN := Lib.hid hwN
  have HMN := Lib.hid hmN
  rw [hwN] at HB ⊢
  rw [hmN] at HV ⊢
  generalize raiseTo xs ws ms = f at *
  clear q1 q2 q3 q4 bl hBL hmv hml hl hwN hmN h0
  obtain ⟨i0, hi, hi0, hi1, hi2⟩ := info_parts info_int
  go_enter Tryz.func44, Tryz.ntmps44
  go_wp2_with (first
    | (go_at_call 8; refine St.use (w0 := w) (by exact HW.out.alloc _ _) ?_; intro hS; refine (HG.out _ ((h.out.below hS.base).mono hS.size)).mono ?_; rintro e w1 ⟨rfl, hb⟩; have hS1 := hS.below hb; obtain ⟨b0, -⟩ := hS1.box (i := 0) rfl; have b00 := b0 0 _ rfl; have b01 := b0 1 _ rfl; have HS := Lib.hid hS1; clear hS hb hS1 b0)
    | (go_at_call 40; refine (HB.out _ ((h.out.below HS.out.base).mono HS.out.size) ((g.out.below HS.out.base).mono HS.out.size) (brujn_on hbr.out HS.out.base)).mono ?_; rintro e w2 ⟨rfl, hb⟩; have hS2 := HS.out.below hb; obtain ⟨b0, -⟩ := hS2.box (i := 0) rfl; have c00 := b0 0 _ rfl; have HS2 := Lib.hid hS2; clear hb b00 b01 hS2 b0)
    | (go_at_call 61; refine (HV.out _ ((k.out.below HS2.out.base).mono HS2.out.size)).mono ?_; rintro e w3 ⟨rfl, rfl⟩)
    | (refine wpList_make_full _ rfl _ _ _ rfl w2.heap.size 3 i0 (.int .i64 0) 1 Tryz.underlying24 hi hi0 hi1 .i64 .i64 _ _ N rfl rfl rfl rfl (by rw [hi2]; omega) (by unfold maxLen; omega) (by simp) ?_; intro w4 hown1 hg1; rw [zeros] at hown1; have HS3 := Lib.hid (show St w w4 [il (.slice (some ⟨w2.heap.size, 0, none⟩) N N) N (List.replicate N 0), bx w.heap.size 26 [.int .i64 (N : Int), .slice A xs.length cap]] from (HS2.out.new ((Below.refl _ _).grown hg1 (Nat.le_refl _) (by simp)) hown1)); clear hown1 hg1 c00)
    | (refine wpList_copyI (o' := ⟨some 31, _, _, _, _, _⟩) rfl (.tmp 29) (.tmp 30) 24 rfl Tryz.underlying24 (by kernel_rfl) HS3.out (i := 0) rfl ((g.out.below HS3.out.base).mono HS3.out.size) HWN.out rfl rfl ?_; intro w5 hS; have HS4 := Lib.hid hS; clear hS))
  generalize w2.heap.size = G at *
  go_loopw [34] (fun i wr => ∃ j : Nat, i = .int .i64 j ∧ j ≤ N ∧ St w wr [il (.slice (some ⟨G, 0, none⟩) N N) N (f j), bx w.heap.size 26 [.int .i64 (N : Int), .slice A xs.length cap]]) (fun i _ => N - (intOf i).toNat)
  case atStart => exact ⟨0, rfl, Nat.zero_le _, by rw [hz]; exact HS4.out⟩
  case round =>
    obtain ⟨j, rfl, hj, hS⟩ := hrel
    obtain ⟨b0, -⟩ := hS.box (i := 1) rfl
    have d00 := b0 0 _ rfl
    have d01 := b0 1 _ rfl
    clear b0 HS4 hz HS3
    have HR := Lib.hid hS
    clear hS
    by_cases hlt : j < N
    · have hji : (j : Int) < (N : Int) := by omega
      have hj0 : (0 : Int) ≤ (j : Int) := by omega
      have HQ := HCP.out j hlt
      have HQW := HWI.out j hlt
      have hwe := HWE.out j
      have hcb := HCB.out j hlt
      have hcu := HCU.out j hlt
      have hbw := HBW.out j hlt
      have hmv := HMV.out j hlt
      have hst := HST.out j
      rw [HLE.out j] at HQ
      rw [hwe] at HQW
      have HCALL := Lib.hid HQ
      have HCW := Lib.hid HQW
      clear HQ HQW hwe
      generalize (0 ||| 2 ^ j : Nat) = c at *
      generalize capE xs (f j) j = cv at *
      obtain ⟨bm, om, rfl, hbm, hcm⟩ := k.out.at_ (k := j) (by rw [HMN.out]; exact hlt)
      generalize ms.getD j 0 = y at *
      have hcm2 := (HR.out.base.cell (p := ⟨bm, om + j, none⟩) hbm).trans hcm
      have hbm2 : bm < wr.heap.size := Nat.lt_of_lt_of_le hbm HR.out.size
      have HCM := Lib.hid hcm
      clear hcm
      generalize hx : (f j).getD j 0 = x at *
      have HX := Lib.hid hx
      obtain ⟨z, hzz⟩ : ∃ z, min y (x + cv) = z := ⟨_, rfl⟩
      rw [hzz] at hst
      have hw : IntKind.i64.wrap (x + cv) = x + cv := IntWalk.i64_in _ (by omega)
      by_cases hxy : x < y
      · rw [if_pos hxy] at hst
        have HST2 := Lib.hid hst
        have HUP := Lib.hid (fun W hc hf => raise_up G j x cv y z W hc hf hxy hw hzz)
        clear hst hx hzz hw hxy
        go_wp2_with fail
        go_region_held3 (fun w' => w'.cell? ⟨w.heap.size, 0, none⟩ = some (.int .i64 (N : Int)) ∧ w'.cell? ⟨w.heap.size, 1, none⟩ = some (.slice A xs.length cap) ∧ w'.cell? ⟨bm, om + j, none⟩ = some (.int .i64 y)) (first | (refine ⟨?_, ?_, ?_⟩ <;> assumption) | assumption | go_keep)
          (first
            | (go_at_call 55; refine (HCW.out _).mono ?_; rintro e w' ⟨rfl, rfl⟩)
            | (go_at_call 62; have HSD := Lib.hid (HR.out.drew); refine (HCALL.out _ _ _ ?_ ?_ ?_).mono ?_; (first | exact (h.out.below HSD.out.base).mono HSD.out.size | exact (h.out.below HR.out.base).mono HR.out.size); (first | exact HSD.out.ints (i := 0) rfl | exact HR.out.ints (i := 0) rfl); (first | exact brujn_on hbr.out HSD.out.base | exact brujn_on hbr.out HR.out.base); rintro e w6 ⟨rfl, hb⟩; have hS6 := HSD.out.below hb; obtain ⟨b0, -⟩ := hS6.box (i := 1) rfl; have e00 := b0 0 _ rfl; have e01 := b0 1 _ rfl; have e02 := (hS6.base.cell (p := ⟨bm, om + j, none⟩) hbm).trans HCM.out; have HS6 := Lib.hid hS6; clear hb b0 hS6)
            | (go_at_call 65; refine (HUP.out _ ?_ ?_).mono ?_; exact HX.out ▸ (HS6.out.cellI (i := 0) rfl hlt).1; exact (HS6.out.cellI (i := 0) rfl hlt).2; rintro e w7 ⟨rfl, rfl⟩; have hS7 := HS6.out.setI (i := 0) rfl j z; obtain ⟨b0, -⟩ := hS7.box (i := 1) rfl; have g00 := b0 0 _ rfl; have g01 := b0 1 _ rfl; have g02 := (hS7.base.cell (p := ⟨bm, om + j, none⟩) hbm).trans HCM.out; have HS7 := Lib.hid hS7; clear b0 hS7))
        go_wp2
        go_roundw
        case rel => exact ⟨j + 1, by go_num, by omega, by rw [HST2.out]; exact HS7.out⟩
        case measure => simp [intOf]; omega
      · rw [if_neg hxy] at hst
        have HST2 := Lib.hid hst
        have HUP := Lib.hid (fun W hc => raise_keep G j x cv y W hc hxy)
        clear hst hx hzz hw hxy
        go_wp2_with fail
        go_region_held3 (fun w' => w'.cell? ⟨w.heap.size, 0, none⟩ = some (.int .i64 (N : Int)) ∧ w'.cell? ⟨w.heap.size, 1, none⟩ = some (.slice A xs.length cap) ∧ w'.cell? ⟨bm, om + j, none⟩ = some (.int .i64 y)) (first | (refine ⟨?_, ?_, ?_⟩ <;> assumption) | assumption | go_keep)
          (first
            | (go_at_call 55; refine (HCW.out _).mono ?_; rintro e w' ⟨rfl, rfl⟩)
            | (go_at_call 62; have HSD := Lib.hid (HR.out.drew); refine (HCALL.out _ _ _ ?_ ?_ ?_).mono ?_; (first | exact (h.out.below HSD.out.base).mono HSD.out.size | exact (h.out.below HR.out.base).mono HR.out.size); (first | exact HSD.out.ints (i := 0) rfl | exact HR.out.ints (i := 0) rfl); (first | exact brujn_on hbr.out HSD.out.base | exact brujn_on hbr.out HR.out.base); rintro e w6 ⟨rfl, hb⟩; have hS6 := HSD.out.below hb; obtain ⟨b0, -⟩ := hS6.box (i := 1) rfl; have e00 := b0 0 _ rfl; have e01 := b0 1 _ rfl; have e02 := (hS6.base.cell (p := ⟨bm, om + j, none⟩) hbm).trans HCM.out; have HS6 := Lib.hid hS6; clear hb b0 hS6)
            | (go_at_call 65; refine (HUP.out _ ?_).mono ?_; exact HX.out ▸ (HS6.out.cellI (i := 0) rfl hlt).1; rintro e w7 ⟨rfl, rfl⟩))
        go_wp2
        go_roundw
        case rel => exact ⟨j + 1, by go_num, by omega, by rw [HST2.out]; exact HS6.out⟩
        case measure => simp [intOf]; omega
    · obtain rfl : j = N := by omega
      have hji : ¬ (j : Int) < (j : Int) := by omega
      have hln := HLE.out j
      go_wp2
      exact bodyPost_ret (v := .tuple #[.slice (some ⟨G, 0, none⟩) j j, .bool true]) (by simp [results, Tryz.results44, go_sem]) rfl ⟨_, _, by rw [hln], by rw [hln]; exact HR.out.ownI (i := 0) rfl, HR.out.base⟩

theorem raiseI_any : Calls Tryz.prog 44 #[.agg #[.int .i64 n, .slice A xs.length cap], .slice D ws.length dap, .slice E ms.length eap] w (RetIB w (raiseVec n xs ws ms).1 (raiseVec n xs ws ms).2) := by
  unfold raiseVec
  cases q1 : isSub n xs
  · rw [if_neg (by simp)]
    exact raiseI_no n A xs cap D ws dap E ms eap w h g k hl hml hbr (.inl q1)
  · cases q2 : isBelow n xs ws
    · rw [if_neg (by simp)]
      exact raiseI_no n A xs cap D ws dap E ms eap w h g k hl hml hbr (.inr (.inl ⟨q1, q2⟩))
    · cases q3 : isVec5 ms
      · rw [if_neg (by simp)]
        exact raiseI_no n A xs cap D ws dap E ms eap w h g k hl hml hbr (.inr (.inr ⟨q1, q2, .inl q3⟩))
      · by_cases q4 : ms.length = ws.length
        · rw [if_pos ⟨rfl, rfl, rfl, q4⟩]
          exact raiseI_yes n A xs cap D ws dap E ms eap w h g k hl hml hbr q1 q2 q3 q4
        · rw [if_neg fun hh => q4 hh.2.2.2]
          exact raiseI_no n A xs cap D ws dap E ms eap w h g k hl hml hbr (.inr (.inr ⟨q1, q2, .inr q4⟩))

end


theorem raiseV_len (n : Int) (xs ws ms : List Int) : (raiseVec n xs ws ms).1.length ≤ 1048576 := by
  unfold raiseVec
  split
  · rename_i hh
    have := (isVec5_yes (isBelow_yes hh.2.1).2.2.1).1
    show (raiseTo xs ws ms ws.length).length ≤ 1048576
    rw [raise_len]
    omega
  · simp
theorem dualV_len (n : Int) (xs : List Int) : (dualVec n xs).1.length ≤ 1048576 := by
  unfold dualVec
  split
  · rename_i hh
    have := ground_parts hh.1
    show (raiseTo xs (List.replicate n.toNat (-2000)) (List.replicate n.toNat 0) n.toNat).length ≤ 1048576
    rw [raise_len, List.length_replicate]
    omega
  · simp

end Go.Proofs.YtffbiflgmlabaaaGreatDoor.C
