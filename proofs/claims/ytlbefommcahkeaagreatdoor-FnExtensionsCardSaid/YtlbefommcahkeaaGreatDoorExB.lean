/-
  The contract of spec.ExtensionAt.
  The contract of spec.IsConvexAt.
-/
import Derived.Test.YtlbefommcahkeaaGreatDoorExA
import Derived.Test.YtlbefommcahkeaaGreatDoorAllM
namespace Go.Proofs.YtlbefommcahkeaaGreatDoor.C
open Go.RowKit K M
set_option linter.unusedVariables false
set_option linter.unusedSimpArgs false
set_option linter.unusedSectionVars false


section

variable (n : Int) (A : Option Addr) (xs : List Int) (cap : Nat) (D : Option Addr) (ws : List Int) (dap : Nat) (w : World) (h : Hid (Ints w w.heap.size A xs)) (g : Hid (Ints w w.heap.size D ws)) (hl : ws.length ≤ 1048576)
include h g hl
set_option maxRecDepth 100000 in
set_option maxHeartbeats 1600000 in
theorem extS_vec (hv : isVec ws = false) : Calls Tryz.prog 7 #[.agg #[.int .i64 n, .slice A xs.length cap], .slice D ws.length dap] w (RetV w (.tuple #[.int .i64 0, .bool false])) := by
  have HW := Lib.hid (St.start w)
  have HO := Lib.hid (fun W h1 => ordS_any D ws dap W (Lib.hid h1) hl)
  have e : orderFor ws = ([], false) := by unfold orderFor; rw [hv]; rfl
  rw [e] at HO
  clear hv e
  go_enter Tryz.func7, Tryz.ntmps7
  go_wp2_with (go_at_call 30; refine St.use (w0 := w) (by exact HW.out.alloc _ _) ?_; intro hS; (try simp only [World.size_alloc] at hS); refine (HO.out _ ((g.out.below hS.base).mono hS.size)).mono ?_; rintro e w2 ⟨V, c, rfl, ho, hb⟩; have HS := Lib.hid (hS.newI hb ho); clear hS ho hb)
  go_ret2
  exact ⟨rfl, HS.out.base⟩

set_option maxRecDepth 100000 in
set_option maxHeartbeats 1600000 in
theorem extS_fn (hv : isVec ws = true) (hf : isFn n xs = false) : Calls Tryz.prog 7 #[.agg #[.int .i64 n, .slice A xs.length cap], .slice D ws.length dap] w (RetV w (.tuple #[.int .i64 0, .bool false])) := by
  have HW := Lib.hid (St.start w)
  have HO := Lib.hid (fun W h1 => ordS_any D ws dap W (Lib.hid h1) hl)
  have e : (orderFor ws).2 = true := by unfold orderFor; rw [hv]; rfl
  rw [e] at HO
  have HF := Lib.hid hf
  clear hv e hf
  generalize (orderFor ws).1 = os at HO
  go_enter Tryz.func7, Tryz.ntmps7
  go_wp2_with (first
    | (go_at_call 30; refine St.use (w0 := w) (by exact HW.out.alloc _ _) ?_; intro hS; (try simp only [World.size_alloc] at hS); refine (HO.out _ ((g.out.below hS.base).mono hS.size)).mono ?_; rintro e w2 ⟨V, c, rfl, ho, hb⟩; have hS1 := hS.newI hb ho; obtain ⟨b0, -⟩ := hS1.box (i := 1) rfl; have b00 := b0 0 _ rfl; have b01 := b0 1 _ rfl; have HS := Lib.hid hS1; clear hS ho hb hS1 b0)
    | (go_at_call 8; refine (isFnS_no n A xs cap _ (Lib.hid ((h.out.below HS.out.base).mono HS.out.size)) HF.out).mono ?_; rintro e w3 ⟨rfl, hb⟩; have HS2 := Lib.hid (HS.out.below hb); clear hb))
  go_ret2
  exact ⟨rfl, HS2.out.base⟩

set_option maxRecDepth 100000 in
set_option maxHeartbeats 1600000 in
theorem extS_len (hv : isVec ws = true) (hf : isFn n xs = true) (hn : (ws.length : Int) ≠ n) : Calls Tryz.prog 7 #[.agg #[.int .i64 n, .slice A xs.length cap], .slice D ws.length dap] w (RetV w (.tuple #[.int .i64 0, .bool false])) := by
  have HW := Lib.hid (St.start w)
  have HO := Lib.hid (fun W h1 => ordS_any D ws dap W (Lib.hid h1) hl)
  have e : (orderFor ws).2 = true := by unfold orderFor; rw [hv]; rfl
  rw [e] at HO
  have HF := Lib.hid hf
  have hne : ((ws.length : Int) != n) = true := bne_iff_ne.2 hn
  clear hv e hf hn
  generalize (orderFor ws).1 = os at HO
  go_enter Tryz.func7, Tryz.ntmps7
  go_wp2_with (first
    | (go_at_call 30; refine St.use (w0 := w) (by exact HW.out.alloc _ _) ?_; intro hS; (try simp only [World.size_alloc] at hS); refine (HO.out _ ((g.out.below hS.base).mono hS.size)).mono ?_; rintro e w2 ⟨V, c, rfl, ho, hb⟩; have hS1 := hS.newI hb ho; obtain ⟨b0, -⟩ := hS1.box (i := 1) rfl; have b00 := b0 0 _ rfl; have b01 := b0 1 _ rfl; have HS := Lib.hid hS1; clear hS ho hb hS1 b0)
    | (go_at_call 8; refine (isFnS_yes n A xs cap _ (Lib.hid ((h.out.below HS.out.base).mono HS.out.size)) HF.out).mono ?_; rintro e w3 ⟨rfl, hb⟩; have hS1 := HS.out.below hb; obtain ⟨b0, -⟩ := hS1.box (i := 1) rfl; have c00 := b0 0 _ rfl; have c01 := b0 1 _ rfl; have HS2 := Lib.hid hS1; clear hb hS1 b0 b00 b01))
  go_ret2
  exact ⟨rfl, HS2.out.base⟩

set_option maxRecDepth 100000 in
set_option maxHeartbeats 4000000 in
theorem extS_good (ok : extOk n xs ws = true) : Calls Tryz.prog 7 #[.agg #[.int .i64 n, .slice A xs.length cap], .slice D ws.length dap] w (RetV w (.tuple #[.int .i64 (extV xs ws), .bool true])) := by
  obtain ⟨hv, hf, hn⟩ := extOk_yes ok
  obtain ⟨-, -, hxl, hxv⟩ := isFn_yes hf
  obtain ⟨h5, hwv⟩ := isVec_yes hv
  have HW := Lib.hid (St.start w)
  have HO := Lib.hid (fun W h1 => ordS_any D ws dap W (Lib.hid h1) hl)
  have e : orderFor ws = (nats (ordN ws ws.length), true) := by unfold orderFor; rw [hv]; rfl
  rw [e] at HO
  have HF := Lib.hid hf
  have hne : ((ws.length : Int) != n) = false := bne_eq_false_iff_eq.2 hn
  have hxp : xs.length = 2 ^ ws.length := by rw [hxl, ← hn, Int.toNat_natCast]
  have h32 := (isFn_len hf).2
  have hpm := ordF_pm ws
  have HOA := Lib.hid (fun i (hi : i < ws.length) => show (nats (ordN ws ws.length)).getD i 0 = (ordF ws i : Int) by rw [nats_at (by rw [ordN_len]; exact hi)]; rfl)
  have hol : (nats (ordN ws ws.length)).length = ws.length := by rw [nats_len, ordN_len]
  obtain ⟨f, hfn⟩ : ∃ f : Nat → Int, f = fun i => ws.getD (ordF ws i) 0 * dl xs (ordF ws) i := ⟨_, rfl⟩
  have HFN := Lib.hid (fun i => show f i = ws.getD (ordF ws i) 0 * (xs.getD (pre (ordF ws) i ||| 2 ^ ordF ws i) 0 - xs.getD (pre (ordF ws) i) 0) by rw [hfn]; rfl)
  have hev : extV xs ws = xs.getD 0 0 + sm f ws.length := by rw [hfn]; rfl
  rw [hev]
  have hpl := Lib.hid (fun i (hi : i ≤ ws.length) => show pre (ordF ws) i < xs.length by rw [hxp]; exact pre_lt i fun k hk => hpm.lt k (by omega))
  have HPS := Lib.hid (fun i => show pre (ordF ws) (i + 1) = pre (ordF ws) i ||| 2 ^ ordF ws i from rfl)
  have HXV := Lib.hid hxv
  have HWV := Lib.hid hwv
  have HB := Lib.hid (sm_bd (f := f) (b := 2000000) ws.length fun i hi => by
    have a1 := hwv _ (hpm.lt i hi)
    have a2 := hxv _ (hpl.out i (by omega))
    have a3 := hxv _ (hpl.out (i + 1) (by omega))
    rw [HPS.out] at a3
    rw [HFN.out]
    exact mul_bd2 a1.1 a1.2 (by omega) (by omega))
  have HLT := Lib.hid (hpm.lt)
  generalize ordF ws = o at *
  generalize nats (ordN ws ws.length) = os at *
  obtain ⟨m, hm⟩ : ∃ m, ws.length = m := ⟨_, rfl⟩
  obtain ⟨p, hp⟩ : ∃ p, xs.length = p := ⟨_, rfl⟩
  rw [hm] at HO hne hol h5 HB HLT HOA hpl ⊢
  rw [hp] at h32 hpl hxp ⊢
  have HX := Lib.hid hm
  have HY := Lib.hid hp
  have HL := Lib.hid hol
  clear e hv hf hn hxl hxv hwv hpm hfn hev hm hp hol ok hl hxp
  go_enter Tryz.func7, Tryz.ntmps7
  have hp0 : (0 : Int) < (p : Int) := by have := hpl.out 0 (Nat.zero_le _); omega
  obtain ⟨b, off, rfl, hbl, hc0⟩ := h.out.at_ (k := 0) (by rw [HY.out]; omega)
  have HC0 := Lib.hid hc0
  obtain ⟨x0, hx0⟩ : ∃ x0, xs.getD 0 0 = x0 := ⟨_, rfl⟩
  have hx0b := HXV.out 0 (by rw [HY.out]; omega)
  rw [hx0] at HC0 hx0b ⊢
  clear hc0
  go_wp2_with (first
    | (go_at_call 30; refine St.use (w0 := w) (by exact HW.out.alloc _ _) ?_; intro hS; (try simp only [World.size_alloc] at hS); refine (HO.out _ ((g.out.below hS.base).mono hS.size)).mono ?_; rintro e w2 ⟨V, c, rfl, ho, hb⟩; rw [HL.out] at ho ⊢; have hS1 := hS.newI hb ho; rw [HL.out] at hS1; obtain ⟨b0, -⟩ := hS1.box (i := 1) rfl; have b00 := b0 0 _ rfl; have b01 := b0 1 _ rfl; have HS := Lib.hid hS1; clear hS ho hb hS1 b0)
    | (go_at_call 8; rw [← HY.out]; refine (isFnS_yes n _ xs cap _ (Lib.hid ((h.out.below HS.out.base).mono HS.out.size)) HF.out).mono ?_; rintro e w3 ⟨rfl, hb⟩; have hS1 := HS.out.below hb; obtain ⟨b0, -⟩ := hS1.box (i := 1) rfl; have c00 := b0 0 _ rfl; have c01 := b0 1 _ rfl; have hcc := (hS1.base.cell (p := ⟨b, off + 0, none⟩) hbl).trans HC0.out; rw [Nat.add_zero] at hcc; have HS2 := Lib.hid hS1; clear hb hS1 b0 b00 b01))
  go_loopw [8, 9, 10] (fun nv sv iv wr => ∃ i : Nat, iv = .int .i64 i ∧ i ≤ m ∧ sv = .int .i64 (pre o i) ∧ nv = .int .i64 (x0 + sm f i) ∧ St w wr [il (.slice V m c) m os, bx w.heap.size 26 [.int .i64 n, .slice (some ⟨b, off, none⟩) p cap]]) (fun _ _ iv _ => m - (intOf iv).toNat)
  case atStart => exact ⟨0, rfl, Nat.zero_le _, rfl, by rw [sm, Int.add_zero], HS2.out⟩
  case round =>
    obtain ⟨i, rfl, hi, rfl, rfl, hS⟩ := hrel
    have HR := Lib.hid hS
    by_cases hlt : i < m
    · obtain ⟨b0, -⟩ := hS.box (i := 1) rfl
      have d00 := b0 0 _ rfl
      have d01 := b0 1 _ rfl
      obtain ⟨vb, vo, rfl, -, hco⟩ := (hS.ints (i := 0) rfl).at_ (k := i) (by rw [HL.out]; exact hlt)
      have hE := HOA.out i hlt
      have hEm := HLT.out i hlt
      have hs1 := hpl.out i hi
      have ht1 := hpl.out (i + 1) (by omega)
      rw [HPS.out i] at ht1
      have hfi := HFN.out i
      have hps := HPS.out i
      have hsm : sm f (i + 1) = sm f i + f i := rfl
      have hb1 := HB.out i (by omega)
      have hb2 := HB.out (i + 1) (by omega)
      rw [hE] at hco
      generalize o i = E at hE hEm ht1 hfi hps hco
      have ho1 := or_nat (pre o i) E (by omega) (by omega)
      generalize pre o i = S at hs1 ht1 hfi hps ho1 ⊢
      generalize S ||| 2 ^ E = T at ht1 hfi hps ho1
      obtain ⟨r, ro, rfl, hrl, hd⟩ := (g.out.below hS.base).at_ (k := E) (by rw [HX.out]; omega)
      obtain ⟨b', off', e', -, hcS⟩ := (h.out.below hS.base).at_ (k := S) (by rw [HY.out]; omega)
      obtain ⟨rfl, rfl⟩ : b = b' ∧ off = off' := by cases e'; exact ⟨rfl, rfl⟩
      obtain ⟨b', off', e'', -, hcT⟩ := (h.out.below hS.base).at_ (k := T) (by rw [HY.out]; omega)
      obtain ⟨rfl, rfl⟩ : b = b' ∧ off = off' := by cases e''; exact ⟨rfl, rfl⟩
      have q1 := HWV.out E (by rw [HX.out]; omega)
      have q2 := HXV.out S (by rw [HY.out]; omega)
      have q3 := HXV.out T (by rw [HY.out]; omega)
      generalize ws.getD E 0 = y at hd hfi q1
      generalize xs.getD S 0 = u at hcS hfi q2
      generalize xs.getD T 0 = v at hcT hfi q3
      generalize sm f i = z at hsm hb1 ⊢
      obtain ⟨z', hz'⟩ : ∃ z', sm f (i + 1) = z' := ⟨_, rfl⟩
      rw [hz'] at hsm hb2
      have HZ := Lib.hid hz'
      clear hz'
      generalize f i = k at hfi hsm
      have hmul := mul_bd2 q1.1 q1.2 (b := v - u) (by omega) (by omega)
      have hw1 : IntKind.i64.wrap (v - u) = v - u := IntWalk.i64_in _ (by omega)
      have hw2 : IntKind.i64.wrap (y * (v - u)) = k := by rw [hfi]; exact IntWalk.i64_in _ (by omega)
      rw [← hfi] at hmul
      have hw3 : IntKind.i64.wrap (x0 + z + k) = x0 + z' := by rw [hsm, Int.add_assoc]; exact IntWalk.i64_in _ (by omega)
      have g1 : (0 : Int) ≤ (i : Int) := by omega
      have g2 : (i : Int) < (m : Int) := by omega
      have g3 : (0 : Int) ≤ (E : Int) := by omega
      have g4 : (E : Int) < (m : Int) := by omega
      have g5 : (E : Int) < 64 := by omega
      have g6 : (0 : Int) ≤ (S : Int) := by omega
      have g7 : (S : Int) < (p : Int) := by omega
      have g8 : (0 : Int) ≤ (T : Int) := by omega
      have g9 : (T : Int) < (p : Int) := by omega
      have HPQ := Lib.hid hps
      clear hS hsm hfi hps e' e'' b0
      go_wp2
      go_quiet (fail)
      go_wp2
      go_roundw
      case rel => exact ⟨i + 1, by go_num, by omega, by rw [HPQ.out], by rw [HZ.out], HR.out.drewN _⟩
      case measure => simp [intOf]; omega
    · obtain rfl : i = m := by omega
      have hjn : ¬ (i : Int) < (i : Int) := by omega
      clear hS
      go_wp2
      go_ret2
      exact ⟨rfl, HR.out.base⟩
theorem extS_any : Calls Tryz.prog 7 #[.agg #[.int .i64 n, .slice A xs.length cap], .slice D ws.length dap] w (RetV w (.tuple #[.int .i64 (extAt n xs ws).1, .bool (extAt n xs ws).2])) := by
  unfold extAt
  cases hok : extOk n xs ws
  · rw [if_neg (by simp)]
    cases hv : isVec ws
    · exact extS_vec n A xs cap D ws dap w h g hl hv
    · cases hf : isFn n xs
      · exact extS_fn n A xs cap D ws dap w h g hl hv hf
      · exact extS_len n A xs cap D ws dap w h g hl hv hf fun hn => by
          unfold extOk at hok
          rw [hv, hf, decide_eq_true hn] at hok
          cases hok
  · rw [if_pos rfl]
    exact extS_good n A xs cap D ws dap w h g hl hok

end


end Go.Proofs.YtlbefommcahkeaaGreatDoor.C

namespace Go.Proofs.YtlbefommcahkeaaGreatDoor.C
open Go.RowKit K M
set_option linter.unusedVariables false
set_option linter.unusedSimpArgs false
set_option linter.unusedSectionVars false


section

variable (n : Int) (F : Option Addr) (fs : List Int) (fap : Nat) (A : Option Addr) (xs : List Int) (cap : Nat) (D : Option Addr) (ys : List Int) (dap : Nat) (w : World) (hf0 : Hid (Ints w w.heap.size F fs)) (h : Hid (Ints w w.heap.size A xs)) (g : Hid (Ints w w.heap.size D ys)) (hx : xs.length ≤ 1048576) (hy : ys.length ≤ 1048576)
include hf0 h g hx hy
set_option maxRecDepth 100000 in
set_option maxHeartbeats 3200000 in
theorem convatS_no (hf : fitV xs ys = false) : Calls Tryz.prog 13 #[.agg #[.int .i64 n, .slice F fs.length fap], .slice A xs.length cap, .slice D ys.length dap] w (RetV w (.bool false)) := by
  have HW := Lib.hid (St.start w)
  have HF := Lib.hid (fun W h1 h2 => fitVS_any A xs cap D ys dap W (Lib.hid h1) (Lib.hid h2) hx hy)
  rw [hf] at HF
  have hno := conv_nofit (n := n) (fs := fs) hf
  have H1 := Lib.hid (fun W h1 h2 => extS_any n F fs fap A xs cap W (Lib.hid h1) (Lib.hid h2) hx)
  have H2 := Lib.hid (fun W h1 h2 => extS_any n F fs fap D ys dap W (Lib.hid h1) (Lib.hid h2) hy)
  have H3 := Lib.hid (fun W E c h1 h2 => extS_any n F fs fap E [] c W (Lib.hid h1) (Lib.hid h2) (Nat.zero_le _))
  obtain ⟨a, one, e1⟩ : ∃ a b, extAt n fs xs = (a, b) := ⟨_, _, rfl⟩
  obtain ⟨b, two, e2⟩ : ∃ a b, extAt n fs ys = (a, b) := ⟨_, _, rfl⟩
  obtain ⟨c, three, e3⟩ : ∃ a b, extAt n fs [] = (a, b) := ⟨_, _, rfl⟩
  rw [e1] at H1 hno
  rw [e2] at H2 hno
  rw [e3] at H3
  dsimp only at H1 H2 H3 hno
  have HN := Lib.hid hno
  obtain ⟨m, hm⟩ : ∃ m, xs.length = m := ⟨_, rfl⟩
  have HX := Lib.hid hm
  rw [hm] at hx H1 HF ⊢
  clear hf e1 e2 e3 hno hm
  go_enter Tryz.func13, Tryz.ntmps13
  go_wp2
  have HS := Lib.hid ((HW.out.alloc [.int .i64 n, .slice F fs.length fap] 26).empty)
  go_loopw [7, 8] (fun v i wr => i = .int .i64 0 ∧ v = .slice (some ⟨w.heap.size + 1, 0, none⟩) 0 0 ∧ St w wr [il (.slice (some ⟨w.heap.size + 1, 0, none⟩) 0 0) 0 [], bx w.heap.size 26 [.int .i64 n, .slice F fs.length fap]]) (fun _ _ _ => 0)
  case atStart => exact ⟨rfl, by simp, by simpa using HS.out⟩
  case round =>
    obtain ⟨rfl, rfl, hS⟩ := hrel
    obtain ⟨b0, -⟩ := hS.box (i := 1) rfl
    have d00 := b0 0 _ rfl
    have d01 := b0 1 _ rfl
    clear b0 HS
    have HS := Lib.hid hS
    clear hS
    by_cases h0 : 0 < m
    · have hli : (0 : Int) < (m : Int) := by omega
      go_wp2_with (go_at_call 49; refine (HF.out _ ((h.out.below HS.out.base).mono HS.out.size) ((g.out.below HS.out.base).mono HS.out.size)).mono ?_; rintro e w' ⟨rfl, rfl⟩)
      refine (H1.out _ ((hf0.out.below HS.out.base).mono HS.out.size) ((h.out.below HS.out.base).mono HS.out.size)).mono ?_
      rintro e w2 ⟨rfl, hb⟩
      have hS2 := HS.out.below hb
      obtain ⟨b0, -⟩ := hS2.box (i := 1) rfl
      have f00 := b0 0 _ rfl
      have f01 := b0 1 _ rfl
      have HS2 := Lib.hid hS2
      clear b0 hS2 hb d00 d01 HS
      go_wp2_with fail
      refine (H2.out _ ((hf0.out.below HS2.out.base).mono HS2.out.size) ((g.out.below HS2.out.base).mono HS2.out.size)).mono ?_
      rintro e w3 ⟨rfl, hb⟩
      have hS3 := HS2.out.below hb
      obtain ⟨b0, -⟩ := hS3.box (i := 1) rfl
      have d00 := b0 0 _ rfl
      have d01 := b0 1 _ rfl
      have HS3 := Lib.hid hS3
      clear b0 hS3 hb f00 f01 HS2
      go_wp2_with fail
      refine (H3.out _ _ _ ((hf0.out.below HS3.out.base).mono HS3.out.size) (HS3.out.ints (i := 0) rfl)).mono ?_
      rintro e w4 ⟨rfl, hb⟩
      have hS4 := HS3.out.below hb
      obtain ⟨b0, -⟩ := hS4.box (i := 1) rfl
      have f00 := b0 0 _ rfl
      have f01 := b0 1 _ rfl
      have HS4 := Lib.hid hS4
      clear b0 hS4 hb d00 d01 HS3
      cases one
      · go_wp2
        go_ret
        exact ⟨rfl, HS4.out.base⟩
      · cases two
        · go_wp2
          go_ret
          exact ⟨rfl, HS4.out.base⟩
        · exact (HN.out rfl rfl).elim
    · have hli : ¬ (0 : Int) < (m : Int) := by omega
      go_wp2_with (go_at_call 49; refine (HF.out _ ((h.out.below HS.out.base).mono HS.out.size) ((g.out.below HS.out.base).mono HS.out.size)).mono ?_; rintro e w' ⟨rfl, rfl⟩)
      refine (H1.out _ ((hf0.out.below HS.out.base).mono HS.out.size) ((h.out.below HS.out.base).mono HS.out.size)).mono ?_
      rintro e w2 ⟨rfl, hb⟩
      have hS2 := HS.out.below hb
      obtain ⟨b0, -⟩ := hS2.box (i := 1) rfl
      have f00 := b0 0 _ rfl
      have f01 := b0 1 _ rfl
      have HS2 := Lib.hid hS2
      clear b0 hS2 hb d00 d01 HS
      go_wp2_with fail
      refine (H2.out _ ((hf0.out.below HS2.out.base).mono HS2.out.size) ((g.out.below HS2.out.base).mono HS2.out.size)).mono ?_
      rintro e w3 ⟨rfl, hb⟩
      have hS3 := HS2.out.below hb
      obtain ⟨b0, -⟩ := hS3.box (i := 1) rfl
      have d00 := b0 0 _ rfl
      have d01 := b0 1 _ rfl
      have HS3 := Lib.hid hS3
      clear b0 hS3 hb f00 f01 HS2
      go_wp2_with fail
      refine (H3.out _ _ _ ((hf0.out.below HS3.out.base).mono HS3.out.size) (HS3.out.ints (i := 0) rfl)).mono ?_
      rintro e w4 ⟨rfl, hb⟩
      have hS4 := HS3.out.below hb
      obtain ⟨b0, -⟩ := hS4.box (i := 1) rfl
      have f00 := b0 0 _ rfl
      have f01 := b0 1 _ rfl
      have HS4 := Lib.hid hS4
      clear b0 hS4 hb d00 d01 HS3
      cases one
      · go_wp2
        go_ret
        exact ⟨rfl, HS4.out.base⟩
      · cases two
        · go_wp2
          go_ret
          exact ⟨rfl, HS4.out.base⟩
        · exact (HN.out rfl rfl).elim

set_option maxRecDepth 100000 in
set_option maxHeartbeats 6400000 in
theorem convatS_yes (hf : fitV xs ys = true) : Calls Tryz.prog 13 #[.agg #[.int .i64 n, .slice F fs.length fap], .slice A xs.length cap, .slice D ys.length dap] w (RetV w (.bool (convAt n fs xs ys))) := by
  have HW := Lib.hid (St.start w)
  have HF := Lib.hid (fun W h1 h2 => fitVS_any A xs cap D ys dap W (Lib.hid h1) (Lib.hid h2) hx hy)
  rw [hf] at HF
  obtain ⟨hv1, -, hll⟩ := fitV_yes hf
  have h5 := (isVec_yes hv1).1
  have H1 := Lib.hid (fun W h1 h2 => extS_any n F fs fap A xs cap W (Lib.hid h1) (Lib.hid h2) hx)
  have H2 := Lib.hid (fun W h1 h2 => extS_any n F fs fap D ys dap W (Lib.hid h1) (Lib.hid h2) hy)
  have H3 := Lib.hid (fun W E c h1 h2 => extS_any n F fs fap E (addV xs ys) c W (Lib.hid h1) (Lib.hid h2) (by rw [addV_len]; exact hx))
  have HBG := Lib.hid (fun j h1 h2 hb => conv_big (n := n) (fs := fs) (xs := xs) (ys := ys) (j := j) h1 h2 hb)
  have HVL := Lib.hid (fun hs => conv_val (n := n) (fs := fs) hf hs)
  have HSM := Lib.hid (fun hs => conv_same (n := n) (fs := fs) hf hs)
  have HFN := Lib.hid (fun hh => extAt_fn (n := n) (fs := fs) (ws := xs) hh)
  have B1 := extAt_bd n fs xs
  have B2 := extAt_bd n fs ys
  have B3 := extAt_bd n fs (addV xs ys)
  obtain ⟨a, one, e1⟩ : ∃ a b, extAt n fs xs = (a, b) := ⟨_, _, rfl⟩
  obtain ⟨b, two, e2⟩ : ∃ a b, extAt n fs ys = (a, b) := ⟨_, _, rfl⟩
  obtain ⟨c, three, e3⟩ : ∃ a b, extAt n fs (addV xs ys) = (a, b) := ⟨_, _, rfl⟩
  rw [e1] at H1 HVL HSM HFN B1
  rw [e2] at H2 HVL HSM B2
  rw [e3] at H3 HVL HSM B3
  dsimp only at H1 H2 H3 HVL HSM HFN B1 B2 B3
  rw [addV_len] at H3
  obtain ⟨f, hfn⟩ : ∃ f : Nat → Int, f = fun k => xs.getD k 0 + ys.getD k 0 := ⟨_, rfl⟩
  have HO := Lib.hid (fun k => show f k = xs.getD k 0 + ys.getD k 0 by rw [hfn])
  have haf : addV xs ys = tab xs.length f := by rw [hfn]; rfl
  rw [haf] at H3
  generalize convAt n fs xs ys = q at *
  obtain ⟨m, hm⟩ : ∃ m, xs.length = m := ⟨_, rfl⟩
  rw [← hll] at HF H2 hy ⊢
  rw [hm] at HF hx hy h5 H1 H2 H3 HBG HVL HSM ⊢
  have HX := Lib.hid hm
  have HY := Lib.hid (hll.symm.trans hm)
  rw [hll.symm.trans hm] at HBG
  clear hf hll hfn hm e1 e2 e3 haf hv1
  obtain ⟨i0, hi, hz0, hz1, hz2⟩ := info_parts info_int
  go_enter Tryz.func13, Tryz.ntmps13
  go_wp2
  go_loopw [7, 8] (fun v i wr => ∃ (j : Nat) (V : Option Addr) (c : Nat), i = .int .i64 j ∧ j ≤ m ∧ v = .slice V j c ∧ Hid (∀ k, k < j → (-100 ≤ xs.getD k 0 ∧ xs.getD k 0 ≤ 100) ∧ (-100 ≤ ys.getD k 0 ∧ ys.getD k 0 ≤ 100)) ∧ St w wr [il (.slice V j c) j (tab j f), bx w.heap.size 26 [.int .i64 n, .slice F fs.length fap]]) (fun _ i _ => m - (intOf i).toNat)
  case atStart => exact ⟨0, _, _, rfl, Nat.zero_le _, rfl, Lib.hid (fun k hk => absurd hk (by omega)), by simpa [tab] using (HW.out.alloc [.int .i64 n, .slice F fs.length fap] 26).empty⟩
  case round =>
    obtain ⟨j, V, cc, rfl, hj, rfl, HSMALL, hS⟩ := hrel
    obtain ⟨b0, -⟩ := hS.box (i := 1) rfl
    have d00 := b0 0 _ rfl
    have d01 := b0 1 _ rfl
    have HR := Lib.hid hS
    by_cases hlt : j < m
    · have htab := Lib.hid (tab_succ j f)
      have hji : (j : Int) < (m : Int) := by omega
      have hj0 : (0 : Int) ≤ (j : Int) := by omega
      obtain ⟨r1, o1, rfl, hbl, hc⟩ := h.out.at_ (k := j) (by rw [HX.out]; omega)
      obtain ⟨r2, o2, rfl, hrl, hd⟩ := g.out.at_ (k := j) (by rw [HY.out]; omega)
      have hval := HO.out j
      have HB := Lib.hid (fun hb => HBG.out j (by omega) (by omega) hb)
      have HSN := Lib.hid (show (∀ k, k < j → (-100 ≤ xs.getD k 0 ∧ xs.getD k 0 ≤ 100) ∧ (-100 ≤ ys.getD k 0 ∧ ys.getD k 0 ≤ 100)) → ((-100 ≤ xs.getD j 0 ∧ xs.getD j 0 ≤ 100) ∧ (-100 ≤ ys.getD j 0 ∧ ys.getD j 0 ≤ 100)) → ∀ k, k < j + 1 → (-100 ≤ xs.getD k 0 ∧ xs.getD k 0 ≤ 100) ∧ (-100 ≤ ys.getD k 0 ∧ ys.getD k 0 ≤ 100) from fun h1 h2 k hk => by
        rcases Nat.lt_or_ge k j with h3 | h3
        · exact h1 k h3
        · obtain rfl : k = j := by omega
          exact h2)
      have HSN2 := Lib.hid (fun h2 => HSN.out HSMALL.out h2)
      clear HSN
      generalize xs.getD j 0 = x at hc hval HB HSN2
      generalize ys.getD j 0 = y at hd hval HB HSN2
      rw [hval] at htab
      have HCQ := Lib.hid hc
      have HCS := Lib.hid hd
      clear hS hval hc hd b0
      by_cases hx1 : -100 ≤ x ∧ x ≤ 100
      · by_cases hy1 : -100 ≤ y ∧ y ≤ 100
        · have hxy : IntKind.i64.wrap (x + y) = x + y := IntWalk.i64_in _ (by omega)
          go_wp2_with (first
            | (go_at_call 49; refine (HF.out _ ((h.out.below HR.out.base).mono HR.out.size) ((g.out.below HR.out.base).mono HR.out.size)).mono ?_; rintro e w' ⟨rfl, rfl⟩; have hcq := (HR.out.base.cell (p := ⟨r1, o1 + j, none⟩) hbl).trans HCQ.out; have hcs := (HR.out.base.cell (p := ⟨r2, o2 + j, none⟩) hrl).trans HCS.out)
            | (go_at_call_of 42 (Value.int .i64 x); refine (in_yes x (-100) 100 _ hx1.1 hx1.2).mono ?_; rintro e w' ⟨rfl, rfl⟩)
            | (go_at_call_of 42 (Value.int .i64 y); refine (in_yes y (-100) 100 _ hy1.1 hy1.2).mono ?_; rintro e w' ⟨rfl, rfl⟩))
          go_region_held3 (fun w' => w'.cell? ⟨r1, o1 + j, none⟩ = some (.int .i64 x) ∧ w'.cell? ⟨r2, o2 + j, none⟩ = some (.int .i64 y)) (first | (refine ⟨?_, ?_⟩ <;> assumption) | assumption | go_keep) ((refine step_app1 (by rfl) (.tmp 41) (.tmp 51) 24 (by rfl) (x + y) Tryz.underlying24 hi hz0 hz1 hz2 (by first | exact (HR.out.alloc _ _).drop 0 | exact ((HR.out.alloc _ _).drop 0).drew) (i := 0) (by rfl) (by rfl) (by rfl) (by simp [hxy]) (by omega) ?_; intro V' c' w3 hS3; have hcq' := (hS3.base.cell (p := ⟨r1, o1 + j, none⟩) hbl).trans HCQ.out; have hcs' := (hS3.base.cell (p := ⟨r2, o2 + j, none⟩) hrl).trans HCS.out; have HR3 := Lib.hid hS3; clear hS3))
          go_wp2
          go_roundw
          case rel => exact ⟨j + 1, V', c', by go_num, by omega, rfl, Lib.hid (HSN2.out ⟨hx1, hy1⟩), by rw [htab.out]; exact HR3.out⟩
          case measure => simp [intOf]; omega
        · have hy2 : y < -100 ∨ 100 < y := by omega
          have hq := HB.out fun hh => hy1 hh.2
          have HQ := Lib.hid hq
          clear hq
          go_wp2_with (first
            | (go_at_call 49; refine (HF.out _ ((h.out.below HR.out.base).mono HR.out.size) ((g.out.below HR.out.base).mono HR.out.size)).mono ?_; rintro e w' ⟨rfl, rfl⟩; have hcq := (HR.out.base.cell (p := ⟨r1, o1 + j, none⟩) hbl).trans HCQ.out; have hcs := (HR.out.base.cell (p := ⟨r2, o2 + j, none⟩) hrl).trans HCS.out)
            | (go_at_call_of 42 (Value.int .i64 x); refine (in_yes x (-100) 100 _ hx1.1 hx1.2).mono ?_; rintro e w' ⟨rfl, rfl⟩)
            | (go_at_call_of 42 (Value.int .i64 y); refine (in_no y (-100) 100 _ hy2).mono ?_; rintro e w' ⟨rfl, rfl⟩))
          go_ret
          exact ⟨by rw [HQ.out]; rfl, HR.out.base⟩
      · have hx2 : x < -100 ∨ 100 < x := by omega
        have hq := HB.out fun hh => hx1 hh.1
        have HQ := Lib.hid hq
        clear hq
        go_wp2_with (first
          | (go_at_call 49; refine (HF.out _ ((h.out.below HR.out.base).mono HR.out.size) ((g.out.below HR.out.base).mono HR.out.size)).mono ?_; rintro e w' ⟨rfl, rfl⟩; have hcq := (HR.out.base.cell (p := ⟨r1, o1 + j, none⟩) hbl).trans HCQ.out; have hcs := (HR.out.base.cell (p := ⟨r2, o2 + j, none⟩) hrl).trans HCS.out)
          | (go_at_call_of 42 (Value.int .i64 x); refine (in_no x (-100) 100 _ hx2).mono ?_; rintro e w' ⟨rfl, rfl⟩))
        go_ret
        exact ⟨by rw [HQ.out]; rfl, HR.out.base⟩
    · obtain rfl : j = m := by omega
      have hjn : ¬ (j : Int) < (j : Int) := by omega
      have hq := HVL.out HSMALL.out
      obtain ⟨rfl, rfl⟩ := HSM.out HSMALL.out
      clear HVL HSM HBG hS b0
      have HS := Lib.hid HR.out
      cases three
      · have HQ := Lib.hid (show q = false by rw [hq]; rfl)
        clear hq HR
        go_wp2_with (go_at_call 49; refine (HF.out _ ((h.out.below HS.out.base).mono HS.out.size) ((g.out.below HS.out.base).mono HS.out.size)).mono ?_; rintro e w' ⟨rfl, rfl⟩)
        refine (H1.out _ ((hf0.out.below HS.out.base).mono HS.out.size) ((h.out.below HS.out.base).mono HS.out.size)).mono ?_
        rintro e w2 ⟨rfl, hb⟩
        have hS2 := HS.out.below hb
        obtain ⟨b0, -⟩ := hS2.box (i := 1) rfl
        have f00 := b0 0 _ rfl
        have f01 := b0 1 _ rfl
        have HS2 := Lib.hid hS2
        clear b0 hS2 hb d00 d01 HS
        go_wp2_with fail
        refine (H2.out _ ((hf0.out.below HS2.out.base).mono HS2.out.size) ((g.out.below HS2.out.base).mono HS2.out.size)).mono ?_
        rintro e w3 ⟨rfl, hb⟩
        have hS3 := HS2.out.below hb
        obtain ⟨b0, -⟩ := hS3.box (i := 1) rfl
        have d00 := b0 0 _ rfl
        have d01 := b0 1 _ rfl
        have HS3 := Lib.hid hS3
        clear b0 hS3 hb f00 f01 HS2
        go_wp2_with fail
        refine (H3.out _ _ _ ((hf0.out.below HS3.out.base).mono HS3.out.size) (HS3.out.ints (i := 0) rfl)).mono ?_
        rintro e w4 ⟨rfl, hb⟩
        have hS4 := HS3.out.below hb
        obtain ⟨b0, -⟩ := hS4.box (i := 1) rfl
        have f00 := b0 0 _ rfl
        have f01 := b0 1 _ rfl
        have HS4 := Lib.hid hS4
        clear b0 hS4 hb d00 d01 HS3
        go_wp2
        go_ret
        exact ⟨by rw [HQ.out]; rfl, HS4.out.base⟩
      · have hfl := isFn_len (HFN.out rfl)
        obtain ⟨fb, fo, rfl, hfb, hfc⟩ := hf0.out.at_ (k := 0) (by omega)
        have hf1 : (0 : Int) < (fs.length : Int) := by omega
        have hfv := (isFn_yes (HFN.out rfl)).2.2.2 0 (by omega)
        generalize fs.getD 0 0 = f0 at hfc hfv hq
        have HFC := Lib.hid hfc
        have hw1 : IntKind.i64.wrap (c + f0) = c + f0 := IntWalk.i64_in _ (by omega)
        have hw2 : IntKind.i64.wrap (a + b) = a + b := IntWalk.i64_in _ (by omega)
        have HQ := Lib.hid hq
        clear hq HR hfc
        go_wp2_with (go_at_call 49; refine (HF.out _ ((h.out.below HS.out.base).mono HS.out.size) ((g.out.below HS.out.base).mono HS.out.size)).mono ?_; rintro e w' ⟨rfl, rfl⟩)
        refine (H1.out _ ((hf0.out.below HS.out.base).mono HS.out.size) ((h.out.below HS.out.base).mono HS.out.size)).mono ?_
        rintro e w2 ⟨rfl, hb⟩
        have hS2 := HS.out.below hb
        obtain ⟨b0, -⟩ := hS2.box (i := 1) rfl
        have f00 := b0 0 _ rfl
        have f01 := b0 1 _ rfl
        have HS2 := Lib.hid hS2
        clear b0 hS2 hb d00 d01 HS
        go_wp2_with fail
        refine (H2.out _ ((hf0.out.below HS2.out.base).mono HS2.out.size) ((g.out.below HS2.out.base).mono HS2.out.size)).mono ?_
        rintro e w3 ⟨rfl, hb⟩
        have hS3 := HS2.out.below hb
        obtain ⟨b0, -⟩ := hS3.box (i := 1) rfl
        have d00 := b0 0 _ rfl
        have d01 := b0 1 _ rfl
        have HS3 := Lib.hid hS3
        clear b0 hS3 hb f00 f01 HS2
        go_wp2_with fail
        refine (H3.out _ _ _ ((hf0.out.below HS3.out.base).mono HS3.out.size) (HS3.out.ints (i := 0) rfl)).mono ?_
        rintro e w4 ⟨rfl, hb⟩
        have hS4 := HS3.out.below hb
        obtain ⟨b0, -⟩ := hS4.box (i := 1) rfl
        have f00 := b0 0 _ rfl
        have f01 := b0 1 _ rfl
        have HS4 := Lib.hid hS4
        clear b0 hS4 hb d00 d01 HS3
        have hfc := (HS4.out.base.cell (p := ⟨fb, fo + 0, none⟩) hfb).trans HFC.out
        rw [Nat.add_zero] at hfc
        by_cases hle : c + f0 ≤ a + b
        · go_wp2
          go_ret
          exact ⟨by rw [HQ.out, decide_eq_true hle]; rfl, HS4.out.base⟩
        · go_wp2
          go_ret
          exact ⟨by rw [HQ.out]; rfl, HS4.out.base⟩

theorem convatS_any : Calls Tryz.prog 13 #[.agg #[.int .i64 n, .slice F fs.length fap], .slice A xs.length cap, .slice D ys.length dap] w (RetV w (.bool (convAt n fs xs ys))) := by
  cases hf : fitV xs ys
  · rw [conv_nofit2 hf]
    exact convatS_no n F fs fap A xs cap D ys dap w hf0 h g hx hy hf
  · exact convatS_yes n F fs fap A xs cap D ys dap w hf0 h g hx hy hf

end


end Go.Proofs.YtlbefommcahkeaaGreatDoor.C
