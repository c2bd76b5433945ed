/-
  The contract of spec.ExtensionAt.
-/
import Derived.Test.YtgenllnpmjialaaExT
namespace Go.Proofs.Ytgenllnpmjialaa.C
open Go.RowKit K M
set_option linter.unusedVariables false
set_option linter.unusedSimpArgs false
set_option linter.unusedSectionVars false


section

variable (n : Int) (A : Option Addr) (xs : List Int) (cap : Nat) (D : Option Addr) (ws : List Int) (dap : Nat) (w : World) (h : Hid (Ints w w.heap.size A xs)) (g : Hid (Ints w w.heap.size D ws)) (hl : ws.length ≤ 1048576)
include h g hl
set_option maxRecDepth 100000 in
set_option maxHeartbeats 1600000 in
theorem extS_vec (hv : isVec ws = false) : Calls Try.prog 12 #[.agg #[.int .i64 n, .slice A xs.length cap], .slice D ws.length dap] w (RetV w (.tuple #[.int .i64 0, .bool false])) := by
  have HW := Lib.hid (St.start w)
  have HO := Lib.hid (fun W h1 => ordS_any D ws dap W (Lib.hid h1) hl)
  have e : orderFor ws = ([], false) := by unfold orderFor; rw [hv]; rfl
  rw [e] at HO
  clear hv e
  go_enter Try.func12, Try.ntmps12
  go_wp2_with (go_at_call 23; refine St.use (w0 := w) (by exact HW.out.alloc _ _) ?_; intro hS; (try simp only [World.size_alloc] at hS); refine (HO.out _ ((g.out.below hS.base).mono hS.size)).mono ?_; rintro e w2 ⟨V, c, rfl, ho, hb⟩; have HS := Lib.hid (hS.newI hb ho); clear hS ho hb)
  go_ret2
  exact ⟨rfl, HS.out.base⟩

set_option maxRecDepth 100000 in
set_option maxHeartbeats 1600000 in
theorem extS_fn (hv : isVec ws = true) (hf : isFn n xs = false) : Calls Try.prog 12 #[.agg #[.int .i64 n, .slice A xs.length cap], .slice D ws.length dap] w (RetV w (.tuple #[.int .i64 0, .bool false])) := by
  have HW := Lib.hid (St.start w)
  have HO := Lib.hid (fun W h1 => ordS_any D ws dap W (Lib.hid h1) hl)
  have e : (orderFor ws).2 = true := by unfold orderFor; rw [hv]; rfl
  rw [e] at HO
  have HF := Lib.hid hf
  clear hv e hf
  generalize (orderFor ws).1 = os at HO
  go_enter Try.func12, Try.ntmps12
  go_wp2_with (first
    | (go_at_call 23; refine St.use (w0 := w) (by exact HW.out.alloc _ _) ?_; intro hS; (try simp only [World.size_alloc] at hS); refine (HO.out _ ((g.out.below hS.base).mono hS.size)).mono ?_; rintro e w2 ⟨V, c, rfl, ho, hb⟩; have hS1 := hS.newI hb ho; obtain ⟨b0, -⟩ := hS1.box (i := 1) rfl; have b00 := b0 0 _ rfl; have b01 := b0 1 _ rfl; have HS := Lib.hid hS1; clear hS ho hb hS1 b0)
    | (go_at_call 35; refine (isFnS_no n A xs cap _ (Lib.hid ((h.out.below HS.out.base).mono HS.out.size)) HF.out).mono ?_; rintro e w3 ⟨rfl, hb⟩; have HS2 := Lib.hid (HS.out.below hb); clear hb))
  go_ret2
  exact ⟨rfl, HS2.out.base⟩

set_option maxRecDepth 100000 in
set_option maxHeartbeats 1600000 in
theorem extS_len (hv : isVec ws = true) (hf : isFn n xs = true) (hn : (ws.length : Int) ≠ n) : Calls Try.prog 12 #[.agg #[.int .i64 n, .slice A xs.length cap], .slice D ws.length dap] w (RetV w (.tuple #[.int .i64 0, .bool false])) := by
  have HW := Lib.hid (St.start w)
  have HO := Lib.hid (fun W h1 => ordS_any D ws dap W (Lib.hid h1) hl)
  have e : (orderFor ws).2 = true := by unfold orderFor; rw [hv]; rfl
  rw [e] at HO
  have HF := Lib.hid hf
  have hne : ((ws.length : Int) != n) = true := bne_iff_ne.2 hn
  clear hv e hf hn
  generalize (orderFor ws).1 = os at HO
  go_enter Try.func12, Try.ntmps12
  go_wp2_with (first
    | (go_at_call 23; refine St.use (w0 := w) (by exact HW.out.alloc _ _) ?_; intro hS; (try simp only [World.size_alloc] at hS); refine (HO.out _ ((g.out.below hS.base).mono hS.size)).mono ?_; rintro e w2 ⟨V, c, rfl, ho, hb⟩; have hS1 := hS.newI hb ho; obtain ⟨b0, -⟩ := hS1.box (i := 1) rfl; have b00 := b0 0 _ rfl; have b01 := b0 1 _ rfl; have HS := Lib.hid hS1; clear hS ho hb hS1 b0)
    | (go_at_call 35; refine (isFnS_yes n A xs cap _ (Lib.hid ((h.out.below HS.out.base).mono HS.out.size)) HF.out).mono ?_; rintro e w3 ⟨rfl, hb⟩; have hS1 := HS.out.below hb; obtain ⟨b0, -⟩ := hS1.box (i := 1) rfl; have c00 := b0 0 _ rfl; have c01 := b0 1 _ rfl; have HS2 := Lib.hid hS1; clear hb hS1 b0 b00 b01))
  go_ret2
  exact ⟨rfl, HS2.out.base⟩

set_option maxRecDepth 100000 in
set_option maxHeartbeats 4000000 in
theorem extS_good (ok : extOk n xs ws = true) : Calls Try.prog 12 #[.agg #[.int .i64 n, .slice A xs.length cap], .slice D ws.length dap] w (RetV w (.tuple #[.int .i64 (extV xs ws), .bool true])) := by
  obtain ⟨hv, hf, hn⟩ := extOk_yes ok
  obtain ⟨-, -, hxl, hxv⟩ := isFn_yes hf
  obtain ⟨h5, hwv⟩ := isVec_yes hv
  have HW := Lib.hid (St.start w)
  have HO := Lib.hid (fun W h1 => ordS_any D ws dap W (Lib.hid h1) hl)
  have e : orderFor ws = (nats (ordN ws ws.length), true) := by unfold orderFor; rw [hv]; rfl
  rw [e] at HO
  have HF := Lib.hid hf
  have hne : ((ws.length : Int) != n) = false := bne_eq_false_iff_eq.2 hn
  have hxp : xs.length = 2 ^ ws.length := by rw [hxl, ← hn, Int.toNat_natCast]
  have h32 := (isFn_len hf).2
  have hpm := ordF_pm ws
  have HOA := Lib.hid (fun i (hi : i < ws.length) => show (nats (ordN ws ws.length)).getD i 0 = (ordF ws i : Int) by rw [nats_at (by rw [ordN_len]; exact hi)]; rfl)
  have hol : (nats (ordN ws ws.length)).length = ws.length := by rw [nats_len, ordN_len]
  obtain ⟨f, hfn⟩ : ∃ f : Nat → Int, f = fun i => ws.getD (ordF ws i) 0 * dl xs (ordF ws) i := ⟨_, rfl⟩
  have HFN := Lib.hid (fun i => show f i = ws.getD (ordF ws i) 0 * (xs.getD (pre (ordF ws) i ||| 2 ^ ordF ws i) 0 - xs.getD (pre (ordF ws) i) 0) by rw [hfn]; rfl)
  have hev : extV xs ws = xs.getD 0 0 + sm f ws.length := by rw [hfn]; rfl
  rw [hev]
  have hpl := Lib.hid (fun i (hi : i ≤ ws.length) => show pre (ordF ws) i < xs.length by rw [hxp]; exact pre_lt i fun k hk => hpm.lt k (by omega))
  have HPS := Lib.hid (fun i => show pre (ordF ws) (i + 1) = pre (ordF ws) i ||| 2 ^ ordF ws i from rfl)
  have HXV := Lib.hid hxv
  have HWV := Lib.hid hwv
  have HB := Lib.hid (sm_bd (f := f) (b := 2000000) ws.length fun i hi => by
    have a1 := hwv _ (hpm.lt i hi)
    have a2 := hxv _ (hpl.out i (by omega))
    have a3 := hxv _ (hpl.out (i + 1) (by omega))
    rw [HPS.out] at a3
    rw [HFN.out]
    exact mul_bd2 a1.1 a1.2 (by omega) (by omega))
  have HLT := Lib.hid (hpm.lt)
  generalize ordF ws = o at *
  generalize nats (ordN ws ws.length) = os at *
  obtain ⟨m, hm⟩ : ∃ m, ws.length = m := ⟨_, rfl⟩
  obtain ⟨p, hp⟩ : ∃ p, xs.length = p := ⟨_, rfl⟩
  rw [hm] at HO hne hol h5 HB HLT HOA hpl ⊢
  rw [hp] at h32 hpl hxp ⊢
  have HX := Lib.hid hm
  have HY := Lib.hid hp
  have HL := Lib.hid hol
  clear e hv hf hn hxl hxv hwv hpm hfn hev hm hp hol ok hl hxp
  go_enter Try.func12, Try.ntmps12
  have hp0 : (0 : Int) < (p : Int) := by have := hpl.out 0 (Nat.zero_le _); omega
  obtain ⟨b, off, rfl, hbl, hc0⟩ := h.out.at_ (k := 0) (by rw [HY.out]; omega)
  have HC0 := Lib.hid hc0
  obtain ⟨x0, hx0⟩ : ∃ x0, xs.getD 0 0 = x0 := ⟨_, rfl⟩
  have hx0b := HXV.out 0 (by rw [HY.out]; omega)
  rw [hx0] at HC0 hx0b ⊢
  clear hc0
  go_wp2_with (first
    | (go_at_call 23; refine St.use (w0 := w) (by exact HW.out.alloc _ _) ?_; intro hS; (try simp only [World.size_alloc] at hS); refine (HO.out _ ((g.out.below hS.base).mono hS.size)).mono ?_; rintro e w2 ⟨V, c, rfl, ho, hb⟩; rw [HL.out] at ho ⊢; have hS1 := hS.newI hb ho; rw [HL.out] at hS1; obtain ⟨b0, -⟩ := hS1.box (i := 1) rfl; have b00 := b0 0 _ rfl; have b01 := b0 1 _ rfl; have HS := Lib.hid hS1; clear hS ho hb hS1 b0)
    | (go_at_call 35; rw [← HY.out]; refine (isFnS_yes n _ xs cap _ (Lib.hid ((h.out.below HS.out.base).mono HS.out.size)) HF.out).mono ?_; rintro e w3 ⟨rfl, hb⟩; have hS1 := HS.out.below hb; obtain ⟨b0, -⟩ := hS1.box (i := 1) rfl; have c00 := b0 0 _ rfl; have c01 := b0 1 _ rfl; have hcc := (hS1.base.cell (p := ⟨b, off + 0, none⟩) hbl).trans HC0.out; rw [Nat.add_zero] at hcc; have HS2 := Lib.hid hS1; clear hb hS1 b0 b00 b01))
  go_loopw [8, 9, 10] (fun nv sv iv wr => ∃ i : Nat, iv = .int .i64 i ∧ i ≤ m ∧ sv = .int .i64 (pre o i) ∧ nv = .int .i64 (x0 + sm f i) ∧ St w wr [il (.slice V m c) m os, bx w.heap.size 26 [.int .i64 n, .slice (some ⟨b, off, none⟩) p cap]]) (fun _ _ iv _ => m - (intOf iv).toNat)
  case atStart => exact ⟨0, rfl, Nat.zero_le _, rfl, by rw [sm, Int.add_zero], HS2.out⟩
  case round =>
    obtain ⟨i, rfl, hi, rfl, rfl, hS⟩ := hrel
    have HR := Lib.hid hS
    by_cases hlt : i < m
    · obtain ⟨b0, -⟩ := hS.box (i := 1) rfl
      have d00 := b0 0 _ rfl
      have d01 := b0 1 _ rfl
      obtain ⟨vb, vo, rfl, -, hco⟩ := (hS.ints (i := 0) rfl).at_ (k := i) (by rw [HL.out]; exact hlt)
      have hE := HOA.out i hlt
      have hEm := HLT.out i hlt
      have hs1 := hpl.out i hi
      have ht1 := hpl.out (i + 1) (by omega)
      rw [HPS.out i] at ht1
      have hfi := HFN.out i
      have hps := HPS.out i
      have hsm : sm f (i + 1) = sm f i + f i := rfl
      have hb1 := HB.out i (by omega)
      have hb2 := HB.out (i + 1) (by omega)
      rw [hE] at hco
      generalize o i = E at hE hEm ht1 hfi hps hco
      have ho1 := or_nat (pre o i) E (by omega) (by omega)
      generalize pre o i = S at hs1 ht1 hfi hps ho1 ⊢
      generalize S ||| 2 ^ E = T at ht1 hfi hps ho1
      obtain ⟨r, ro, rfl, hrl, hd⟩ := (g.out.below hS.base).at_ (k := E) (by rw [HX.out]; omega)
      obtain ⟨b', off', e', -, hcS⟩ := (h.out.below hS.base).at_ (k := S) (by rw [HY.out]; omega)
      obtain ⟨rfl, rfl⟩ : b = b' ∧ off = off' := by cases e'; exact ⟨rfl, rfl⟩
      obtain ⟨b', off', e'', -, hcT⟩ := (h.out.below hS.base).at_ (k := T) (by rw [HY.out]; omega)
      obtain ⟨rfl, rfl⟩ : b = b' ∧ off = off' := by cases e''; exact ⟨rfl, rfl⟩
      have q1 := HWV.out E (by rw [HX.out]; omega)
      have q2 := HXV.out S (by rw [HY.out]; omega)
      have q3 := HXV.out T (by rw [HY.out]; omega)
      generalize ws.getD E 0 = y at hd hfi q1
      generalize xs.getD S 0 = u at hcS hfi q2
      generalize xs.getD T 0 = v at hcT hfi q3
      generalize sm f i = z at hsm hb1 ⊢
      obtain ⟨z', hz'⟩ : ∃ z', sm f (i + 1) = z' := ⟨_, rfl⟩
      rw [hz'] at hsm hb2
      have HZ := Lib.hid hz'
      clear hz'
      generalize f i = k at hfi hsm
      have hmul := mul_bd2 q1.1 q1.2 (b := v - u) (by omega) (by omega)
      have hw1 : IntKind.i64.wrap (v - u) = v - u := IntWalk.i64_in _ (by omega)
      have hw2 : IntKind.i64.wrap (y * (v - u)) = k := by rw [hfi]; exact IntWalk.i64_in _ (by omega)
      rw [← hfi] at hmul
      have hw3 : IntKind.i64.wrap (x0 + z + k) = x0 + z' := by rw [hsm, Int.add_assoc]; exact IntWalk.i64_in _ (by omega)
      have g1 : (0 : Int) ≤ (i : Int) := by omega
      have g2 : (i : Int) < (m : Int) := by omega
      have g3 : (0 : Int) ≤ (E : Int) := by omega
      have g4 : (E : Int) < (m : Int) := by omega
      have g5 : (E : Int) < 64 := by omega
      have g6 : (0 : Int) ≤ (S : Int) := by omega
      have g7 : (S : Int) < (p : Int) := by omega
      have g8 : (0 : Int) ≤ (T : Int) := by omega
      have g9 : (T : Int) < (p : Int) := by omega
      have HPQ := Lib.hid hps
      clear hS hsm hfi hps e' e'' b0
      go_wp2
      go_quiet (fail)
      go_wp2
      go_roundw
      case rel => exact ⟨i + 1, by go_num, by omega, by rw [HPQ.out], by rw [HZ.out], HR.out.drewN _⟩
      case measure => simp [intOf]; omega
    · obtain rfl : i = m := by omega
      have hjn : ¬ (i : Int) < (i : Int) := by omega
      clear hS
      go_wp2
      go_ret2
      exact ⟨rfl, HR.out.base⟩
theorem extS_any : Calls Try.prog 12 #[.agg #[.int .i64 n, .slice A xs.length cap], .slice D ws.length dap] w (RetV w (.tuple #[.int .i64 (extAt n xs ws).1, .bool (extAt n xs ws).2])) := by
  unfold extAt
  cases hok : extOk n xs ws
  · rw [if_neg (by simp)]
    cases hv : isVec ws
    · exact extS_vec n A xs cap D ws dap w h g hl hv
    · cases hf : isFn n xs
      · exact extS_fn n A xs cap D ws dap w h g hl hv hf
      · exact extS_len n A xs cap D ws dap w h g hl hv hf fun hn => by
          unfold extOk at hok
          rw [hv, hf, decide_eq_true hn] at hok
          cases hok
  · rw [if_pos rfl]
    exact extS_good n A xs cap D ws dap w h g hl hok

end


end Go.Proofs.Ytgenllnpmjialaa.C
