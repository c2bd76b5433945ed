/-
  The contract of impl.ExtensionAt.
-/
import Derived.Test.YtgenllnpmjialaaOrdJ
import Derived.Test.YtgenllnpmjialaaGaI
import Derived.Test.YtgenllnpmjialaaPrI
import Derived.Test.YtgenllnpmjialaaIsFnI
import Derived.Deep.RegionHeld3
namespace Go.Proofs.Ytgenllnpmjialaa.C
open Go.RowKit K M
set_option linter.unusedVariables false
set_option linter.unusedSimpArgs false
set_option linter.unusedSectionVars false


section

variable (n : Int) (A : Option Addr) (xs : List Int) (cap : Nat) (D : Option Addr) (ws : List Int) (dap : Nat) (w : World) (h : Hid (Ints w w.heap.size A xs)) (g : Hid (Ints w w.heap.size D ws)) (hl : ws.length ≤ 1048576)
include h g hl
set_option maxRecDepth 100000 in
set_option maxHeartbeats 1600000 in
theorem extI_vec (hv : isVec ws = false) : Calls Try.prog 16 #[.agg #[.int .i64 n, .slice A xs.length cap], .slice D ws.length dap] w (RetV w (.tuple #[.int .i64 0, .bool false])) := by
  have HW := Lib.hid (St.start w)
  have HO := Lib.hid (fun W h1 => ordI_any D ws dap W (Lib.hid h1) hl)
  have e : orderFor ws = ([], false) := by unfold orderFor; rw [hv]; rfl
  rw [e] at HO
  clear hv e
  go_enter Try.func16, Try.ntmps16
  go_wp2_with (go_at_call 24; refine St.use (w0 := w) (by exact HW.out.alloc _ _) ?_; intro hS; (try simp only [World.size_alloc] at hS); refine (HO.out _ ((g.out.below hS.base).mono hS.size)).mono ?_; rintro e w2 ⟨V, c, rfl, ho, hb⟩; have HS := Lib.hid (hS.newI hb ho); clear hS ho hb)
  go_ret2
  exact ⟨rfl, HS.out.base⟩

set_option maxRecDepth 100000 in
set_option maxHeartbeats 1600000 in
theorem extI_fn (hv : isVec ws = true) (hf : isFn n xs = false) : Calls Try.prog 16 #[.agg #[.int .i64 n, .slice A xs.length cap], .slice D ws.length dap] w (RetV w (.tuple #[.int .i64 0, .bool false])) := by
  have HW := Lib.hid (St.start w)
  have HO := Lib.hid (fun W h1 => ordI_any D ws dap W (Lib.hid h1) hl)
  have e : (orderFor ws).2 = true := by unfold orderFor; rw [hv]; rfl
  rw [e] at HO
  have HF := Lib.hid hf
  clear hv e hf
  generalize (orderFor ws).1 = os at HO
  go_enter Try.func16, Try.ntmps16
  go_wp2_with (first
    | (go_at_call 24; refine St.use (w0 := w) (by exact HW.out.alloc _ _) ?_; intro hS; (try simp only [World.size_alloc] at hS); refine (HO.out _ ((g.out.below hS.base).mono hS.size)).mono ?_; rintro e w2 ⟨V, c, rfl, ho, hb⟩; have hS1 := hS.newI hb ho; obtain ⟨b0, -⟩ := hS1.box (i := 1) rfl; have b00 := b0 0 _ rfl; have b01 := b0 1 _ rfl; have HS := Lib.hid hS1; clear hS ho hb hS1 b0)
    | (go_at_call 40; refine (isFnI_no n A xs cap _ (Lib.hid ((h.out.below HS.out.base).mono HS.out.size)) HF.out).mono ?_; rintro e w3 ⟨rfl, hb⟩; have HS2 := Lib.hid (HS.out.below hb); clear hb))
  go_ret2
  exact ⟨rfl, HS2.out.base⟩

set_option maxRecDepth 100000 in
set_option maxHeartbeats 1600000 in
theorem extI_len (hv : isVec ws = true) (hf : isFn n xs = true) (hn : (ws.length : Int) ≠ n) : Calls Try.prog 16 #[.agg #[.int .i64 n, .slice A xs.length cap], .slice D ws.length dap] w (RetV w (.tuple #[.int .i64 0, .bool false])) := by
  have HW := Lib.hid (St.start w)
  have HO := Lib.hid (fun W h1 => ordI_any D ws dap W (Lib.hid h1) hl)
  have e : (orderFor ws).2 = true := by unfold orderFor; rw [hv]; rfl
  rw [e] at HO
  have HF := Lib.hid hf
  have hne : ((ws.length : Int) != n) = true := bne_iff_ne.2 hn
  clear hv e hf hn
  generalize (orderFor ws).1 = os at HO
  go_enter Try.func16, Try.ntmps16
  go_wp2_with (first
    | (go_at_call 24; refine St.use (w0 := w) (by exact HW.out.alloc _ _) ?_; intro hS; (try simp only [World.size_alloc] at hS); refine (HO.out _ ((g.out.below hS.base).mono hS.size)).mono ?_; rintro e w2 ⟨V, c, rfl, ho, hb⟩; have hS1 := hS.newI hb ho; obtain ⟨b0, -⟩ := hS1.box (i := 1) rfl; have b00 := b0 0 _ rfl; have b01 := b0 1 _ rfl; have HS := Lib.hid hS1; clear hS ho hb hS1 b0)
    | (go_at_call 40; refine (isFnI_yes n A xs cap _ (Lib.hid ((h.out.below HS.out.base).mono HS.out.size)) HF.out).mono ?_; rintro e w3 ⟨rfl, hb⟩; have hS1 := HS.out.below hb; obtain ⟨b0, -⟩ := hS1.box (i := 1) rfl; have c00 := b0 0 _ rfl; have c01 := b0 1 _ rfl; have HS2 := Lib.hid hS1; clear hb hS1 b0 b00 b01))
  go_ret2
  exact ⟨rfl, HS2.out.base⟩

set_option maxRecDepth 100000 in
set_option maxHeartbeats 4000000 in
theorem extI_good (ok : extOk n xs ws = true) : Calls Try.prog 16 #[.agg #[.int .i64 n, .slice A xs.length cap], .slice D ws.length dap] w (RetV w (.tuple #[.int .i64 (extV xs ws), .bool true])) := by
  obtain ⟨hv, hf, hn⟩ := extOk_yes ok
  obtain ⟨-, -, hxl, hxv⟩ := isFn_yes hf
  obtain ⟨h5, hwv⟩ := isVec_yes hv
  have HW := Lib.hid (St.start w)
  have e : orderFor ws = (nats (ordN ws ws.length), true) := by unfold orderFor; rw [hv]; rfl
  have HF := Lib.hid hf
  have hne : ((ws.length : Int) != n) = false := bne_eq_false_iff_eq.2 hn
  have hxp : xs.length = 2 ^ ws.length := by rw [hxl, ← hn, Int.toNat_natCast]
  have hpm := ordF_pm ws
  have hol : (nats (ordN ws ws.length)).length = ws.length := by rw [nats_len, ordN_len]
  have hgl := gain_len xs (ordF ws) ws.length ws.length
  have HO := Lib.hid (fun W h1 => ordI_any D ws dap W (Lib.hid h1) hl)
  rw [e] at HO
  have hgb := Lib.hid (fun k => gain_bd (xs := xs) (o := ordF ws) (m := ws.length) hpm.lt (fun i hi => by
    have a2 := hxv _ (show pre (ordF ws) i < xs.length by rw [hxp]; exact pre_lt i fun k hk => hpm.lt k (by omega))
    have a3 := hxv _ (show pre (ordF ws) (i + 1) < xs.length by rw [hxp]; exact pre_lt (i + 1) fun k hk => hpm.lt k (by omega))
    unfold dl
    omega) k ws.length (Nat.le_refl _))
  have hev : extV xs ws = xs.getD 0 0 + sm (fun k => ws.getD k 0 * (gain xs (ordF ws) ws.length ws.length).getD k 0) ws.length := by
    rw [gain_sum xs hpm (fun k => ws.getD k 0) ws.length (Nat.le_refl _)]
    rfl
  have heb := ext_bd ok
  rw [hev] at heb ⊢
  have HGA := Lib.hid (fun W V c (h1 : Ints W W.heap.size A xs) (h2 : Ints W W.heap.size V (nats (ordN ws ws.length))) => (gainsI_any n A xs cap V (nats (ordN ws ws.length)) c W (Lib.hid h1) (Lib.hid h2) ws.length (ordF ws) hol h5 hxp hxv (fun i hi => by rw [nats_at (by rw [ordN_len]; exact hi)]; rfl) hpm.lt).mono fun e w' ⟨V', c', he, ho, hb⟩ => (show ∃ V' c', e = Ending.returned (.slice V' ws.length c') ∧ K.Own w' W.heap.size (.slice V' ws.length c') _ ∧ Below W.heap.size W w' from ⟨V', c', by rw [he, hgl], by rw [hgl] at ho; exact ho, hb⟩))
  have HPR := Lib.hid (fun W V c (h1 : Ints W W.heap.size D ws) (h2 : Ints W W.heap.size V (gain xs (ordF ws) ws.length ws.length)) => productI_any D ws dap V _ c W (Lib.hid h1) (Lib.hid h2) h5 hgl hwv fun k _ => hgb.out k)
  rw [hol] at HGA
  rw [hgl] at HPR
  generalize sm (fun k => ws.getD k 0 * (gain xs (ordF ws) ws.length ws.length).getD k 0) ws.length = y at *
  generalize gain xs (ordF ws) ws.length ws.length = gs at *
  generalize nats (ordN ws ws.length) = os at *
  obtain ⟨m, hm⟩ : ∃ m, ws.length = m := ⟨_, rfl⟩
  obtain ⟨p, hp⟩ : ∃ p, xs.length = p := ⟨_, rfl⟩
  have hp0' : 0 < p := by rw [← hp, hxp]; exact Nat.two_pow_pos _
  rw [hm] at HO hne hol h5 HGA HPR hgl ⊢
  rw [hp] at HGA ⊢
  have hx0b := hxv 0 (by omega)
  have HX := Lib.hid hm
  have HY := Lib.hid hp
  have HL := Lib.hid hol
  have HGL := Lib.hid hgl
  clear e hv hf hn hxl hxv hwv hpm hev hm hp hol hgl hgb ok hl hxp
  go_enter Try.func16, Try.ntmps16
  have hp0 : (0 : Int) < (p : Int) := by omega
  obtain ⟨b, off, rfl, hbl, hc0⟩ := h.out.at_ (k := 0) (by rw [HY.out]; omega)
  have HC0 := Lib.hid hc0
  obtain ⟨x0, hx0⟩ : ∃ x0, xs.getD 0 0 = x0 := ⟨_, rfl⟩
  rw [hx0] at HC0 hx0b heb ⊢
  have hw0 : IntKind.i64.wrap (x0 + y) = x0 + y := IntWalk.i64_in _ (by omega)
  clear hc0 heb hx0b
  go_wp2_with (first
    | (go_at_call 24; refine St.use (w0 := w) (by exact HW.out.alloc _ _) ?_; intro hS; (try simp only [World.size_alloc] at hS); refine (HO.out _ ((g.out.below hS.base).mono hS.size)).mono ?_; rintro e w2 ⟨V, c, rfl, ho, hb⟩; rw [HL.out] at ho ⊢; have hS1 := hS.newI hb ho; rw [HL.out] at hS1; obtain ⟨b0, -⟩ := hS1.box (i := 1) rfl; have b00 := b0 0 _ rfl; have b01 := b0 1 _ rfl; have HS := Lib.hid hS1; clear hS ho hb hS1 b0)
    | (go_at_call 40; rw [← HY.out]; refine (isFnI_yes n _ xs cap _ (Lib.hid ((h.out.below HS.out.base).mono HS.out.size)) HF.out).mono ?_; rintro e w3 ⟨rfl, hb⟩; have hS1 := HS.out.below hb; obtain ⟨b0, -⟩ := hS1.box (i := 1) rfl; have c00 := b0 0 _ rfl; have c01 := b0 1 _ rfl; have hcc := (hS1.base.cell (p := ⟨b, off + 0, none⟩) hbl).trans HC0.out; rw [Nat.add_zero] at hcc; have HS2 := Lib.hid hS1; clear hb hS1 b0 b00 b01))
  go_region_held3 (fun w' => w'.cell? ⟨w.heap.size, 0, none⟩ = some (.int .i64 n) ∧ w'.cell? ⟨w.heap.size, 1, none⟩ = some (.slice (some ⟨b, off, none⟩) p cap) ∧ w'.cell? ⟨b, off, none⟩ = some (.int .i64 x0)) (first | assumption | go_keep) (first
    | (go_at_call 42; refine (HGA.out _ _ _ ?_ ?_).mono ?_; (exact (h.out.below HS2.out.drew.base).mono HS2.out.drew.size); (exact HS2.out.drew.ints (i := 0) rfl); rintro e w4 ⟨V', c', rfl, ho, hb⟩; have hS3 := HS2.out.drew.newI hb ho; rw [HGL.out] at hS3; obtain ⟨b0, -⟩ := hS3.box (i := 2) rfl; have e00 := b0 0 _ rfl; have e01 := b0 1 _ rfl; have ecc := (hS3.base.cell (p := ⟨b, off + 0, none⟩) hbl).trans HC0.out; rw [Nat.add_zero] at ecc; have HS3 := Lib.hid hS3; clear ho hb hS3 b0)
    | (go_at_call 41; refine (HPR.out _ _ _ ?_ ?_).mono ?_; (exact (g.out.below HS3.out.base).mono HS3.out.size); (exact HS3.out.ints (i := 0) rfl); rintro e w5 ⟨rfl, rfl⟩))
  go_wp2
  go_ret2
  exact ⟨rfl, HS3.out.base⟩

theorem extI_any : Calls Try.prog 16 #[.agg #[.int .i64 n, .slice A xs.length cap], .slice D ws.length dap] w (RetV w (.tuple #[.int .i64 (extAt n xs ws).1, .bool (extAt n xs ws).2])) := by
  unfold extAt
  cases ok : extOk n xs ws
  · cases hv : isVec ws
    · exact extI_vec n A xs cap D ws dap w h g hl hv
    · cases hf : isFn n xs
      · exact extI_fn n A xs cap D ws dap w h g hl hv hf
      · refine extI_len n A xs cap D ws dap w h g hl hv hf fun hn => ?_
        unfold extOk at ok
        rw [hv, hf, decide_eq_true hn] at ok
        exact absurd ok (by decide)
  · exact extI_good n A xs cap D ws dap w h g hl ok

end


end Go.Proofs.Ytgenllnpmjialaa.C
