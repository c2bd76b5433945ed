/-
  The contract of impl.DualFunction.
-/
import Derived.Test.YtfpoiiennlhphaaDoorImA
import Derived.Test.YtfpoiiennlhphaaDoorMakeDual
namespace Go.Proofs.YtfpoiiennlhphaaDoor.C
open Go.RowKit K M
set_option linter.unusedVariables false
set_option linter.unusedSimpArgs false


section

variable (n : Int) (A : Option Addr) (xs : List Int) (cap : Nat) (D : Option Addr) (ws : List Int) (dap : Nat) (w : World) (h : Hid (Ints w w.heap.size A xs)) (g : Hid (Ints w w.heap.size D ws))
include h
set_option maxRecDepth 100000 in
set_option maxHeartbeats 1600000 in
theorem dualI_fn (hf : isFn n xs = false) :
    Calls Tryd.prog 30 #[.agg #[.int .i64 n, .slice A xs.length cap], .slice D ws.length dap] w (RetFB w 0 [] false) := by
  have HW := Lib.hid (St.start w)
  have HF := Lib.hid hf
  clear hf
  go_enter Tryd.func30, Tryd.ntmps30
  go_wp2_with (go_at_call 67; refine St.use (w0 := w) (by exact ((HW.out.alloc _ _).alloc _ _).alloc _ _) ?_; intro hS; (try simp only [World.size_alloc] at hS); refine (isFnI_no n A xs cap _ (Lib.hid ((h.out.below hS.base).mono hS.size)) HF.out).mono ?_; rintro e w2 ⟨rfl, hb⟩; have hS2 := hS.below hb; obtain ⟨u0, uf⟩ := hS2.box (i := 0) rfl; have u00 := u0 0 _ rfl; have u01 := u0 1 _ rfl; have uf0 := uf 0; have uf1 := uf 1; have ul := (hS2.lt (i := 0) rfl).2; have HS2 := Lib.hid hS2; clear hS hb hS2 u0 uf)
  have hZ := (HS2.out.store (i := 0) rfl 0 (.int .i64 0)).store (i := 0) rfl 1 (.slice none 0 0)
  exact bodyPost_ret (v := .tuple #[.agg #[.int .i64 0, .slice none 0 0], .bool false]) (by simp [results, Tryd.results30, go_sem, u00, u01, uf0, uf1, ul]) rfl ⟨none, 0, rfl, K.Own.nil _ _, by first | exact hZ.base | exact HS2.out.base⟩

set_option maxRecDepth 100000 in
set_option maxHeartbeats 1600000 in
theorem dualI_len (hf : isFn n xs = true) (hn : (ws.length : Int) ≠ n) :
    Calls Tryd.prog 30 #[.agg #[.int .i64 n, .slice A xs.length cap], .slice D ws.length dap] w (RetFB w 0 [] false) := by
  have HW := Lib.hid (St.start w)
  have HF := Lib.hid hf
  have hne : ((ws.length : Int) == n) = false := beq_eq_false_iff_ne.2 hn
  have hne2 : ((ws.length : Int) != n) = true := by unfold bne; rw [hne]; rfl
  clear hf hn
  go_enter Tryd.func30, Tryd.ntmps30
  go_wp2_with (go_at_call 67; refine St.use (w0 := w) (by exact ((HW.out.alloc _ _).alloc _ _).alloc _ _) ?_; intro hS; (try simp only [World.size_alloc] at hS); refine (isFnI_yes n A xs cap _ (Lib.hid ((h.out.below hS.base).mono hS.size)) HF.out).mono ?_; rintro e w2 ⟨rfl, hb⟩; have hS2 := hS.below hb; obtain ⟨b0, -⟩ := hS2.box (i := 2) rfl; have b00 := b0 0 _ rfl; obtain ⟨c0, -⟩ := hS2.box (i := 1) rfl; have c00 := c0 0 _ rfl; obtain ⟨u0, uf⟩ := hS2.box (i := 0) rfl; have u00 := u0 0 _ rfl; have u01 := u0 1 _ rfl; have uf0 := uf 0; have uf1 := uf 1; have ul := (hS2.lt (i := 0) rfl).2; have HS2 := Lib.hid hS2; clear hS hb hS2 u0 uf b0 c0)
  have hZ := (HS2.out.store (i := 0) rfl 0 (.int .i64 0)).store (i := 0) rfl 1 (.slice none 0 0)
  exact bodyPost_ret (v := .tuple #[.agg #[.int .i64 0, .slice none 0 0], .bool false]) (by simp [results, Tryd.results30, go_sem, u00, u01, uf0, uf1, ul]) rfl ⟨none, 0, rfl, K.Own.nil _ _, by first | exact hZ.base | exact HS2.out.base⟩

include g
set_option maxRecDepth 100000 in
set_option maxHeartbeats 3200000 in
theorem dualI_w (hf : isFn n xs = true) (hn : (ws.length : Int) = n) (j : Nat) (hj : j < ws.length) (hb : ws.getD j 0 < -1000 ∨ 1000 < ws.getD j 0) (hv : ∀ k, k < j → -1000 ≤ ws.getD k 0 ∧ ws.getD k 0 ≤ 1000) :
    Calls Tryd.prog 30 #[.agg #[.int .i64 n, .slice A xs.length cap], .slice D ws.length dap] w (RetFB w 0 [] false) := by
  have HW := Lib.hid (St.start w)
  have HF := Lib.hid hf
  obtain ⟨h0, h5, -, -⟩ := isFn_yes hf
  have HA := Lib.hid (fun W (hW : Ints W W.heap.size D ws) => areI_no D ws dap W (Lib.hid hW) (by omega) j hj hb hv)
  subst hn
  clear hf hv hb
  go_enter Tryd.func30, Tryd.ntmps30
  go_wp2_with (first
    | (go_at_call 67; refine St.use (w0 := w) (by exact ((HW.out.alloc _ _).alloc _ _).alloc _ _) ?_; intro hS; (try simp only [World.size_alloc] at hS); refine (isFnI_yes _ A xs cap _ (Lib.hid ((h.out.below hS.base).mono hS.size)) HF.out).mono ?_; rintro e w2 ⟨rfl, hb⟩; have hS2 := hS.below hb; obtain ⟨b0, -⟩ := hS2.box (i := 2) rfl; have b00 := b0 0 _ rfl; obtain ⟨c0, -⟩ := hS2.box (i := 1) rfl; have c00 := c0 0 _ rfl; obtain ⟨u0, uf⟩ := hS2.box (i := 0) rfl; have u00 := u0 0 _ rfl; have u01 := u0 1 _ rfl; have uf0 := uf 0; have uf1 := uf 1; have ul := (hS2.lt (i := 0) rfl).2; have HS2 := Lib.hid hS2; clear hS hb hS2 u0 uf b0 c0)
    | (go_at_call 89; refine (HA.out _ ((g.out.below HS2.out.base).mono HS2.out.size)).mono ?_; rintro e' w' ⟨rfl, rfl⟩))
  have hZ := (HS2.out.store (i := 0) rfl 0 (.int .i64 0)).store (i := 0) rfl 1 (.slice none 0 0)
  exact bodyPost_ret (v := .tuple #[.agg #[.int .i64 0, .slice none 0 0], .bool false]) (by simp [results, Tryd.results30, go_sem, u00, u01, uf0, uf1, ul]) rfl ⟨none, 0, rfl, K.Own.nil _ _, by first | exact hZ.base | exact HS2.out.base⟩

set_option maxRecDepth 100000 in
set_option maxHeartbeats 8000000 in
theorem dualI_good (hbr : Hid (Brujn w)) (hf : isFn n xs = true) (hn : (ws.length : Int) = n) (hv : weightsOk ws) :
    Calls Tryd.prog 30 #[.agg #[.int .i64 n, .slice A xs.length cap], .slice D ws.length dap] w (RetFB w (made n (tab xs.length (dualV xs ws))).1 (made n (tab xs.length (dualV xs ws))).2.1 (made n (tab xs.length (dualV xs ws))).2.2) := by
  have HW := Lib.hid (St.start w)
  have HF := Lib.hid hf
  obtain ⟨h0, h5, hl, hvv⟩ := isFn_yes hf
  obtain ⟨N, rfl⟩ := Int.eq_ofNat_of_zero_le h0
  rw [Int.toNat_natCast] at hl
  have hwN : ws.length = N := by omega
  have HA := Lib.hid (fun W (hW : Ints W W.heap.size D ws) => areI_yes D ws dap W (Lib.hid hW) (by omega) hv)
  have HC := Lib.hid (fun (W : World) (wb fb ab b off S : Nat) (x z : Int) hW hS hqm hB x1 x2 z1 z2 => dualC D ws dap N S (compl N S) x z wb fb ab b off xs.length cap W (Lib.hid hW) hv hwN (by omega) hS rfl hqm (Lib.hid hB) x1 x2 z1 z2)
  have HO := Lib.hid (fun s => show dualV xs ws s = weigh ws s ws.length + xs.getD (xs.length - 1 - s) 0 - xs.getD (xs.length - 1) 0 from rfl)
  have HK := Lib.hid (fun W => complD N 0 W (by omega) (Nat.two_pow_pos N))
  have HVV := Lib.hid hvv
  have HL := Lib.hid hl
  rw [hwN] at HA HO ⊢
  have HQ := Lib.hid hwN
  generalize dualV xs ws = f at *
  obtain ⟨rn, rx, rb, hr⟩ : ∃ rn rx rb, made (N : Int) (tab xs.length f) = (rn, rx, rb) := ⟨_, _, _, rfl⟩
  rw [hr]
  have HM := Lib.hid (fun p1 p2 p3 W hh => make_dual N xs.length f p1 p2 p3 W (by omega) (by omega) (by rw [Int.toNat_natCast]; exact hl) rn rx rb (Lib.hid hr) hh)
  obtain ⟨k, hk⟩ : ∃ k, compl N 0 = k := ⟨_, rfl⟩
  have hkm : k < xs.length := by rw [hl, ← hk]; exact compl_lt
  have HKE := Lib.hid (show k = xs.length - 1 by rw [← hk, hl]; unfold compl; omega)
  rw [hk] at HK
  obtain ⟨b, off, rfl, hbl, hcc⟩ := h.out (by omega)
  have HCC := Lib.hid hcc
  have hck := hcc k hkm
  obtain ⟨u1, u2⟩ := hvv k hkm
  obtain ⟨z, hz⟩ : ∃ z, xs.getD k 0 = z := ⟨_, rfl⟩
  rw [hz] at hck u1 u2
  have HZ := Lib.hid hz
  have HX := Lib.hid hck
  have hk0 : (0 : Int) ≤ (k : Int) := by omega
  have hki : (k : Int) < (xs.length : Int) := by omega
  have hmf : ∀ (fn : Fn) (first cap : Array Value) (w : World), (Instr.makeFunc fn first cap).run Tryd.prog w = .ok (.func fn first cap) w := fun _ _ _ _ => rfl
  clear hf hl hvv hv hwN hr hk hcc hck hz hn
  go_enter Tryd.func30, Tryd.ntmps30
  go_wp2_with (first
    | (go_at_call 67; refine St.use (w0 := w) (by exact ((HW.out.alloc _ _).alloc _ _).alloc _ _) ?_; intro hS; (try simp only [World.size_alloc] at hS); refine (isFnI_yes _ _ xs cap _ (Lib.hid ((h.out.below hS.base).mono hS.size)) HF.out).mono ?_; rintro e w2 ⟨rfl, hb⟩; have hS2 := hS.below hb; obtain ⟨b0, -⟩ := hS2.box (i := 2) rfl; have b00 := b0 0 _ rfl; have b01 := b0 1 _ rfl; obtain ⟨c0, -⟩ := hS2.box (i := 1) rfl; have c00 := c0 0 _ rfl; have d0 := (hS2.base.cell (p := ⟨b, off + k, none⟩) hbl).trans HX.out; have HS2 := Lib.hid hS2; clear hS hb hS2 b0 c0)
    | (go_at_call 89; refine (HA.out _ ((g.out.below HS2.out.base).mono HS2.out.size)).mono ?_; rintro e' w' ⟨rfl, rfl⟩))
  go_region_held3 (fun w' => w'.cell? ⟨w.heap.size, 0, none⟩ = some (.int .i64 N) ∧ w'.cell? ⟨w.heap.size, 1, none⟩ = some (.slice (some ⟨b, off, none⟩) xs.length cap) ∧ w'.cell? ⟨b, off + k, none⟩ = some (.int .i64 z)) (first | (refine ⟨?_, ?_, ?_⟩ <;> assumption) | assumption | go_keep) (first
    | (go_at_call 75; refine (HK.out _).mono ?_; rintro e' w' ⟨rfl, rfl⟩))
  all_goals (
    have hS3 : St w (w2.alloc (.cells #[.int .i64 z] 3)).drew _ := (HS2.out.alloc [.int .i64 z] 3).drew
    generalize (w2.alloc (.cells #[.int .i64 z] 3)).drew = w3 at hS3 ⊢
    have e00 := (hS3.box (i := 3) rfl).1 0 _ rfl
    have HS3 := Lib.hid hS3
    clear hS3 b00 b01 c00 d0
    go_wp2_with fail
    refine (HM.out _ _ _ _ ?_).mono ?_
    · refine Lib.hid ?_
      intro i hi W hW
      have hS := HS3.out.below hW
      have hbw : b < W.heap.size := Nat.lt_of_lt_of_le hbl hS.size
      have hiN : i < 2 ^ N := by rw [← HL.out]; exact hi
      have hci : compl N i < xs.length := by rw [HL.out]; exact compl_lt
      obtain ⟨v1, v2⟩ := HVV.out _ hci
      rw [HO.out, show xs.length - 1 - i = compl N i by rw [HL.out]; rfl, ← HKE.out, HZ.out]
      exact HC.out W _ _ _ b off i _ z ((g.out.below hS.base).mono hS.size) hiN hci (brujn_on hbr.out hS.base) v1 v2 u1 u2 ((hS.box (i := 2) rfl).1 0 _ rfl) ((hS.box (i := 3) rfl).1 0 _ rfl) ((hS.box (i := 3) rfl).1 1 _ rfl) ((hS.box (i := 0) rfl).1 0 _ rfl) ((hS.base.cell (p := ⟨b, off + compl N i, none⟩) hbl).trans (HCC.out _ hci)) (hS.lt (i := 2) rfl).2 (hS.lt (i := 3) rfl).2 (hS.lt (i := 0) rfl).2 hbw
    rintro e w4 ⟨B, d, rfl, ho, hb⟩
    have hS4 := HS3.out.newI hb ho
    obtain ⟨r1, rf⟩ := hS4.box (i := 2) rfl
    have s10 := r1 0 _ rfl
    have s11 := r1 1 _ rfl
    have sf0 := rf 0
    have sf1 := rf 1
    have HS4 := Lib.hid hS4
    clear r1 rf hb ho hS4
    go_wp2
    have hZ := (HS4.out.store (i := 2) rfl 0 (.int .i64 rn)).store (i := 2) rfl 1 (.slice B rx.length d)
    exact bodyPost_ret (v := .tuple #[.agg #[.int .i64 rn, .slice B rx.length d], .bool rb]) (by simp [results, Tryd.results30, go_sem, s10, s11, sf0, sf1]) rfl ⟨B, d, rfl, hZ.ownI (i := 0) rfl, hZ.base⟩)

theorem dualI_any (hbr : Hid (Brujn w)) : Calls Tryd.prog 30 #[.agg #[.int .i64 n, .slice A xs.length cap], .slice D ws.length dap] w (RetFB w (dualFn n xs ws).1 (dualFn n xs ws).2.1 (dualFn n xs ws).2.2) := by
  unfold dualFn
  cases hf : isFn n xs
  · rw [if_neg (by simp)]
    exact dualI_fn n A xs cap D ws dap w h hf
  · by_cases hn : (ws.length : Int) = n
    · by_cases hv : weightsOk ws
      · rw [if_pos ⟨rfl, hn, hv⟩]
        exact dualI_good n A xs cap D ws dap w h g hbr hf hn hv
      · rw [if_neg fun hh => hv hh.2.2]
        obtain ⟨j, hj, hb, hk⟩ := first_bad hv
        exact dualI_w n A xs cap D ws dap w h g hf hn j hj (by omega) hk
    · rw [if_neg fun hh => hn hh.2.1]
      exact dualI_len n A xs cap D ws dap w h hf hn

end


end Go.Proofs.YtfpoiiennlhphaaDoor.C
