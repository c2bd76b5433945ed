/-
  The contract of spec.DualFunction.
-/
import Derived.Test.YtfpoiiennlhphaaDoorReS
namespace Go.Proofs.YtfpoiiennlhphaaDoor.C
open Go.RowKit K M
set_option linter.unusedVariables false
set_option linter.unusedSimpArgs false


section

variable (n : Int) (A : Option Addr) (xs : List Int) (cap : Nat) (D : Option Addr) (ws : List Int) (dap : Nat) (w : World) (h : Hid (Ints w w.heap.size A xs)) (g : Hid (Ints w w.heap.size D ws))
include h
set_option maxRecDepth 100000 in
set_option maxHeartbeats 1600000 in
theorem dualS_fn (hf : isFn n xs = false) :
    Calls Tryd.prog 31 #[.agg #[.int .i64 n, .slice A xs.length cap], .slice D ws.length dap] w (RetFB w 0 [] false) := by
  have HW := Lib.hid (St.start w)
  have HF := Lib.hid hf
  clear hf
  go_enter Tryd.func31, Tryd.ntmps31
  go_wp2_with (go_at_call 81; refine St.use (w0 := w) (by exact (HW.out.alloc _ _).alloc _ _) ?_; intro hS; (try simp only [World.size_alloc] at hS); refine (isFnS_no n A xs cap _ (Lib.hid ((h.out.below hS.base).mono hS.size)) HF.out).mono ?_; rintro e w2 ⟨rfl, hb⟩; have hS2 := hS.below hb; obtain ⟨u0, uf⟩ := hS2.box (i := 0) rfl; have u00 := u0 0 _ rfl; have u01 := u0 1 _ rfl; have uf0 := uf 0; have uf1 := uf 1; have ul := (hS2.lt (i := 0) rfl).2; have HS2 := Lib.hid hS2; clear hS hb hS2 u0 uf)
  have hZ := (HS2.out.store (i := 0) rfl 0 (.int .i64 0)).store (i := 0) rfl 1 (.slice none 0 0)
  exact bodyPost_ret (v := .tuple #[.agg #[.int .i64 0, .slice none 0 0], .bool false]) (by simp [results, Tryd.results31, go_sem, u00, u01, uf0, uf1, ul]) rfl ⟨none, 0, rfl, Own.nil _ _, by first | exact hZ.base | exact HS2.out.base⟩

set_option maxRecDepth 100000 in
set_option maxHeartbeats 1600000 in
theorem dualS_len (hf : isFn n xs = true) (hn : (ws.length : Int) ≠ n) :
    Calls Tryd.prog 31 #[.agg #[.int .i64 n, .slice A xs.length cap], .slice D ws.length dap] w (RetFB w 0 [] false) := by
  have HW := Lib.hid (St.start w)
  have HF := Lib.hid hf
  have hne : ((ws.length : Int) == n) = false := beq_eq_false_iff_ne.2 hn
  clear hf hn
  go_enter Tryd.func31, Tryd.ntmps31
  go_wp2_with (go_at_call 81; refine St.use (w0 := w) (by exact (HW.out.alloc _ _).alloc _ _) ?_; intro hS; (try simp only [World.size_alloc] at hS); refine (isFnS_yes n A xs cap _ (Lib.hid ((h.out.below hS.base).mono hS.size)) HF.out).mono ?_; rintro e w2 ⟨rfl, hb⟩; have hS2 := hS.below hb; obtain ⟨b0, -⟩ := hS2.box (i := 1) rfl; have b00 := b0 0 _ rfl; obtain ⟨u0, uf⟩ := hS2.box (i := 0) rfl; have u00 := u0 0 _ rfl; have u01 := u0 1 _ rfl; have uf0 := uf 0; have uf1 := uf 1; have ul := (hS2.lt (i := 0) rfl).2; have HS2 := Lib.hid hS2; clear hS hb hS2 u0 uf b0)
  have hZ := (HS2.out.store (i := 0) rfl 0 (.int .i64 0)).store (i := 0) rfl 1 (.slice none 0 0)
  exact bodyPost_ret (v := .tuple #[.agg #[.int .i64 0, .slice none 0 0], .bool false]) (by simp [results, Tryd.results31, go_sem, u00, u01, uf0, uf1, ul]) rfl ⟨none, 0, rfl, Own.nil _ _, by first | exact hZ.base | exact HS2.out.base⟩

include g
set_option maxRecDepth 100000 in
set_option maxHeartbeats 3200000 in
theorem dualS_w (hf : isFn n xs = true) (hn : (ws.length : Int) = n) (j : Nat) (hj : j < ws.length) (hb : ws.getD j 0 < -1000 ∨ 1000 < ws.getD j 0) (hv : ∀ k, k < j → -1000 ≤ ws.getD k 0 ∧ ws.getD k 0 ≤ 1000) :
    Calls Tryd.prog 31 #[.agg #[.int .i64 n, .slice A xs.length cap], .slice D ws.length dap] w (RetFB w 0 [] false) := by
  have HW := Lib.hid (St.start w)
  have HF := Lib.hid hf
  obtain ⟨h0, h5, -, -⟩ := isFn_yes hf
  obtain ⟨q, hq⟩ : ∃ q, ws.length = q := ⟨_, rfl⟩
  have HX := Lib.hid hq
  rw [hq] at hn hj ⊢
  have HV := Lib.hid hv
  have HB := Lib.hid hb
  subst hn
  clear hf hq hv hb
  go_enter Tryd.func31, Tryd.ntmps31
  go_wp2_with (go_at_call 81; refine St.use (w0 := w) (by exact (HW.out.alloc _ _).alloc _ _) ?_; intro hS; (try simp only [World.size_alloc] at hS); refine (isFnS_yes q A xs cap _ (Lib.hid ((h.out.below hS.base).mono hS.size)) HF.out).mono ?_; rintro e w2 ⟨rfl, hb⟩; have hS2 := hS.below hb; obtain ⟨b0, -⟩ := hS2.box (i := 1) rfl; have b00 := b0 0 _ rfl; obtain ⟨u0, uf⟩ := hS2.box (i := 0) rfl; have u00 := u0 0 _ rfl; have u01 := u0 1 _ rfl; have uf0 := uf 0; have uf1 := uf 1; have ul := (hS2.lt (i := 0) rfl).2; have HS2 := Lib.hid hS2; clear hS hb hS2 u0 uf b0)
  go_loop [6] (fun i => ∃ k : Nat, k ≤ j ∧ i = .int .i64 k) (fun i => q - (intOf i).toNat)
  case atStart => exact ⟨0, Nat.zero_le _, rfl⟩
  case round =>
    obtain ⟨k, hk, rfl⟩ := hrel
    obtain ⟨b, off, rfl, hbl, hc⟩ := g.out.at_ (k := k) (by rw [HX.out]; omega)
    have d := (HS2.out.base.cell (p := ⟨b, off + k, none⟩) hbl).trans hc
    have hk0 : (0 : Int) ≤ (k : Int) := by omega
    have hkn : (k : Int) < (q : Int) := by omega
    clear hc
    by_cases hlt : k < j
    · obtain ⟨v1, v2⟩ := HV.out k hlt
      generalize ws.getD k 0 = x at d v1 v2
      go_wp2_with (go_at_call 92; refine (in_yes x (-1000) 1000 _ v1 v2).mono ?_; rintro e w' ⟨rfl, rfl⟩)
      go_round
      case rel => exact ⟨k + 1, by omega, by go_num⟩
      case measure => simp [intOf]; omega
    · obtain rfl : k = j := by omega
      have hb := HB.out
      clear HB HV
      generalize ws.getD k 0 = x at d hb
      have HB := Lib.hid hb
      clear hb
      go_wp2_with (go_at_call 92; refine (in_no x (-1000) 1000 _ HB.out).mono ?_; rintro e w' ⟨rfl, rfl⟩)
      have hZ := (HS2.out.store (i := 0) rfl 0 (.int .i64 0)).store (i := 0) rfl 1 (.slice none 0 0)
      exact bodyPost_ret (v := .tuple #[.agg #[.int .i64 0, .slice none 0 0], .bool false]) (by simp [results, Tryd.results31, go_sem, u00, u01, uf0, uf1, ul]) rfl ⟨none, 0, rfl, Own.nil _ _, by first | exact hZ.base | exact HS2.out.base⟩

set_option maxRecDepth 100000 in
set_option maxHeartbeats 8000000 in
theorem dualS_good (hf : isFn n xs = true) (hn : (ws.length : Int) = n) (hv : weightsOk ws) :
    Calls Tryd.prog 31 #[.agg #[.int .i64 n, .slice A xs.length cap], .slice D ws.length dap] w (RetFB w (made n (tab xs.length (dualV xs ws))).1 (made n (tab xs.length (dualV xs ws))).2.1 (made n (tab xs.length (dualV xs ws))).2.2) := by
  have HW := Lib.hid (St.start w)
  have HF := Lib.hid hf
  obtain ⟨h0, h5, hl, hvv⟩ := isFn_yes hf
  have hm32 := isFn_len hf
  have hq5 : ws.length ≤ 5 := by omega
  have HG := Lib.hid (fun W hW => isFnS_yes n A xs cap W (Lib.hid hW) HF.out)
  have HWG := Lib.hid (fun (W : World) (s : Nat) (hW : Ints W W.heap.size D ws) (hs : s < 4294967296) => weighS_any D ws dap s W (Lib.hid hW) hv hq5 hs)
  have HWB := Lib.hid (fun s => weigh_bd hv s ws.length (Nat.le_refl _))
  have HO := Lib.hid (fun s => show dualV xs ws s = weigh ws s ws.length + xs.getD (xs.length - 1 - s) 0 - xs.getD (xs.length - 1) 0 from rfl)
  have HVV := Lib.hid hvv
  have HV := Lib.hid hv
  generalize dualV xs ws = f at HO ⊢
  obtain ⟨q, hq⟩ : ∃ q, ws.length = q := ⟨_, rfl⟩
  have HQ := Lib.hid hq
  rw [hq] at hn hq5 HO HWG HWB ⊢
  obtain ⟨m, hm⟩ : ∃ m, xs.length = m := ⟨_, rfl⟩
  have HX := Lib.hid hm
  rw [hm] at HG HO hm32 ⊢
  obtain ⟨rn, rx, rb, hr⟩ : ∃ rn rx rb, made n (tab m f) = (rn, rx, rb) := ⟨_, _, _, rfl⟩
  rw [hr]
  have HRR := Lib.hid hr
  clear hf hl hm hq hv hvv hr
  subst hn
  obtain ⟨i0, hi, hz0, hz1, hz2⟩ := info_parts info_int
  go_enter Tryd.func31, Tryd.ntmps31
  go_wp2_with (go_at_call 81; refine St.use (w0 := w) (by exact (HW.out.alloc _ _).alloc _ _) ?_; intro hS; (try simp only [World.size_alloc] at hS); refine (HG.out _ ((h.out.below hS.base).mono hS.size)).mono ?_; rintro e w2 ⟨rfl, hb⟩; have hS2 := hS.below hb; obtain ⟨b0, -⟩ := hS2.box (i := 1) rfl; have b00 := b0 0 _ rfl; have b01 := b0 1 _ rfl; have bl1 := (hS2.lt (i := 1) rfl).2; have HS := Lib.hid hS2; clear hS hb b0 hS2)
  go_loop [6] (fun i => ∃ k : Nat, k ≤ q ∧ i = .int .i64 k) (fun i => q - (intOf i).toNat)
  case atStart => exact ⟨0, Nat.zero_le _, rfl⟩
  case round =>
    obtain ⟨k, hk, rfl⟩ := hrel
    by_cases hlt : k < q
    · obtain ⟨b, off, rfl, hbl, hc⟩ := g.out.at_ (k := k) (by rw [HQ.out]; omega)
      have d := (HS.out.base.cell (p := ⟨b, off + k, none⟩) hbl).trans hc
      have hk0 : (0 : Int) ≤ (k : Int) := by omega
      have hkn : (k : Int) < (q : Int) := by omega
      clear hc
      obtain ⟨v1, v2⟩ := HV.out k (by rw [HQ.out]; exact hlt)
      generalize ws.getD k 0 = x at d v1 v2
      go_wp2_with (go_at_call 92; refine (in_yes x (-1000) 1000 _ v1 v2).mono ?_; rintro e w' ⟨rfl, rfl⟩)
      go_round
      case rel => exact ⟨k + 1, by omega, by go_num⟩
      case measure => simp [intOf]; omega
    · obtain rfl : q = k := by omega
      have hqq : ¬ (q : Int) < (q : Int) := by omega
      go_wp2
      obtain ⟨k2, hk2⟩ : ∃ k2 : Nat, (m : Int) - 1 = (k2 : Int) := ⟨m - 1, by omega⟩
      rw [hk2]
      have HK2 := Lib.hid (show m = k2 + 1 by omega)
      clear b00 b01 hk2
      go_loopw [7, 9] (fun v i wr => ∃ (j : Nat) (V : Option Addr) (c : Nat), i = .int .i64 j ∧ j ≤ m ∧ v = .slice V j c ∧ St w wr [il (.slice V j c) j (tab j f), bx (w.heap.size + 1) 26 [.int .i64 0, .slice none 0 0], bx w.heap.size 26 [.int .i64 q, .slice A m cap]]) (fun _ i _ => m - (intOf i).toNat)
      case atStart => exact ⟨0, _, _, rfl, Nat.zero_le _, rfl, HS.out.empty⟩
      case round =>
        obtain ⟨j, V, c, rfl, hj, rfl, hS⟩ := hrel
        obtain ⟨b0, -⟩ := hS.box (i := 2) rfl
        have b00 := b0 0 _ rfl
        have b01 := b0 1 _ rfl
        have HR := Lib.hid hS
        clear b0
        by_cases hlt2 : j < m
        · have htab := Lib.hid (tab_succ j f)
          have hji : (j : Int) < (m : Int) := by omega
          have hval := HO.out j
          have hcall := fun W hW => HWG.out W j hW (by omega)
          obtain ⟨y1, y2⟩ := HWB.out j
          obtain ⟨v1, v2⟩ := HVV.out (m - 1 - j) (by rw [HX.out]; omega)
          obtain ⟨u1, u2⟩ := HVV.out (m - 1) (by rw [HX.out]; omega)
          obtain ⟨b, off, rfl, hbl, hc⟩ := h.out.at_ (k := m - 1 - j) (by rw [HX.out]; omega)
          obtain ⟨b', off', e', -, hd⟩ := h.out.at_ (k := m - 1) (by rw [HX.out]; omega)
          obtain ⟨rfl, rfl⟩ : b = b' ∧ off = off' := by cases e'; exact ⟨rfl, rfl⟩
          have hcq := (hS.base.cell (p := ⟨b, off + (m - 1 - j), none⟩) hbl).trans hc
          have hcs := (hS.base.cell (p := ⟨b, off + (m - 1), none⟩) hbl).trans hd
          generalize weigh ws j q = y at hval hcall y1 y2
          generalize xs.getD (m - 1 - j) 0 = x at hc hcq hval v1 v2
          generalize xs.getD (m - 1) 0 = z at hd hcs hval u1 u2
          have hw1 : IntKind.i64.wrap (y + x) = y + x := IntWalk.i64_in _ (by omega)
          have hw2 : IntKind.i64.wrap (y + x - z) = y + x - z := IntWalk.i64_in _ (by omega)
          rw [hval] at htab
          obtain ⟨k1, hk1⟩ : ∃ k1, m - 1 - j = k1 := ⟨_, rfl⟩
          have hmk := HK2.out
          have hk2 : m - 1 = k2 := by omega
          have e3 : IntKind.i64.wrap ((k2 : Int) - (j : Int)) = (k1 : Int) := by rw [IntWalk.i64_in _ (by omega)]; omega
          rw [hk1] at hc hcq
          rw [hk2] at hd hcs
          have HCQ := Lib.hid hc
          have HCS := Lib.hid hd
          have HC := Lib.hid hcall
          have f1 : (0 : Int) ≤ (k1 : Int) := by omega
          have f2 : (k1 : Int) < (m : Int) := by omega
          have f3 : (0 : Int) ≤ (k2 : Int) := by omega
          have f4 : (k2 : Int) < (m : Int) := by omega
          clear hS hc hd hval hcall e' hk1 hk2 hmk
          go_wp2
          go_region_held3 (fun w' => w'.cell? ⟨w.heap.size, 1, none⟩ = some (.slice (some ⟨b, off, none⟩) m cap) ∧ w'.cell? ⟨b, off + k1, none⟩ = some (.int .i64 x) ∧ w'.cell? ⟨b, off + k2, none⟩ = some (.int .i64 z)) (first | (refine ⟨?_, ?_, ?_⟩ <;> assumption) | assumption | go_keep) (first
            | (go_at_call 93; refine St.use (w0 := w) (by first | exact HR.out | exact HR.out.drew | exact HR.out.drewN _) ?_; intro hS; refine (HC.out _ ((g.out.below hS.base).mono hS.size)).mono ?_; rintro e wq ⟨rfl, hq⟩; have hS1 : St w wq _ := (by obtain ⟨q1, rfl⟩ := hq; exact hS.drewN q1); obtain ⟨b0, -⟩ := hS1.box (i := 2) rfl; have b01' := b0 1 _ rfl; have hcq' := (hS1.base.cell (p := ⟨b, off + k1, none⟩) hbl).trans HCQ.out; have hcs' := (hS1.base.cell (p := ⟨b, off + k2, none⟩) hbl).trans HCS.out; have HR := Lib.hid hS1; clear hS hq hS1 b0)
            | (refine step_app1 (by rfl) (.tmp 48) (.tmp 66) 24 (by rfl) (y + x - z) Tryd.underlying24 hi hz0 hz1 hz2 (by first | exact (HR.out.alloc _ _).drop 0 | exact ((HR.out.alloc _ _).drop 0).drew) (i := 0) (by rfl) (by rfl) (by rfl) (by simp) (by omega) ?_; intro V' c' w3 hS3; obtain ⟨b0, -⟩ := hS3.box (i := 2) rfl; have b01' := b0 1 _ rfl; have hcq' := (hS3.base.cell (p := ⟨b, off + k1, none⟩) hbl).trans HCQ.out; have hcs' := (hS3.base.cell (p := ⟨b, off + k2, none⟩) hbl).trans HCS.out; have HR3 := Lib.hid hS3; clear hS3 b0))
          go_wp2
          go_roundw
          case rel => exact ⟨j + 1, V', c', by go_num, by omega, rfl, by rw [htab.out]; exact HR3.out⟩
          case measure => simp [intOf]; omega
        · obtain rfl : j = m := by omega
          have hjn : ¬ (j : Int) < (j : Int) := by omega
          obtain ⟨B, d, hcall, hend⟩ := made_any (q : Int) V (tab j f) j c wr (tab_length _ _) (hS.ints (i := 0) rfl)
          rw [HRR.out] at hcall hend
          have HC := Lib.hid hcall
          have HE := Lib.hid hend
          clear hcall hend hS
          go_wp2_with (go_at_call 78; refine HC.out.mono ?_; rintro e w2 ⟨rfl, hb⟩; have hS2 := HR.out.below hb; obtain ⟨p1, q1⟩ := hS2.box (i := 1) rfl; have p10 := p1 0 _ rfl; have p11 := p1 1 _ rfl; have q10 := q1 0; have q11 := q1 1; have pl := (hS2.lt (i := 1) rfl).2; clear p1 q1 hb; have HS2 := Lib.hid hS2; clear hS2 b00 b01)
          have hS3 := ((HS2.out.store (i := 1) rfl 0 (.int .i64 rn)).store (i := 1) rfl 1 (.slice B rx.length d)).alloc [.int .i64 rn, .slice B rx.length d] 26
          exact bodyPost_ret (v := .tuple #[.agg #[.int .i64 rn, .slice B rx.length d], .bool rb]) (by simp [results, Tryd.results31, go_sem, p10, p11, q10, q11, pl]) rfl ⟨B, d, rfl, ends_own hS3 (i := 1) rfl HE.out, hS3.base⟩

theorem dualS_any : Calls Tryd.prog 31 #[.agg #[.int .i64 n, .slice A xs.length cap], .slice D ws.length dap] w (RetFB w (dualFn n xs ws).1 (dualFn n xs ws).2.1 (dualFn n xs ws).2.2) := by
  unfold dualFn
  cases hf : isFn n xs
  · rw [if_neg (by simp)]
    exact dualS_fn n A xs cap D ws dap w h hf
  · by_cases hn : (ws.length : Int) = n
    · by_cases hv : weightsOk ws
      · rw [if_pos ⟨rfl, hn, hv⟩]
        exact dualS_good n A xs cap D ws dap w h g hf hn hv
      · rw [if_neg fun hh => hv hh.2.2]
        obtain ⟨j, hj, hb, hk⟩ := first_bad hv
        exact dualS_w n A xs cap D ws dap w h g hf hn j hj (by omega) hk
    · rw [if_neg fun hh => hn hh.2.1]
      exact dualS_len n A xs cap D ws dap w h hf hn

end


end Go.Proofs.YtfpoiiennlhphaaDoor.C
