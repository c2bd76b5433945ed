/-
  The contracts of spec.SplitOf and spec.ConvolveFunctions.
-/
import Derived.Test.YtfpoiiennlhphaaDoorCvS
namespace Go.Proofs.YtfpoiiennlhphaaDoor.C
open Go.RowKit K M
set_option linter.unusedVariables false
set_option linter.unusedSimpArgs false


section

variable (n : Int) (A : Option Addr) (xs : List Int) (cap : Nat) (m : Int) (D : Option Addr) (ys : List Int) (dap : Nat) (s : Int) (w : World) (h : Hid (Ints w w.heap.size A xs)) (g : Hid (Ints w w.heap.size D ys))
include h g
set_option maxRecDepth 100000 in
set_option maxHeartbeats 3200000 in
theorem splitOfS_any : Calls Tryd.prog 50 #[.agg #[.int .i64 n, .slice A xs.length cap], .agg #[.int .i64 m, .slice D ys.length dap], .int .i64 s] w (RetV w (.tuple #[.int .i64 (splitOf n xs m ys s).1, .bool (splitOf n xs m ys s).2])) := by
  have HW := Lib.hid (St.start w)
  have HF := Lib.hid (fun W h1 h2 => fitS_any n A xs cap m D ys dap W (Lib.hid h1) (Lib.hid h2))
  have HI := Lib.hid (fun W hW => inS_any n A xs cap s W (Lib.hid hW))
  unfold splitOf
  cases hf : fits n xs m ys
  · rw [if_neg (by simp)]
    rw [hf] at HF
    clear hf
    go_enter Tryd.func50, Tryd.ntmps50
    go_wp2_with (go_at_call 98; refine St.use (w0 := w) (by exact (HW.out.alloc _ _).alloc _ _) ?_; intro hS; (try simp only [World.size_alloc] at hS); refine (HF.out _ ((h.out.below hS.base).mono hS.size) ((g.out.below hS.base).mono hS.size)).mono ?_; rintro e w2 ⟨rfl, hb⟩; have HS2 := Lib.hid (hS.below hb); clear hS hb)
    go_ret2
    exact ⟨rfl, HS2.out.base⟩
  · rw [hf] at HF
    obtain ⟨hx, hy, rfl⟩ := fits_yes hf
    rw [hx, Bool.true_and] at HI
    cases hs : isSet n s
    · rw [if_neg (by simp)]
      rw [hs] at HI
      clear hf hs hx hy
      go_enter Tryd.func50, Tryd.ntmps50
      go_wp2_with (first
        | (go_at_call 98; refine St.use (w0 := w) (by exact (HW.out.alloc _ _).alloc _ _) ?_; intro hS; (try simp only [World.size_alloc] at hS); refine (HF.out _ ((h.out.below hS.base).mono hS.size) ((g.out.below hS.base).mono hS.size)).mono ?_; rintro e w2 ⟨rfl, hb⟩; have hS2 := hS.below hb; obtain ⟨b0, -⟩ := hS2.box (i := 1) rfl; have b00 := b0 0 _ rfl; have b01 := b0 1 _ rfl; have HS2 := Lib.hid hS2; clear hS hb hS2 b0)
        | (go_at_call 65; refine St.use (w0 := w) (by exact HS2.out) ?_; intro hS; refine (HI.out _ ((h.out.below hS.base).mono hS.size)).mono ?_; rintro e w3 ⟨rfl, hb⟩; have HS3 := Lib.hid (hS.below hb); clear hS hb))
      go_ret2
      exact ⟨rfl, HS3.out.base⟩
    · rw [if_pos ⟨rfl, rfl⟩]
      rw [hs] at HI
      obtain ⟨s0, s1⟩ := isSet_yes hs
      obtain ⟨S, rfl⟩ := Int.eq_ofNat_of_zero_le s0
      rw [Int.toNat_natCast]
      obtain ⟨-, -, l1, v1⟩ := isFn_yes hx
      obtain ⟨-, -, l2, v2⟩ := isFn_yes hy
      have h32 := (isFn_len hx).2
      have hll : ys.length = xs.length := by rw [l1, l2]
      have HC := Lib.hid (fun W h1 h2 => splitS_any n A xs cap n D ys dap S W (Lib.hid h1) (Lib.hid h2) hll h32 (by omega) v1 (by rw [← hll]; exact v2))
      generalize split xs ys S = c at HC ⊢
      clear hf hs hx hy s1 l1 l2 v1 v2 hll h32
      go_enter Tryd.func50, Tryd.ntmps50
      go_wp2_with (first
        | (go_at_call 98; refine St.use (w0 := w) (by exact (HW.out.alloc _ _).alloc _ _) ?_; intro hS; (try simp only [World.size_alloc] at hS); refine (HF.out _ ((h.out.below hS.base).mono hS.size) ((g.out.below hS.base).mono hS.size)).mono ?_; rintro e w2 ⟨rfl, hb⟩; have hS2 := hS.below hb; obtain ⟨b0, -⟩ := hS2.box (i := 1) rfl; have b00 := b0 0 _ rfl; have b01 := b0 1 _ rfl; have HS2 := Lib.hid hS2; clear hS hb hS2 b0)
        | (go_at_call 65; refine St.use (w0 := w) (by exact HS2.out) ?_; intro hS; refine (HI.out _ ((h.out.below hS.base).mono hS.size)).mono ?_; rintro e w3 ⟨rfl, hb⟩; have hS3 := hS.below hb; obtain ⟨b0, -⟩ := hS3.box (i := 1) rfl; have d00 := b0 0 _ rfl; have d01 := b0 1 _ rfl; obtain ⟨b0, -⟩ := hS3.box (i := 0) rfl; have c00 := b0 0 _ rfl; have c01 := b0 1 _ rfl; have HS3 := Lib.hid hS3; clear hS hb hS3 b0 b00 b01)
        | (go_at_call 99; refine St.use (w0 := w) (by exact HS3.out) ?_; intro hS; refine (HC.out _ ((h.out.below hS.base).mono hS.size) ((g.out.below hS.base).mono hS.size)).mono ?_; rintro e w4 ⟨rfl, hb⟩; have HS4 := Lib.hid (hS.below hb); clear hS hb))
      go_ret2
      exact ⟨rfl, HS4.out.base⟩

end



section

variable (n : Int) (A : Option Addr) (xs : List Int) (cap : Nat) (m : Int) (D : Option Addr) (ys : List Int) (dap : Nat) (w : World) (h : Hid (Ints w w.heap.size A xs)) (g : Hid (Ints w w.heap.size D ys))
include h g
set_option maxRecDepth 100000 in
set_option maxHeartbeats 3200000 in
theorem convS_no (hf : fits n xs m ys = false) : Calls Tryd.prog 36 #[.agg #[.int .i64 n, .slice A xs.length cap], .agg #[.int .i64 m, .slice D ys.length dap]] w (RetFB w 0 [] false) := by
  have HW := Lib.hid (St.start w)
  have HF := Lib.hid (fun W h1 h2 => fitS_any n A xs cap m D ys dap W (Lib.hid h1) (Lib.hid h2))
  rw [hf] at HF
  clear hf
  go_enter Tryd.func36, Tryd.ntmps36
  go_wp2_with (go_at_call 98; refine St.use (w0 := w) (by exact ((HW.out.alloc _ _).alloc _ _).alloc _ _) ?_; intro hS; (try simp only [World.size_alloc] at hS); refine (HF.out _ ((h.out.below hS.base).mono hS.size) ((g.out.below hS.base).mono hS.size)).mono ?_; rintro e w2 ⟨rfl, hb⟩; have hS2 := hS.below hb; obtain ⟨u0, uf⟩ := hS2.box (i := 0) rfl; have u00 := u0 0 _ rfl; have u01 := u0 1 _ rfl; have uf0 := uf 0; have uf1 := uf 1; have ul := (hS2.lt (i := 0) rfl).2; have HS2 := Lib.hid hS2; clear hS hb hS2 u0 uf)
  have hZ := (HS2.out.store (i := 0) rfl 0 (.int .i64 0)).store (i := 0) rfl 1 (.slice none 0 0)
  exact bodyPost_ret (v := .tuple #[.agg #[.int .i64 0, .slice none 0 0], .bool false]) (by simp [results, Tryd.results36, go_sem, u00, u01, uf0, uf1, ul]) rfl ⟨none, 0, rfl, Own.nil _ _, by first | exact hZ.base | exact HS2.out.base⟩

set_option maxRecDepth 100000 in
set_option maxHeartbeats 8000000 in
theorem convS_yes (hf : fits n xs m ys = true) : Calls Tryd.prog 36 #[.agg #[.int .i64 n, .slice A xs.length cap], .agg #[.int .i64 m, .slice D ys.length dap]] w (RetFB w (made n (tab xs.length (convV xs ys))).1 (made n (tab xs.length (convV xs ys))).2.1 (made n (tab xs.length (convV xs ys))).2.2) := by
  have HW := Lib.hid (St.start w)
  have HF := Lib.hid (fun W h1 h2 => fitS_any n A xs cap m D ys dap W (Lib.hid h1) (Lib.hid h2))
  rw [hf] at HF
  obtain ⟨hx, hy, rfl⟩ := fits_yes hf
  obtain ⟨-, -, l1, v1⟩ := isFn_yes hx
  obtain ⟨-, -, l2, v2⟩ := isFn_yes hy
  have h32 := (isFn_len hx).2
  have hll : ys.length = xs.length := by rw [l1, l2]
  have HC := Lib.hid (fun W (S : Nat) h1 h2 (hS : S < xs.length) => splitS_any n A xs cap n D ys dap S W (Lib.hid h1) (Lib.hid h2) hll h32 hS v1 (by rw [← hll]; exact v2))
  have HV := Lib.hid v1
  have HU := Lib.hid v2
  have HI := Lib.hid (fun s => (split_in xs ys s).2)
  have HO := Lib.hid (fun s => show convV xs ys s = xs.getD (split xs ys s) 0 + ys.getD (s - split xs ys s) 0 from rfl)
  generalize convV xs ys = f at HO ⊢
  obtain ⟨p, hp⟩ : ∃ p, xs.length = p := ⟨_, rfl⟩
  rw [hll] at HF HC HU ⊢
  rw [hp] at HF HC HU HV hll h32 ⊢
  have HX := Lib.hid hp
  have HY := Lib.hid hll
  obtain ⟨rn, rx, rb, hr⟩ : ∃ rn rx rb, made n (tab p f) = (rn, rx, rb) := ⟨_, _, _, rfl⟩
  rw [hr]
  have HRR := Lib.hid hr
  clear hf hx hy l1 l2 v1 v2 hll hp hr
  obtain ⟨i0, hi, hz0, hz1, hz2⟩ := info_parts info_int
  go_enter Tryd.func36, Tryd.ntmps36
  go_wp2_with (go_at_call 98; refine St.use (w0 := w) (by exact ((HW.out.alloc _ _).alloc _ _).alloc _ _) ?_; intro hS; (try simp only [World.size_alloc] at hS); refine (HF.out _ ((h.out.below hS.base).mono hS.size) ((g.out.below hS.base).mono hS.size)).mono ?_; rintro e w2 ⟨rfl, hb⟩; have HS := Lib.hid (hS.below hb); clear hS hb)
  go_loopw [6, 7] (fun v i wr => ∃ (j : Nat) (V : Option Addr) (c : Nat), i = .int .i64 j ∧ j ≤ p ∧ v = .slice V j c ∧ St w wr [il (.slice V j c) j (tab j f), bx (w.heap.size + 1 + 1) 26 [.int .i64 0, .slice none 0 0], bx (w.heap.size + 1) 26 [.int .i64 n, .slice D p dap], bx w.heap.size 26 [.int .i64 n, .slice A p cap]]) (fun _ i _ => p - (intOf i).toNat)
  case atStart => exact ⟨0, _, _, rfl, Nat.zero_le _, rfl, HS.out.empty⟩
  case round =>
    obtain ⟨j, V, c, rfl, hj, rfl, hS⟩ := hrel
    obtain ⟨b0, -⟩ := hS.box (i := 3) rfl
    have b30 := b0 0 _ rfl
    have b31 := b0 1 _ rfl
    obtain ⟨b0, -⟩ := hS.box (i := 2) rfl
    have b20 := b0 0 _ rfl
    have b21 := b0 1 _ rfl
    have HR := Lib.hid hS
    clear b0
    by_cases hlt : j < p
    · have htab := Lib.hid (tab_succ j f)
      have hji : (j : Int) < (p : Int) := by omega
      have hj0 : (0 : Int) ≤ (j : Int) := by omega
      have hval := HO.out j
      have hle := HI.out j
      have hcall := fun W h1 h2 => HC.out W j h1 h2 hlt
      generalize split xs ys j = x at hval hle hcall
      obtain ⟨z, hz⟩ : ∃ z, j - x = z := ⟨_, rfl⟩
      rw [hz] at hval
      obtain ⟨v1, v2⟩ := HV.out x (by omega)
      obtain ⟨u1, u2⟩ := HU.out z (by omega)
      obtain ⟨b, off, rfl, hbl, hc⟩ := h.out.at_ (k := x) (by rw [HX.out]; omega)
      obtain ⟨r, ro, rfl, hrl, hd⟩ := g.out.at_ (k := z) (by rw [HY.out]; omega)
      generalize xs.getD x 0 = xv at hc hval v1 v2
      generalize ys.getD z 0 = yv at hd hval u1 u2
      have hw1 : IntKind.i64.wrap (xv + yv) = xv + yv := IntWalk.i64_in _ (by omega)
      have hw2 : IntKind.i64.wrap ((j : Int) - (x : Int)) = (z : Int) := by rw [IntWalk.i64_in _ (by omega)]; omega
      rw [hval] at htab
      have HCQ := Lib.hid hc
      have HCS := Lib.hid hd
      have HCC := Lib.hid hcall
      have g1 : (0 : Int) ≤ (x : Int) := by omega
      have g2 : (x : Int) < (p : Int) := by omega
      have g3 : (0 : Int) ≤ (z : Int) := by omega
      have g4 : (z : Int) < (p : Int) := by omega
      have g5 : (x : Int) ≤ (j : Int) := by omega
      clear hS hc hd hval hcall hz
      go_wp2_with (go_at_call 99; refine St.use (w0 := w) (by exact HR.out) ?_; intro hS; refine (HCC.out _ ((h.out.below hS.base).mono hS.size) ((g.out.below hS.base).mono hS.size)).mono ?_; rintro e wq ⟨rfl, hb⟩; have hS1 := hS.below hb; obtain ⟨b0, -⟩ := hS1.box (i := 3) rfl; have c31 := b0 1 _ rfl; obtain ⟨b0, -⟩ := hS1.box (i := 2) rfl; have c21 := b0 1 _ rfl; have hcq := (hS1.base.cell (p := ⟨b, off + x, none⟩) hbl).trans HCQ.out; have hcs := (hS1.base.cell (p := ⟨r, ro + z, none⟩) hrl).trans HCS.out; have HR := Lib.hid hS1; clear hS hb hS1 b0 b30 b31 b20 b21)
      go_region_held3 (fun w' => w'.cell? ⟨w.heap.size, 1, none⟩ = some (.slice (some ⟨b, off, none⟩) p cap) ∧ w'.cell? ⟨w.heap.size + 1, 1, none⟩ = some (.slice (some ⟨r, ro, none⟩) p dap) ∧ w'.cell? ⟨b, off + x, none⟩ = some (.int .i64 xv) ∧ w'.cell? ⟨r, ro + z, none⟩ = some (.int .i64 yv)) (first | (refine ⟨?_, ?_, ?_, ?_⟩ <;> assumption) | assumption | go_keep) ((refine step_app1 (by rfl) (.tmp 28) (.tmp 42) 24 (by rfl) (xv + yv) Tryd.underlying24 hi hz0 hz1 hz2 (by first | exact (HR.out.alloc _ _).drop 0 | exact ((HR.out.alloc _ _).drop 0).drew) (i := 0) (by rfl) (by rfl) (by rfl) (by simp) (by omega) ?_; intro V' c' w3 hS3; obtain ⟨b0, -⟩ := hS3.box (i := 3) rfl; have d31 := b0 1 _ rfl; obtain ⟨b0, -⟩ := hS3.box (i := 2) rfl; have d21 := b0 1 _ rfl; have hcq' := (hS3.base.cell (p := ⟨b, off + x, none⟩) hbl).trans HCQ.out; have hcs' := (hS3.base.cell (p := ⟨r, ro + z, none⟩) hrl).trans HCS.out; have HR3 := Lib.hid hS3; clear hS3 b0))
      go_wp2
      go_roundw
      case rel => exact ⟨j + 1, V', c', by go_num, by omega, rfl, by rw [htab.out]; exact HR3.out⟩
      case measure => simp [intOf]; omega
    · obtain rfl : j = p := by omega
      have hjn : ¬ (j : Int) < (j : Int) := by omega
      obtain ⟨B, d, hcall, hend⟩ := made_any n V (tab j f) j c wr (tab_length _ _) (hS.ints (i := 0) rfl)
      rw [HRR.out] at hcall hend
      have HCC := Lib.hid hcall
      have HE := Lib.hid hend
      clear hcall hend hS
      go_wp2_with (go_at_call 78; refine HCC.out.mono ?_; rintro e w2 ⟨rfl, hb⟩; have hS2 := HR.out.below hb; obtain ⟨p1, q1⟩ := hS2.box (i := 1) rfl; have p10 := p1 0 _ rfl; have p11 := p1 1 _ rfl; have q10 := q1 0; have q11 := q1 1; have pl := (hS2.lt (i := 1) rfl).2; clear p1 q1 hb; have HS2 := Lib.hid hS2; clear hS2 b30 b31 b20 b21)
      have hS3 := ((HS2.out.store (i := 1) rfl 0 (.int .i64 rn)).store (i := 1) rfl 1 (.slice B rx.length d)).alloc [.int .i64 rn, .slice B rx.length d] 26
      exact bodyPost_ret (v := .tuple #[.agg #[.int .i64 rn, .slice B rx.length d], .bool rb]) (by simp [results, Tryd.results36, go_sem, p10, p11, q10, q11, pl]) rfl ⟨B, d, rfl, ends_own hS3 (i := 1) rfl HE.out, hS3.base⟩

theorem convS_any : Calls Tryd.prog 36 #[.agg #[.int .i64 n, .slice A xs.length cap], .agg #[.int .i64 m, .slice D ys.length dap]] w (RetFB w (convFn n xs m ys).1 (convFn n xs m ys).2.1 (convFn n xs m ys).2.2) := by
  unfold convFn
  cases hf : fits n xs m ys
  · exact convS_no n A xs cap m D ys dap w h g hf
  · exact convS_yes n A xs cap m D ys dap w h g hf

end


end Go.Proofs.YtfpoiiennlhphaaDoor.C
