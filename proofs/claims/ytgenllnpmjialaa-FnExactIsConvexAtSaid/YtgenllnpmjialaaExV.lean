/-
  The contract of spec.IsConvexAt.
-/
import Derived.Test.YtgenllnpmjialaaExU
import Derived.Test.YtgenllnpmjialaaAllM
namespace Go.Proofs.Ytgenllnpmjialaa.C
open Go.RowKit K M
set_option linter.unusedVariables false
set_option linter.unusedSimpArgs false
set_option linter.unusedSectionVars false


section

variable (n : Int) (F : Option Addr) (fs : List Int) (fap : Nat) (A : Option Addr) (xs : List Int) (cap : Nat) (D : Option Addr) (ys : List Int) (dap : Nat) (w : World) (hf0 : Hid (Ints w w.heap.size F fs)) (h : Hid (Ints w w.heap.size A xs)) (g : Hid (Ints w w.heap.size D ys)) (hx : xs.length ≤ 1048576) (hy : ys.length ≤ 1048576)
include hf0 h g hx hy
set_option maxRecDepth 100000 in
set_option maxHeartbeats 3200000 in
theorem convatS_no (hf : fitV xs ys = false) : Calls Try.prog 27 #[.agg #[.int .i64 n, .slice F fs.length fap], .slice A xs.length cap, .slice D ys.length dap] w (RetV w (.bool false)) := by
  have HW := Lib.hid (St.start w)
  have HF := Lib.hid (fun W h1 h2 => fitVS_any A xs cap D ys dap W (Lib.hid h1) (Lib.hid h2) hx hy)
  rw [hf] at HF
  have hno := conv_nofit (n := n) (fs := fs) hf
  have H1 := Lib.hid (fun W h1 h2 => extS_any n F fs fap A xs cap W (Lib.hid h1) (Lib.hid h2) hx)
  have H2 := Lib.hid (fun W h1 h2 => extS_any n F fs fap D ys dap W (Lib.hid h1) (Lib.hid h2) hy)
  have H3 := Lib.hid (fun W E c h1 h2 => extS_any n F fs fap E [] c W (Lib.hid h1) (Lib.hid h2) (Nat.zero_le _))
  obtain ⟨a, one, e1⟩ : ∃ a b, extAt n fs xs = (a, b) := ⟨_, _, rfl⟩
  obtain ⟨b, two, e2⟩ : ∃ a b, extAt n fs ys = (a, b) := ⟨_, _, rfl⟩
  obtain ⟨c, three, e3⟩ : ∃ a b, extAt n fs [] = (a, b) := ⟨_, _, rfl⟩
  rw [e1] at H1 hno
  rw [e2] at H2 hno
  rw [e3] at H3
  dsimp only at H1 H2 H3 hno
  have HN := Lib.hid hno
  obtain ⟨m, hm⟩ : ∃ m, xs.length = m := ⟨_, rfl⟩
  have HX := Lib.hid hm
  rw [hm] at hx H1 HF ⊢
  clear hf e1 e2 e3 hno hm
  go_enter Try.func27, Try.ntmps27
  go_wp2
  have HS := Lib.hid ((HW.out.alloc [.int .i64 n, .slice F fs.length fap] 26).empty)
  go_loopw [7, 8] (fun v i wr => i = .int .i64 0 ∧ v = .slice (some ⟨w.heap.size + 1, 0, none⟩) 0 0 ∧ St w wr [il (.slice (some ⟨w.heap.size + 1, 0, none⟩) 0 0) 0 [], bx w.heap.size 26 [.int .i64 n, .slice F fs.length fap]]) (fun _ _ _ => 0)
  case atStart => exact ⟨rfl, by simp, by simpa using HS.out⟩
  case round =>
    obtain ⟨rfl, rfl, hS⟩ := hrel
    obtain ⟨b0, -⟩ := hS.box (i := 1) rfl
    have d00 := b0 0 _ rfl
    have d01 := b0 1 _ rfl
    clear b0 HS
    have HS := Lib.hid hS
    clear hS
    by_cases h0 : 0 < m
    · have hli : (0 : Int) < (m : Int) := by omega
      go_wp2_with (go_at_call 51; refine (HF.out _ ((h.out.below HS.out.base).mono HS.out.size) ((g.out.below HS.out.base).mono HS.out.size)).mono ?_; rintro e w' ⟨rfl, rfl⟩)
      refine (H1.out _ ((hf0.out.below HS.out.base).mono HS.out.size) ((h.out.below HS.out.base).mono HS.out.size)).mono ?_
      rintro e w2 ⟨rfl, hb⟩
      have hS2 := HS.out.below hb
      obtain ⟨b0, -⟩ := hS2.box (i := 1) rfl
      have f00 := b0 0 _ rfl
      have f01 := b0 1 _ rfl
      have HS2 := Lib.hid hS2
      clear b0 hS2 hb d00 d01 HS
      go_wp2_with fail
      refine (H2.out _ ((hf0.out.below HS2.out.base).mono HS2.out.size) ((g.out.below HS2.out.base).mono HS2.out.size)).mono ?_
      rintro e w3 ⟨rfl, hb⟩
      have hS3 := HS2.out.below hb
      obtain ⟨b0, -⟩ := hS3.box (i := 1) rfl
      have d00 := b0 0 _ rfl
      have d01 := b0 1 _ rfl
      have HS3 := Lib.hid hS3
      clear b0 hS3 hb f00 f01 HS2
      go_wp2_with fail
      refine (H3.out _ _ _ ((hf0.out.below HS3.out.base).mono HS3.out.size) (HS3.out.ints (i := 0) rfl)).mono ?_
      rintro e w4 ⟨rfl, hb⟩
      have hS4 := HS3.out.below hb
      obtain ⟨b0, -⟩ := hS4.box (i := 1) rfl
      have f00 := b0 0 _ rfl
      have f01 := b0 1 _ rfl
      have HS4 := Lib.hid hS4
      clear b0 hS4 hb d00 d01 HS3
      cases one
      · go_wp2
        go_ret
        exact ⟨rfl, HS4.out.base⟩
      · cases two
        · go_wp2
          go_ret
          exact ⟨rfl, HS4.out.base⟩
        · exact (HN.out rfl rfl).elim
    · have hli : ¬ (0 : Int) < (m : Int) := by omega
      go_wp2_with (go_at_call 51; refine (HF.out _ ((h.out.below HS.out.base).mono HS.out.size) ((g.out.below HS.out.base).mono HS.out.size)).mono ?_; rintro e w' ⟨rfl, rfl⟩)
      refine (H1.out _ ((hf0.out.below HS.out.base).mono HS.out.size) ((h.out.below HS.out.base).mono HS.out.size)).mono ?_
      rintro e w2 ⟨rfl, hb⟩
      have hS2 := HS.out.below hb
      obtain ⟨b0, -⟩ := hS2.box (i := 1) rfl
      have f00 := b0 0 _ rfl
      have f01 := b0 1 _ rfl
      have HS2 := Lib.hid hS2
      clear b0 hS2 hb d00 d01 HS
      go_wp2_with fail
      refine (H2.out _ ((hf0.out.below HS2.out.base).mono HS2.out.size) ((g.out.below HS2.out.base).mono HS2.out.size)).mono ?_
      rintro e w3 ⟨rfl, hb⟩
      have hS3 := HS2.out.below hb
      obtain ⟨b0, -⟩ := hS3.box (i := 1) rfl
      have d00 := b0 0 _ rfl
      have d01 := b0 1 _ rfl
      have HS3 := Lib.hid hS3
      clear b0 hS3 hb f00 f01 HS2
      go_wp2_with fail
      refine (H3.out _ _ _ ((hf0.out.below HS3.out.base).mono HS3.out.size) (HS3.out.ints (i := 0) rfl)).mono ?_
      rintro e w4 ⟨rfl, hb⟩
      have hS4 := HS3.out.below hb
      obtain ⟨b0, -⟩ := hS4.box (i := 1) rfl
      have f00 := b0 0 _ rfl
      have f01 := b0 1 _ rfl
      have HS4 := Lib.hid hS4
      clear b0 hS4 hb d00 d01 HS3
      cases one
      · go_wp2
        go_ret
        exact ⟨rfl, HS4.out.base⟩
      · cases two
        · go_wp2
          go_ret
          exact ⟨rfl, HS4.out.base⟩
        · exact (HN.out rfl rfl).elim

set_option maxRecDepth 100000 in
set_option maxHeartbeats 6400000 in
theorem convatS_yes (hf : fitV xs ys = true) : Calls Try.prog 27 #[.agg #[.int .i64 n, .slice F fs.length fap], .slice A xs.length cap, .slice D ys.length dap] w (RetV w (.bool (convAt n fs xs ys))) := by
  have HW := Lib.hid (St.start w)
  have HF := Lib.hid (fun W h1 h2 => fitVS_any A xs cap D ys dap W (Lib.hid h1) (Lib.hid h2) hx hy)
  rw [hf] at HF
  obtain ⟨hv1, -, hll⟩ := fitV_yes hf
  have h5 := (isVec_yes hv1).1
  have H1 := Lib.hid (fun W h1 h2 => extS_any n F fs fap A xs cap W (Lib.hid h1) (Lib.hid h2) hx)
  have H2 := Lib.hid (fun W h1 h2 => extS_any n F fs fap D ys dap W (Lib.hid h1) (Lib.hid h2) hy)
  have H3 := Lib.hid (fun W E c h1 h2 => extS_any n F fs fap E (addV xs ys) c W (Lib.hid h1) (Lib.hid h2) (by rw [addV_len]; exact hx))
  have HBG := Lib.hid (fun j h1 h2 hb => conv_big (n := n) (fs := fs) (xs := xs) (ys := ys) (j := j) h1 h2 hb)
  have HVL := Lib.hid (fun hs => conv_val (n := n) (fs := fs) hf hs)
  have HSM := Lib.hid (fun hs => conv_same (n := n) (fs := fs) hf hs)
  have HFN := Lib.hid (fun hh => extAt_fn (n := n) (fs := fs) (ws := xs) hh)
  have B1 := extAt_bd n fs xs
  have B2 := extAt_bd n fs ys
  have B3 := extAt_bd n fs (addV xs ys)
  obtain ⟨a, one, e1⟩ : ∃ a b, extAt n fs xs = (a, b) := ⟨_, _, rfl⟩
  obtain ⟨b, two, e2⟩ : ∃ a b, extAt n fs ys = (a, b) := ⟨_, _, rfl⟩
  obtain ⟨c, three, e3⟩ : ∃ a b, extAt n fs (addV xs ys) = (a, b) := ⟨_, _, rfl⟩
  rw [e1] at H1 HVL HSM HFN B1
  rw [e2] at H2 HVL HSM B2
  rw [e3] at H3 HVL HSM B3
  dsimp only at H1 H2 H3 HVL HSM HFN B1 B2 B3
  rw [addV_len] at H3
  obtain ⟨f, hfn⟩ : ∃ f : Nat → Int, f = fun k => xs.getD k 0 + ys.getD k 0 := ⟨_, rfl⟩
  have HO := Lib.hid (fun k => show f k = xs.getD k 0 + ys.getD k 0 by rw [hfn])
  have haf : addV xs ys = tab xs.length f := by rw [hfn]; rfl
  rw [haf] at H3
  generalize convAt n fs xs ys = q at *
  obtain ⟨m, hm⟩ : ∃ m, xs.length = m := ⟨_, rfl⟩
  rw [← hll] at HF H2 hy ⊢
  rw [hm] at HF hx hy h5 H1 H2 H3 HBG HVL HSM ⊢
  have HX := Lib.hid hm
  have HY := Lib.hid (hll.symm.trans hm)
  rw [hll.symm.trans hm] at HBG
  clear hf hll hfn hm e1 e2 e3 haf hv1
  obtain ⟨i0, hi, hz0, hz1, hz2⟩ := info_parts info_int
  go_enter Try.func27, Try.ntmps27
  go_wp2
  go_loopw [7, 8] (fun v i wr => ∃ (j : Nat) (V : Option Addr) (c : Nat), i = .int .i64 j ∧ j ≤ m ∧ v = .slice V j c ∧ Hid (∀ k, k < j → (-100 ≤ xs.getD k 0 ∧ xs.getD k 0 ≤ 100) ∧ (-100 ≤ ys.getD k 0 ∧ ys.getD k 0 ≤ 100)) ∧ St w wr [il (.slice V j c) j (tab j f), bx w.heap.size 26 [.int .i64 n, .slice F fs.length fap]]) (fun _ i _ => m - (intOf i).toNat)
  case atStart => exact ⟨0, _, _, rfl, Nat.zero_le _, rfl, Lib.hid (fun k hk => absurd hk (by omega)), by simpa [tab] using (HW.out.alloc [.int .i64 n, .slice F fs.length fap] 26).empty⟩
  case round =>
    obtain ⟨j, V, cc, rfl, hj, rfl, HSMALL, hS⟩ := hrel
    obtain ⟨b0, -⟩ := hS.box (i := 1) rfl
    have d00 := b0 0 _ rfl
    have d01 := b0 1 _ rfl
    have HR := Lib.hid hS
    by_cases hlt : j < m
    · have htab := Lib.hid (tab_succ j f)
      have hji : (j : Int) < (m : Int) := by omega
      have hj0 : (0 : Int) ≤ (j : Int) := by omega
      obtain ⟨r1, o1, rfl, hbl, hc⟩ := h.out.at_ (k := j) (by rw [HX.out]; omega)
      obtain ⟨r2, o2, rfl, hrl, hd⟩ := g.out.at_ (k := j) (by rw [HY.out]; omega)
      have hval := HO.out j
      have HB := Lib.hid (fun hb => HBG.out j (by omega) (by omega) hb)
      have HSN := Lib.hid (show (∀ k, k < j → (-100 ≤ xs.getD k 0 ∧ xs.getD k 0 ≤ 100) ∧ (-100 ≤ ys.getD k 0 ∧ ys.getD k 0 ≤ 100)) → ((-100 ≤ xs.getD j 0 ∧ xs.getD j 0 ≤ 100) ∧ (-100 ≤ ys.getD j 0 ∧ ys.getD j 0 ≤ 100)) → ∀ k, k < j + 1 → (-100 ≤ xs.getD k 0 ∧ xs.getD k 0 ≤ 100) ∧ (-100 ≤ ys.getD k 0 ∧ ys.getD k 0 ≤ 100) from fun h1 h2 k hk => by
        rcases Nat.lt_or_ge k j with h3 | h3
        · exact h1 k h3
        · obtain rfl : k = j := by omega
          exact h2)
      have HSN2 := Lib.hid (fun h2 => HSN.out HSMALL.out h2)
      clear HSN
      generalize xs.getD j 0 = x at hc hval HB HSN2
      generalize ys.getD j 0 = y at hd hval HB HSN2
      rw [hval] at htab
      have HCQ := Lib.hid hc
      have HCS := Lib.hid hd
      clear hS hval hc hd b0
      by_cases hx1 : -100 ≤ x ∧ x ≤ 100
      · by_cases hy1 : -100 ≤ y ∧ y ≤ 100
        · have hxy : IntKind.i64.wrap (x + y) = x + y := IntWalk.i64_in _ (by omega)
          go_wp2_with (first
            | (go_at_call 51; refine (HF.out _ ((h.out.below HR.out.base).mono HR.out.size) ((g.out.below HR.out.base).mono HR.out.size)).mono ?_; rintro e w' ⟨rfl, rfl⟩; have hcq := (HR.out.base.cell (p := ⟨r1, o1 + j, none⟩) hbl).trans HCQ.out; have hcs := (HR.out.base.cell (p := ⟨r2, o2 + j, none⟩) hrl).trans HCS.out)
            | (go_at_call_of 52 (Value.int .i64 x); refine (in_yes x (-100) 100 _ hx1.1 hx1.2).mono ?_; rintro e w' ⟨rfl, rfl⟩)
            | (go_at_call_of 52 (Value.int .i64 y); refine (in_yes y (-100) 100 _ hy1.1 hy1.2).mono ?_; rintro e w' ⟨rfl, rfl⟩))
          go_region_held3 (fun w' => w'.cell? ⟨r1, o1 + j, none⟩ = some (.int .i64 x) ∧ w'.cell? ⟨r2, o2 + j, none⟩ = some (.int .i64 y)) (first | (refine ⟨?_, ?_⟩ <;> assumption) | assumption | go_keep) ((refine step_app1 (by rfl) (.tmp 41) (.tmp 51) 24 (by rfl) (x + y) Try.underlying24 hi hz0 hz1 hz2 (by first | exact (HR.out.alloc _ _).drop 0 | exact ((HR.out.alloc _ _).drop 0).drew) (i := 0) (by rfl) (by rfl) (by rfl) (by simp [hxy]) (by omega) ?_; intro V' c' w3 hS3; have hcq' := (hS3.base.cell (p := ⟨r1, o1 + j, none⟩) hbl).trans HCQ.out; have hcs' := (hS3.base.cell (p := ⟨r2, o2 + j, none⟩) hrl).trans HCS.out; have HR3 := Lib.hid hS3; clear hS3))
          go_wp2
          go_roundw
          case rel => exact ⟨j + 1, V', c', by go_num, by omega, rfl, Lib.hid (HSN2.out ⟨hx1, hy1⟩), by rw [htab.out]; exact HR3.out⟩
          case measure => simp [intOf]; omega
        · have hy2 : y < -100 ∨ 100 < y := by omega
          have hq := HB.out fun hh => hy1 hh.2
          have HQ := Lib.hid hq
          clear hq
          go_wp2_with (first
            | (go_at_call 51; refine (HF.out _ ((h.out.below HR.out.base).mono HR.out.size) ((g.out.below HR.out.base).mono HR.out.size)).mono ?_; rintro e w' ⟨rfl, rfl⟩; have hcq := (HR.out.base.cell (p := ⟨r1, o1 + j, none⟩) hbl).trans HCQ.out; have hcs := (HR.out.base.cell (p := ⟨r2, o2 + j, none⟩) hrl).trans HCS.out)
            | (go_at_call_of 52 (Value.int .i64 x); refine (in_yes x (-100) 100 _ hx1.1 hx1.2).mono ?_; rintro e w' ⟨rfl, rfl⟩)
            | (go_at_call_of 52 (Value.int .i64 y); refine (in_no y (-100) 100 _ hy2).mono ?_; rintro e w' ⟨rfl, rfl⟩))
          go_ret
          exact ⟨by rw [HQ.out]; rfl, HR.out.base⟩
      · have hx2 : x < -100 ∨ 100 < x := by omega
        have hq := HB.out fun hh => hx1 hh.1
        have HQ := Lib.hid hq
        clear hq
        go_wp2_with (first
          | (go_at_call 51; refine (HF.out _ ((h.out.below HR.out.base).mono HR.out.size) ((g.out.below HR.out.base).mono HR.out.size)).mono ?_; rintro e w' ⟨rfl, rfl⟩; have hcq := (HR.out.base.cell (p := ⟨r1, o1 + j, none⟩) hbl).trans HCQ.out; have hcs := (HR.out.base.cell (p := ⟨r2, o2 + j, none⟩) hrl).trans HCS.out)
          | (go_at_call_of 52 (Value.int .i64 x); refine (in_no x (-100) 100 _ hx2).mono ?_; rintro e w' ⟨rfl, rfl⟩))
        go_ret
        exact ⟨by rw [HQ.out]; rfl, HR.out.base⟩
    · obtain rfl : j = m := by omega
      have hjn : ¬ (j : Int) < (j : Int) := by omega
      have hq := HVL.out HSMALL.out
      obtain ⟨rfl, rfl⟩ := HSM.out HSMALL.out
      clear HVL HSM HBG hS b0
      have HS := Lib.hid HR.out
      cases three
      · have HQ := Lib.hid (show q = false by rw [hq]; rfl)
        clear hq HR
        go_wp2_with (go_at_call 51; refine (HF.out _ ((h.out.below HS.out.base).mono HS.out.size) ((g.out.below HS.out.base).mono HS.out.size)).mono ?_; rintro e w' ⟨rfl, rfl⟩)
        refine (H1.out _ ((hf0.out.below HS.out.base).mono HS.out.size) ((h.out.below HS.out.base).mono HS.out.size)).mono ?_
        rintro e w2 ⟨rfl, hb⟩
        have hS2 := HS.out.below hb
        obtain ⟨b0, -⟩ := hS2.box (i := 1) rfl
        have f00 := b0 0 _ rfl
        have f01 := b0 1 _ rfl
        have HS2 := Lib.hid hS2
        clear b0 hS2 hb d00 d01 HS
        go_wp2_with fail
        refine (H2.out _ ((hf0.out.below HS2.out.base).mono HS2.out.size) ((g.out.below HS2.out.base).mono HS2.out.size)).mono ?_
        rintro e w3 ⟨rfl, hb⟩
        have hS3 := HS2.out.below hb
        obtain ⟨b0, -⟩ := hS3.box (i := 1) rfl
        have d00 := b0 0 _ rfl
        have d01 := b0 1 _ rfl
        have HS3 := Lib.hid hS3
        clear b0 hS3 hb f00 f01 HS2
        go_wp2_with fail
        refine (H3.out _ _ _ ((hf0.out.below HS3.out.base).mono HS3.out.size) (HS3.out.ints (i := 0) rfl)).mono ?_
        rintro e w4 ⟨rfl, hb⟩
        have hS4 := HS3.out.below hb
        obtain ⟨b0, -⟩ := hS4.box (i := 1) rfl
        have f00 := b0 0 _ rfl
        have f01 := b0 1 _ rfl
        have HS4 := Lib.hid hS4
        clear b0 hS4 hb d00 d01 HS3
        go_wp2
        go_ret
        exact ⟨by rw [HQ.out]; rfl, HS4.out.base⟩
      · have hfl := isFn_len (HFN.out rfl)
        obtain ⟨fb, fo, rfl, hfb, hfc⟩ := hf0.out.at_ (k := 0) (by omega)
        have hf1 : (0 : Int) < (fs.length : Int) := by omega
        have hfv := (isFn_yes (HFN.out rfl)).2.2.2 0 (by omega)
        generalize fs.getD 0 0 = f0 at hfc hfv hq
        have HFC := Lib.hid hfc
        have hw1 : IntKind.i64.wrap (c + f0) = c + f0 := IntWalk.i64_in _ (by omega)
        have hw2 : IntKind.i64.wrap (a + b) = a + b := IntWalk.i64_in _ (by omega)
        have HQ := Lib.hid hq
        clear hq HR hfc
        go_wp2_with (go_at_call 51; refine (HF.out _ ((h.out.below HS.out.base).mono HS.out.size) ((g.out.below HS.out.base).mono HS.out.size)).mono ?_; rintro e w' ⟨rfl, rfl⟩)
        refine (H1.out _ ((hf0.out.below HS.out.base).mono HS.out.size) ((h.out.below HS.out.base).mono HS.out.size)).mono ?_
        rintro e w2 ⟨rfl, hb⟩
        have hS2 := HS.out.below hb
        obtain ⟨b0, -⟩ := hS2.box (i := 1) rfl
        have f00 := b0 0 _ rfl
        have f01 := b0 1 _ rfl
        have HS2 := Lib.hid hS2
        clear b0 hS2 hb d00 d01 HS
        go_wp2_with fail
        refine (H2.out _ ((hf0.out.below HS2.out.base).mono HS2.out.size) ((g.out.below HS2.out.base).mono HS2.out.size)).mono ?_
        rintro e w3 ⟨rfl, hb⟩
        have hS3 := HS2.out.below hb
        obtain ⟨b0, -⟩ := hS3.box (i := 1) rfl
        have d00 := b0 0 _ rfl
        have d01 := b0 1 _ rfl
        have HS3 := Lib.hid hS3
        clear b0 hS3 hb f00 f01 HS2
        go_wp2_with fail
        refine (H3.out _ _ _ ((hf0.out.below HS3.out.base).mono HS3.out.size) (HS3.out.ints (i := 0) rfl)).mono ?_
        rintro e w4 ⟨rfl, hb⟩
        have hS4 := HS3.out.below hb
        obtain ⟨b0, -⟩ := hS4.box (i := 1) rfl
        have f00 := b0 0 _ rfl
        have f01 := b0 1 _ rfl
        have HS4 := Lib.hid hS4
        clear b0 hS4 hb d00 d01 HS3
        have hfc := (HS4.out.base.cell (p := ⟨fb, fo + 0, none⟩) hfb).trans HFC.out
        rw [Nat.add_zero] at hfc
        by_cases hle : c + f0 ≤ a + b
        · go_wp2
          go_ret
          exact ⟨by rw [HQ.out, decide_eq_true hle]; rfl, HS4.out.base⟩
        · go_wp2
          go_ret
          exact ⟨by rw [HQ.out]; rfl, HS4.out.base⟩

theorem convatS_any : Calls Try.prog 27 #[.agg #[.int .i64 n, .slice F fs.length fap], .slice A xs.length cap, .slice D ys.length dap] w (RetV w (.bool (convAt n fs xs ys))) := by
  cases hf : fitV xs ys
  · rw [conv_nofit2 hf]
    exact convatS_no n F fs fap A xs cap D ys dap w hf0 h g hx hy hf
  · exact convatS_yes n F fs fap A xs cap D ys dap w hf0 h g hx hy hf

end


end Go.Proofs.Ytgenllnpmjialaa.C
