/-
  The contracts of spec.ContractFunction and spec.DualFunction.
-/
import Derived.Test.YtfpoiiennlhphaaDoorReS
namespace Go.Proofs.YtfpoiiennlhphaaDoor.C
open Go.RowKit K M
set_option linter.unusedVariables false
set_option linter.unusedSimpArgs false

set_option maxRecDepth 100000 in
set_option maxHeartbeats 1600000 in
theorem contS_no (n : Int) (A : Option Addr) (xs : List Int) (cap : Nat) (s : Int) (w : World) (h : Hid (Ints w w.heap.size A xs)) (hno : (isFn n xs && isSet n s) = false) :
    Calls Tryd.prog 21 #[.agg #[.int .i64 n, .slice A xs.length cap], .int .i64 s] w (RetFB w 0 [] false) := by
  have HW := Lib.hid (St.start w)
  have HI := Lib.hid (fun W hW => inS_any n A xs cap s W (Lib.hid hW))
  rw [hno] at HI
  clear hno
  go_enter Tryd.func21, Tryd.ntmps21
  go_wp2_with (go_at_call 65; refine St.use (w0 := w) (by exact (HW.out.alloc _ _).alloc _ _) ?_; intro hS; (try simp only [World.size_alloc] at hS); refine (HI.out _ ((h.out.below hS.base).mono hS.size)).mono ?_; rintro e w2 ⟨rfl, hb⟩; have hS2 := hS.below hb; obtain ⟨u0, uf⟩ := hS2.box (i := 0) rfl; have u00 := u0 0 _ rfl; have u01 := u0 1 _ rfl; have uf0 := uf 0; have uf1 := uf 1; have ul := (hS2.lt (i := 0) rfl).2; have HS2 := Lib.hid hS2; clear hS hb hS2 u0 uf)
  have hZ := (HS2.out.store (i := 0) rfl 0 (.int .i64 0)).store (i := 0) rfl 1 (.slice none 0 0)
  exact bodyPost_ret (v := .tuple #[.agg #[.int .i64 0, .slice none 0 0], .bool false]) (by simp [results, Tryd.results21, go_sem, u00, u01, uf0, uf1, ul]) rfl ⟨none, 0, rfl, Own.nil _ _, by first | exact hZ.base | exact HS2.out.base⟩

set_option maxRecDepth 100000 in
set_option maxHeartbeats 8000000 in
theorem contS_good (N : Nat) (A : Option Addr) (xs : List Int) (cap S : Nat) (w : World) (h : Hid (Ints w w.heap.size A xs)) (hf : isFn (N : Int) xs = true) (hS : S < 2 ^ N) (o : Nat) (ho : ones (compl N S) = o) :
    Calls Tryd.prog 21 #[.agg #[.int .i64 N, .slice A xs.length cap], .int .i64 S] w (RetFB w (made (o : Int) (tab (2 ^ o) (contV xs S (compl N S)))).1 (made (o : Int) (tab (2 ^ o) (contV xs S (compl N S)))).2.1 (made (o : Int) (tab (2 ^ o) (contV xs S (compl N S)))).2.2) := by
  have HW := Lib.hid (St.start w)
  obtain ⟨-, h5, hl, hvv⟩ := isFn_yes hf
  rw [Int.toNat_natCast] at hl
  have h5' : N ≤ 5 := by omega
  have h32 : S < 32 := Nat.lt_of_lt_of_le hS (Nat.le_trans (Nat.pow_le_pow_right (by decide) h5') (by decide))
  have hR := compl_lt (n := N) (s := S)
  have hR32 : compl N S < 32 := Nat.lt_of_lt_of_le hR (Nat.le_trans (Nat.pow_le_pow_right (by decide) h5') (by decide))
  have HI := Lib.hid (fun W hW => inS_any (N : Int) A xs cap S W (Lib.hid hW))
  rw [show (isFn (N : Int) xs && isSet (N : Int) (S : Int)) = true by rw [hf]; simp [isSet]; exact_mod_cast hS] at HI
  have HU := Lib.hid (fun W => full_any (N : Int) xs.length W (by omega) (by omega) (by rw [Int.toNat_natCast]; exact hl))
  have hRv : ((xs.length : Int) - 1 - (S : Int)) = ((compl N S : Nat) : Int) := by unfold compl; rw [← hl]; omega
  have HZ := Lib.hid (fun W => sizeS_any (compl N S) W (by omega))
  have HSP := Lib.hid (fun (W : World) (j : Nat) (hj : j < 4294967296) => spreadS_any (compl N S) j W hR32 hj)
  have hlies := lies_els (S := 0) h5' hR fun q _ => Nat.zero_testBit q
  have HQ0 := Lib.hid (fun j => show spread (els (compl N S)) j (ones (compl N S)) < xs.length from by rw [hl]; exact spread_lt _ hlies.below)
  have HQ := Lib.hid (fun j => show S ||| spread (els (compl N S)) j (ones (compl N S)) < xs.length from by rw [hl]; exact Nat.or_lt_two_pow hS (spread_lt _ hlies.below))
  have HV := Lib.hid (fun j => show contV xs S (compl N S) j = xs.getD (S ||| spread (els (compl N S)) j (ones (compl N S))) 0 - xs.getD S 0 from rfl)
  have HVV := Lib.hid hvv
  have hSl : S < xs.length := by rw [hl]; exact hS
  have ho5 := ones_le5 5 (Nat.le_refl _) (compl N S) (by omega)
  have hm32 := (isFn_len hf).2
  generalize contV xs S (compl N S) = f at HV ⊢
  rw [ho] at HZ HSP HQ HQ0 HV ho5
  generalize els (compl N S) = es at *
  generalize compl N S = R at *
  obtain ⟨m, hm⟩ : ∃ m, xs.length = m := ⟨_, rfl⟩
  have HX := Lib.hid hm
  rw [hm] at HI HQ HQ0 HU hm32 hRv hSl ⊢
  obtain ⟨p, hp⟩ : ∃ p, p = 2 ^ o := ⟨_, rfl⟩
  have hp32 : p ≤ 32 := by rw [hp]; exact Nat.le_trans (Nat.pow_le_pow_right (by decide) ho5) (by decide)
  have hsh := shl_at ho5 hp
  rw [← hp]
  obtain ⟨rn, rx, rb, hr⟩ : ∃ rn rx rb, made (o : Int) (tab p f) = (rn, rx, rb) := ⟨_, _, _, rfl⟩
  rw [hr]
  have HRR := Lib.hid hr
  clear hf hl hm hp hS h5 hvv ho hlies hr hR
  obtain ⟨i0, hi, hz0, hz1, hz2⟩ := info_parts info_int
  go_enter Tryd.func21, Tryd.ntmps21
  go_wp2_with (first
    | (go_at_call 65; refine St.use (w0 := w) (by exact (HW.out.alloc _ _).alloc _ _) ?_; intro hS; (try simp only [World.size_alloc] at hS); refine (HI.out _ ((h.out.below hS.base).mono hS.size)).mono ?_; rintro e w2 ⟨rfl, hb⟩; have hS2 := hS.below hb; obtain ⟨b0, -⟩ := hS2.box (i := 1) rfl; have b00 := b0 0 _ rfl; have HS := Lib.hid hS2; clear hS hb b0 hS2)
    | (go_at_call 77; refine (HU.out _).mono ?_; rintro e w' ⟨rfl, rfl⟩))
  (try rw [hRv])
  go_loopw [7, 8] (fun v i wr => ∃ (j : Nat) (V : Option Addr) (c : Nat), i = .int .i64 j ∧ j ≤ p ∧ v = .slice V j c ∧ St w wr [il (.slice V j c) j (tab j f), bx (w.heap.size + 1) 26 [.int .i64 0, .slice none 0 0], bx w.heap.size 26 [.int .i64 N, .slice A m cap]]) (fun _ i _ => p - (intOf i).toNat)
  case atStart => exact ⟨0, _, _, rfl, Nat.zero_le _, rfl, HS.out.empty⟩
  case round =>
    obtain ⟨j, V, c, rfl, hj, rfl, hS⟩ := hrel
    have HR := Lib.hid hS
    by_cases hlt : j < p
    · obtain ⟨b0, -⟩ := hS.box (i := 2) rfl
      have b01 := b0 1 _ rfl
      have htab := Lib.hid (tab_succ j f)
      have hji : (j : Int) < (p : Int) := by omega
      have hql := HQ.out j
      have hql0 := HQ0.out j
      have hval := HV.out j
      have hcall := fun W => HSP.out W j (by omega)
      have ho2 := or_two S (spread es j o) (by omega) (by omega)
      generalize spread es j o = q0 at hql hql0 hval hcall ho2
      generalize S ||| q0 = q at hql hval ho2
      obtain ⟨v1, v2⟩ := HVV.out q (by rw [HX.out]; exact hql)
      obtain ⟨u1, u2⟩ := HVV.out S (by rw [HX.out]; exact hSl)
      obtain ⟨b, off, rfl, hbl, hc⟩ := h.out.at_ (k := q) (by rw [HX.out]; exact hql)
      obtain ⟨b', off', e', -, hd⟩ := h.out.at_ (k := S) (by rw [HX.out]; exact hSl)
      obtain ⟨rfl, rfl⟩ : b = b' ∧ off = off' := by cases e'; exact ⟨rfl, rfl⟩
      have hcq := (hS.base.cell (p := ⟨b, off + q, none⟩) hbl).trans hc
      have hcs := (hS.base.cell (p := ⟨b, off + S, none⟩) hbl).trans hd
      generalize xs.getD q 0 = x at hc hcq hval v1 v2
      generalize xs.getD S 0 = y at hd hcs hval u1 u2
      have hw : IntKind.i64.wrap (x - y) = x - y := IntWalk.i64_in _ (by omega)
      rw [hval] at htab
      have HCQ := Lib.hid hc
      have HCS := Lib.hid hd
      have HC := Lib.hid hcall
      have hq0 : (0 : Int) ≤ (q : Int) := by omega
      have hqm : (q : Int) < (m : Int) := by omega
      have hS0 : (0 : Int) ≤ (S : Int) := by omega
      have hSm : (S : Int) < (m : Int) := by omega
      clear hS b0 hc hd hval hcall e'
      go_wp2_with (go_at_call 73; refine (HZ.out _).mono ?_; rintro e w' ⟨rfl, rfl⟩)
      go_region_held3 (fun w' => w'.cell? ⟨w.heap.size, 1, none⟩ = some (.slice (some ⟨b, off, none⟩) m cap) ∧ w'.cell? ⟨b, off + q, none⟩ = some (.int .i64 x) ∧ w'.cell? ⟨b, off + S, none⟩ = some (.int .i64 y)) (first | (refine ⟨?_, ?_, ?_⟩ <;> assumption) | assumption | go_keep) (first
        | (go_at_call 74; refine St.use (w0 := w) (by first | exact HR.out | exact HR.out.drew | exact HR.out.drewN _) ?_; intro hS; refine (HC.out _).mono ?_; rintro e wq ⟨rfl, hb⟩; have hS1 := hS.below hb; obtain ⟨b0, -⟩ := hS1.box (i := 2) rfl; have b01' := b0 1 _ rfl; have hcq' := (hS1.base.cell (p := ⟨b, off + q, none⟩) hbl).trans HCQ.out; have hcs' := (hS1.base.cell (p := ⟨b, off + S, none⟩) hbl).trans HCS.out; have HR := Lib.hid hS1; clear hS hb hS1 b0)
        | (refine step_app1 (by rfl) (.tmp 29) (.tmp 45) 24 (by rfl) (x - y) Tryd.underlying24 hi hz0 hz1 hz2 (by first | exact (HR.out.alloc _ _).drop 0 | exact ((HR.out.alloc _ _).drop 0).drew) (i := 0) (by rfl) (by rfl) (by rfl) (by simp) (by omega) ?_; intro V' c' w3 hS3; obtain ⟨b0, -⟩ := hS3.box (i := 2) rfl; have b01' := b0 1 _ rfl; have hcq' := (hS3.base.cell (p := ⟨b, off + q, none⟩) hbl).trans HCQ.out; have hcs' := (hS3.base.cell (p := ⟨b, off + S, none⟩) hbl).trans HCS.out; have HR3 := Lib.hid hS3; clear hS3 b0))
      go_wp2
      go_roundw
      case rel => exact ⟨j + 1, V', c', by go_num, by omega, rfl, by rw [htab.out]; exact HR3.out⟩
      case measure => simp [intOf]; omega
    · obtain rfl : j = p := by omega
      have hjn : ¬ (j : Int) < (j : Int) := by omega
      obtain ⟨B, d, hcall, hend⟩ := made_any (o : Int) V (tab j f) j c wr (tab_length _ _) (hS.ints (i := 0) rfl)
      rw [HRR.out] at hcall hend
      have HC := Lib.hid hcall
      have HE := Lib.hid hend
      clear hcall hend hS
      go_wp2_with (first
        | (go_at_call 73; refine (HZ.out _).mono ?_; rintro e w' ⟨rfl, rfl⟩)
        | (go_at_call 78; refine HC.out.mono ?_; rintro e w2 ⟨rfl, hb⟩; have hS2 := HR.out.below hb; obtain ⟨p1, q1⟩ := hS2.box (i := 1) rfl; have p10 := p1 0 _ rfl; have p11 := p1 1 _ rfl; have q10 := q1 0; have q11 := q1 1; have pl := (hS2.lt (i := 1) rfl).2; clear p1 q1 hb; have HS2 := Lib.hid hS2; clear hS2))
      have hS3 := ((HS2.out.store (i := 1) rfl 0 (.int .i64 rn)).store (i := 1) rfl 1 (.slice B rx.length d)).alloc [.int .i64 rn, .slice B rx.length d] 26
      exact bodyPost_ret (v := .tuple #[.agg #[.int .i64 rn, .slice B rx.length d], .bool rb]) (by simp [results, Tryd.results21, go_sem, p10, p11, q10, q11, pl]) rfl ⟨B, d, rfl, ends_own hS3 (i := 1) rfl HE.out, hS3.base⟩

theorem contS_any (n : Int) (A : Option Addr) (xs : List Int) (cap : Nat) (s : Int) (w : World) (h : Hid (Ints w w.heap.size A xs)) :
    Calls Tryd.prog 21 #[.agg #[.int .i64 n, .slice A xs.length cap], .int .i64 s] w (RetFB w (contractFn n xs s).1 (contractFn n xs s).2.1 (contractFn n xs s).2.2) := by
  unfold contractFn
  by_cases hh : isFn n xs = true ∧ isSet n s = true
  · rw [if_pos hh]
    obtain ⟨hf, hs⟩ := hh
    obtain ⟨N, rfl⟩ := Int.eq_ofNat_of_zero_le (isFn_yes hf).1
    obtain ⟨s0, s1⟩ := isSet_yes hs
    obtain ⟨S, rfl⟩ := Int.eq_ofNat_of_zero_le s0
    rw [Int.toNat_natCast] at s1
    rw [Int.toNat_natCast, Int.toNat_natCast]
    exact contS_good N A xs cap S w h hf (by omega) _ rfl
  · rw [if_neg hh]
    refine contS_no n A xs cap s w h ?_
    cases hf : isFn n xs <;> cases hs : isSet n s <;> simp_all

end Go.Proofs.YtfpoiiennlhphaaDoor.C
