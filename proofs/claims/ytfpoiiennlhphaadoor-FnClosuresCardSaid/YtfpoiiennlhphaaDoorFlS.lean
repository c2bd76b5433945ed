/-
  The contracts of spec.FlatsOf and spec.OppositeFunction.
-/
import Derived.Test.YtfpoiiennlhphaaDoorClS
import Derived.Test.YtfpoiiennlhphaaDoorAllM
namespace Go.Proofs.YtfpoiiennlhphaaDoor.C
open Go.RowKit K M
set_option linter.unusedVariables false
set_option linter.unusedSimpArgs false

set_option maxRecDepth 100000 in
set_option maxHeartbeats 4000000 in
theorem flatsS_any (n : Int) (A : Option Addr) (xs : List Int) (cap : Nat) (w : World) (h : Hid (Ints w w.heap.size A xs)) :
    Calls Tryd.prog 14 #[.agg #[.int .i64 n, .slice A xs.length cap]] w (RetIB w (flatsOf n xs).1 (flatsOf n xs).2) := by
  have HW := Lib.hid (St.start w)
  have HQ := Lib.hid (fun W hW => polyS_any n A xs cap W (Lib.hid hW))
  obtain ⟨i0, hi, hz0, hz1, hz2⟩ := info_parts info_int
  unfold flatsOf
  cases hp : isPoly n xs
  · rw [if_neg (by decide)]
    rw [hp] at HQ
    clear hp
    generalize hm : xs.length = m at *
    clear hm
    go_enter Tryd.func14, Tryd.ntmps14
    go_wp2
    have HS := Lib.hid ((HW.out.alloc [.int .i64 n, .slice A m cap] 26).empty)
    go_loopw [4, 5] (fun v i wr => i = .int .i64 0 ∧ v = .slice (some ⟨w.heap.size + 1, 0, none⟩) 0 0 ∧ St w wr [il (.slice (some ⟨w.heap.size + 1, 0, none⟩) 0 0) 0 [], bx w.heap.size 26 [.int .i64 n, .slice A m cap]]) (fun _ _ _ => 0)
    case atStart => exact ⟨rfl, by (try rw [World.size_alloc]); rfl, by have e := HS.out; (try rw [World.size_alloc] at e); exact e⟩
    case round =>
      obtain ⟨rfl, rfl, hS⟩ := hrel
      obtain ⟨b0, -⟩ := hS.box (i := 1) rfl
      have b00 := b0 0 _ rfl
      have b01 := b0 1 _ rfl
      have HR := Lib.hid hS
      clear hS b0
      go_wp2_with (go_at_call 51; refine St.use (w0 := w) (by exact HR.out) ?_; intro hS; refine (HQ.out _ ((h.out.below hS.base).mono hS.size)).mono ?_; rintro e w2 ⟨rfl, hb⟩; have hS2 := hS.below hb; obtain ⟨b0, -⟩ := hS2.box (i := 1) rfl; clear b00 b01; have b00 := b0 0 _ rfl; have b01 := b0 1 _ rfl; have HR := Lib.hid hS2; clear hS hb hS2 b0)
      go_ret2
      exact ⟨_, _, rfl, HR.out.ownI (i := 0) rfl, HR.out.base⟩
  · rw [if_pos rfl]
    have p := hp
    have hf : isFn n xs = true := by
      unfold isPoly isGround at hp
      simp only [Bool.and_eq_true] at hp
      exact hp.1.1
    rw [hp] at HQ
    obtain ⟨h0, h5, hl, -⟩ := isFn_yes hf
    have hm32 := (isFn_len hf).2
    obtain ⟨N, rfl⟩ := Int.eq_ofNat_of_zero_le h0
    rw [Int.toNat_natCast] at hl ⊢
    have HC := Lib.hid (fun W S hW (hS : S < xs.length) => closS_any N A xs cap S W (Lib.hid hW) (pol_of p) (by rw [← hl]; exact hS))
    obtain ⟨m, hm⟩ : ∃ m, xs.length = m := ⟨_, rfl⟩
    rw [hm] at HC HQ hm32 ⊢
    clear hp p hf hl hm h5
    go_enter Tryd.func14, Tryd.ntmps14
    go_wp2
    have HS := Lib.hid ((HW.out.alloc [.int .i64 N, .slice A m cap] 26).empty)
    go_loopw [4, 5] (fun v i wr => ∃ (j q : Nat) (L : List Int) (V : Option Addr) (c : Nat), i = .int .i64 j ∧ j ≤ m ∧ v = .slice V q c ∧ q ≤ j ∧ Hid (flatsTo N xs j = L) ∧ St w wr [il (.slice V q c) q L, bx w.heap.size 26 [.int .i64 N, .slice A m cap]]) (fun _ i _ => m - (intOf i).toNat)
    case atStart => exact ⟨0, 0, [], _, _, rfl, Nat.zero_le _, rfl, Nat.le_refl _, Lib.hid rfl, by have e := HS.out; (try rw [World.size_alloc] at e); exact e⟩
    case round =>
      obtain ⟨j, q, L, V, c, rfl, hj, rfl, hq, hL, hS⟩ := hrel
      obtain ⟨b0, -⟩ := hS.box (i := 1) rfl
      have b00 := b0 0 _ rfl
      have b01 := b0 1 _ rfl
      have hql : L.length = q := OwnN.len (hS.own (i := 0) rfl)
      have HQL := Lib.hid hql
      have HR := Lib.hid hS
      clear hS b0 hql
      by_cases hlt : j < m
      · have hji : (j : Int) < (m : Int) := by omega
        have HCj := Lib.hid (fun W hW => HC.out W j hW hlt)
        have hstep : flatsTo N xs (j + 1) = if clos N xs j = j then L ++ [(j : Int)] else L := by
          show (if clos N xs j = j then flatsTo N xs j ++ [(j : Int)] else flatsTo N xs j) = _
          rw [hL.out]
        generalize clos N xs j = c0 at HCj hstep
        by_cases hcj : c0 = j
        · subst hcj
          rw [if_pos rfl] at hstep
          have HST := Lib.hid hstep
          clear hstep
          go_wp2_with (first
            | (go_at_call 51; refine St.use (w0 := w) (by exact HR.out) ?_; intro hS; refine (HQ.out _ ((h.out.below hS.base).mono hS.size)).mono ?_; rintro e w2 ⟨rfl, hb⟩; have hS2 := hS.below hb; obtain ⟨b0, -⟩ := hS2.box (i := 1) rfl; clear b00 b01; have b00 := b0 0 _ rfl; have b01 := b0 1 _ rfl; have HR := Lib.hid hS2; clear hS hb hS2 b0)
            | (go_at_call 66; refine St.use (w0 := w) (by exact HR.out) ?_; intro hS; refine (HCj.out _ ((h.out.below hS.base).mono hS.size)).mono ?_; rintro e w2 ⟨rfl, hb⟩; have HR := Lib.hid (hS.below hb); clear hS hb b00 b01)
            | (at_builtin; refine wpList_app1 rfl (.tmp 23) (.tmp 25) 24 rfl (c0 : Int) Tryd.underlying24 hi hz0 hz1 hz2 ((HR.out.alloc _ _).drop 0) (i := 0) rfl rfl rfl (by simp) (by omega) ?_; intro V' c' w2 hS2; have HR := Lib.hid hS2; clear hS2))
          go_roundw
          case rel => exact ⟨c0 + 1, q + 1, _, V', c', by go_num, by omega, rfl, by omega, Lib.hid HST.out, HR.out⟩
          case measure => simp [intOf]; omega
        · rw [if_neg hcj] at hstep
          have HST := Lib.hid hstep
          have hne : ((c0 : Int) == (j : Int)) = false := beq_eq_false_iff_ne.2 (by omega)
          clear hstep
          go_wp2_with (first
            | (go_at_call 51; refine St.use (w0 := w) (by exact HR.out) ?_; intro hS; refine (HQ.out _ ((h.out.below hS.base).mono hS.size)).mono ?_; rintro e w2 ⟨rfl, hb⟩; have hS2 := hS.below hb; obtain ⟨b0, -⟩ := hS2.box (i := 1) rfl; clear b00 b01; have b00 := b0 0 _ rfl; have b01 := b0 1 _ rfl; have HR := Lib.hid hS2; clear hS hb hS2 b0)
            | (go_at_call 66; refine St.use (w0 := w) (by exact HR.out) ?_; intro hS; refine (HCj.out _ ((h.out.below hS.base).mono hS.size)).mono ?_; rintro e w2 ⟨rfl, hb⟩; have HR := Lib.hid (hS.below hb); clear hS hb b00 b01))
          go_roundw
          case rel => exact ⟨j + 1, q, _, V, c, by go_num, by omega, rfl, by omega, Lib.hid HST.out, HR.out⟩
          case measure => simp [intOf]; omega
      · obtain rfl : j = m := by omega
        have hjn : ¬ (j : Int) < (j : Int) := by omega
        go_wp2_with (go_at_call 51; refine St.use (w0 := w) (by exact HR.out) ?_; intro hS; refine (HQ.out _ ((h.out.below hS.base).mono hS.size)).mono ?_; rintro e w2 ⟨rfl, hb⟩; have hS2 := hS.below hb; obtain ⟨b0, -⟩ := hS2.box (i := 1) rfl; clear b00 b01; have b00 := b0 0 _ rfl; have b01 := b0 1 _ rfl; have HR := Lib.hid hS2; clear hS hb hS2 b0)
        go_ret2
        rw [hL.out]
        have ho := HR.out.ownI (i := 0) rfl
        rw [← HQL.out] at ho
        exact ⟨V, c, by rw [HQL.out]; rfl, ho, HR.out.base⟩

set_option maxRecDepth 100000 in
set_option maxHeartbeats 4000000 in
theorem oppS_any (n : Int) (A : Option Addr) (xs : List Int) (cap : Nat) (w : World) (h : Hid (Ints w w.heap.size A xs)) :
    Calls Tryd.prog 28 #[.agg #[.int .i64 n, .slice A xs.length cap]] w (RetFB w (oppositeFn n xs).1 (oppositeFn n xs).2.1 (oppositeFn n xs).2.2) := by
  have HW := Lib.hid (St.start w)
  unfold oppositeFn
  cases hf : isFn n xs
  · rw [if_neg (by decide)]
    have HF := Lib.hid hf
    clear hf
    go_enter Tryd.func28, Tryd.ntmps28
    go_wp2_with (go_at_call 81; refine St.use (w0 := w) (by exact (HW.out.alloc _ _).alloc _ _) ?_; intro hS; (try simp only [World.size_alloc] at hS); refine (isFnS_no n A xs cap _ (Lib.hid ((h.out.below hS.base).mono hS.size)) HF.out).mono ?_; rintro e w2 ⟨rfl, hb⟩; have hS2 := hS.below hb; obtain ⟨u0, uf⟩ := hS2.box (i := 0) rfl; have u00 := u0 0 _ rfl; have u01 := u0 1 _ rfl; have uf0 := uf 0; have uf1 := uf 1; have ul := (hS2.lt (i := 0) rfl).2; have HS2 := Lib.hid hS2; clear hS hb hS2 u0 uf)
    have hZ := (HS2.out.store (i := 0) rfl 0 (.int .i64 0)).store (i := 0) rfl 1 (.slice none 0 0)
    exact bodyPost_ret (v := .tuple #[.agg #[.int .i64 0, .slice none 0 0], .bool false]) (by simp [results, Tryd.results28, go_sem, u00, u01, uf0, uf1, ul]) rfl ⟨none, 0, rfl, Own.nil _ _, by first | exact hZ.base | exact HS2.out.base⟩
  · rw [if_pos rfl]
    have HF := Lib.hid hf
    obtain ⟨h0, h5, hl, -⟩ := isFn_yes hf
    have hm32 := isFn_len hf
    have HG := Lib.hid (fun W hW => isFnS_yes n A xs cap W (Lib.hid hW) HF.out)
    have HO := Lib.hid (fun s => show oppV xs s = xs.getD (xs.length - 1 - s) 0 from rfl)
    generalize oppV xs = f at HO ⊢
    obtain ⟨m, hm⟩ : ∃ m, xs.length = m := ⟨_, rfl⟩
    rw [hm] at HG HO hm32 ⊢
    have HX := Lib.hid hm
    clear hf hl hm
    obtain ⟨i0, hi, hz0, hz1, hz2⟩ := info_parts info_int
    go_enter Tryd.func28, Tryd.ntmps28
    go_wp2_with (go_at_call 81; refine St.use (w0 := w) (by exact (HW.out.alloc _ _).alloc _ _) ?_; intro hS; (try simp only [World.size_alloc] at hS); refine (HG.out _ ((h.out.below hS.base).mono hS.size)).mono ?_; rintro e w2 ⟨rfl, hb⟩; have HS := Lib.hid (hS.below hb); clear hS hb)
    go_loopw [4, 5] (fun v i wr => ∃ (j : Nat) (V : Option Addr) (c : Nat), i = .int .i64 j ∧ j ≤ m ∧ v = .slice V j c ∧ St w wr [il (.slice V j c) j (tab j f), bx (w.heap.size + 1) 26 [.int .i64 0, .slice none 0 0], bx w.heap.size 26 [.int .i64 n, .slice A m cap]]) (fun _ i _ => m - (intOf i).toNat)
    case atStart => exact ⟨0, _, _, rfl, Nat.zero_le _, rfl, HS.out.empty⟩
    case round =>
      obtain ⟨j, V, c, rfl, hj, rfl, hS⟩ := hrel
      obtain ⟨b0, -⟩ := hS.box (i := 2) rfl
      have b00 := b0 0 _ rfl
      have b01 := b0 1 _ rfl
      have HR := Lib.hid hS
      clear b0
      by_cases hlt : j < m
      · have htab := Lib.hid (tab_succ j f)
        have hji : (j : Int) < (m : Int) := by omega
        obtain ⟨b, off, rfl, hbl, hc⟩ := (h.out.below hS.base).at_ (k := m - 1 - j) (by rw [HX.out]; omega)
        rw [← HO.out] at hc
        generalize f j = x at hc htab
        have k1 : ((m - 1 - j : Nat) : Int) = (m : Int) - 1 - (j : Int) := by omega
        have k2 : ((m : Int) - 1 - (j : Int)).toNat = m - 1 - j := by omega
        have k3 : (0 : Int) ≤ (m : Int) - 1 - (j : Int) := by omega
        have k4 : (m : Int) - 1 - (j : Int) < (m : Int) := by omega
        clear hS
        go_wp2_with (at_builtin; refine wpList_app1 rfl (.tmp 18) (.tmp 29) 24 rfl x Tryd.underlying24 hi hz0 hz1 hz2 ((HR.out.alloc _ _).drop 0) (i := 0) rfl rfl rfl (by simp) (by omega) ?_; intro V' c' w2 hS2; have HR2 := Lib.hid hS2; clear hS2)
        go_roundw
        case rel => exact ⟨j + 1, V', c', by go_num, by omega, rfl, by rw [htab.out]; exact HR2.out⟩
        case measure => simp [intOf]; omega
      · obtain rfl : j = m := by omega
        have hjn : ¬ (j : Int) < (j : Int) := by omega
        obtain ⟨u0, uf⟩ := hS.box (i := 1) rfl
        have u00 := u0 0 _ rfl
        have u01 := u0 1 _ rfl
        have uf0 := uf 0
        have uf1 := uf 1
        have ul := (hS.lt (i := 1) rfl).2
        clear hS u0 uf
        go_wp2
        have hZ := (HR.out.store (i := 1) rfl 0 (.int .i64 n)).store (i := 1) rfl 1 (.slice V j c)
        have hln : (tab j f).length = j := tab_length _ _
        refine bodyPost_ret (v := .tuple #[.agg #[.int .i64 n, .slice V j c], .bool true]) (by simp [results, Tryd.results28, go_sem, u00, u01, uf0, uf1, ul]) rfl ⟨V, c, by rw [hln], ?_, hZ.base⟩
        have ho := hZ.ownI (i := 0) rfl
        rw [hln]
        exact ho

end Go.Proofs.YtfpoiiennlhphaaDoor.C
