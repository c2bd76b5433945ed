/-
  The law of convolutions, walked: splits, hulls, truncations and reductions.
-/
import Derived.Test.YtfpoiiennlhphaaDoorKc
import Derived.Test.YtfpoiiennlhphaaDoorCvL
import Derived.Test.YtfpoiiennlhphaaDoorCvT
import Derived.Test.YtfpoiiennlhphaaDoorCvU
import Derived.Test.YtfpoiiennlhphaaDoorCvW
import Derived.Test.YtfpoiiennlhphaaDoorDrawM
import Derived.Test.YtfpoiiennlhphaaDoorLine
namespace Go.Proofs.YtfpoiiennlhphaaDoor.C
open Go.RowKit M K
set_option linter.unusedVariables false
set_option linter.unusedSimpArgs false

set_option maxRecDepth 100000 in
set_option maxHeartbeats 40000000 in
theorem law_convs_in (T : World → Prop) (stay : ∀ W W', T W → Below W.heap.size W W' → T W') (a : Option Addr) (len cap : Nat) (w : World) (hl : len ≤ 1048576) (hy : Hid (Bytes w.heap.size w (.slice a len cap) len)) (HT : Hid (T w))
    (iConv : Hid (∀ (W : World) (n : Int) (A : Option Addr) (xs : List Int) (c : Nat) (m : Int) (D : Option Addr) (ys : List Int) (d : Nat), T W → Hid (Ints W W.heap.size A xs) → Hid (Ints W W.heap.size D ys) → Calls Tryd.prog 35 #[.agg #[.int .i64 n, .slice A xs.length c], .agg #[.int .i64 m, .slice D ys.length d]] W (RetFB W (convFn n xs m ys).1 (convFn n xs m ys).2.1 (convFn n xs m ys).2.2)))
    (iSplit : Hid (∀ (W : World) (n : Int) (A : Option Addr) (xs : List Int) (c : Nat) (m : Int) (D : Option Addr) (ys : List Int) (d : Nat) (s : Int), T W → Hid (Ints W W.heap.size A xs) → Hid (Ints W W.heap.size D ys) → Calls Tryd.prog 37 #[.agg #[.int .i64 n, .slice A xs.length c], .agg #[.int .i64 m, .slice D ys.length d], .int .i64 s] W (RetV W (.tuple #[.int .i64 (splitOf n xs m ys s).1, .bool (splitOf n xs m ys s).2]))))
    (iRed : Hid (∀ (W : World) (n : Int) (A : Option Addr) (xs : List Int) (c : Nat) (D : Option Addr) (ws : List Int) (d : Nat), T W → Hid (Ints W W.heap.size A xs) → Hid (Ints W W.heap.size D ws) → ws.length ≤ 1048576 → Calls Tryd.prog 39 #[.agg #[.int .i64 n, .slice A xs.length c], .slice D ws.length d] W (RetFB W (reduceFn n xs ws).1 (reduceFn n xs ws).2.1 (reduceFn n xs ws).2.2)))
    (iHull : Hid (∀ (W : World) (n : Int) (A : Option Addr) (xs : List Int) (c : Nat), T W → Hid (Ints W W.heap.size A xs) → Calls Tryd.prog 42 #[.agg #[.int .i64 n, .slice A xs.length c]] W (RetFB W (hullFn n xs).1 (hullFn n xs).2.1 (hullFn n xs).2.2)))
    (iTrunc : Hid (∀ (W : World) (n : Int) (A : Option Addr) (xs : List Int) (c : Nat) (k : Int), T W → Hid (Ints W W.heap.size A xs) → Calls Tryd.prog 47 #[.agg #[.int .i64 n, .slice A xs.length c], .int .i64 k] W (RetFB W (truncFn n xs k).1 (truncFn n xs k).2.1 (truncFn n xs k).2.2))) :
    Calls Tryd.prog 4 #[.slice a len cap] w (RetV w (.bool true)) := by
  have hbd : decide ((1048576 : Int) < (len : Int)) = false := by simp; omega
  have HK0 := Lib.hid (show Kc T w w [] [] from ⟨Below.refl _ _, (fun _ h => by cases h), (fun _ h => by cases h), HT.out, stay⟩)
  have HY := Lib.hid (fun (W : World) (h : Below w.heap.size w W) => bytes_at5 hy h)
  go_enter Tryd.func4, Tryd.ntmps4
  go_wp2_with fail
  refine (big_any5 _ _ _ _ (by omega)).mono ?_
  rw [hbd]
  rintro e w' ⟨rfl, rfl⟩
  clear hbd
  go_wp2_with fail
  refine (conv_got _ len _ hl (HY.out _ HK0.out.base)).mono ?_
  rintro e w1 ⟨_, nf, f, _, ng, g, rfl, ⟨Af, cf, rfl, hof, hlf⟩, ⟨Ag, cg, rfl, hog, hlg⟩, hb⟩
  have HK1 := Lib.hid ((((HK0.out.below hb).put hof.read).put hog.read).box nf (.slice Af f.length cf) 26 |>.box ng (.slice Ag g.length cg) 26)
  simp only [World.size_alloc] at HK1
  clear hof hog hb HK0
  have HC0 := Lib.hid (fun W (h0 : T W) (h1 : Ints W W.heap.size Af f) (h2 : Ints W W.heap.size Ag g) => iConv.out W nf Af f cf ng Ag g cg h0 (Lib.hid h1) (Lib.hid h2))
  have HC1 := Lib.hid (fun W (h1 : Ints W W.heap.size Af f) (h2 : Ints W W.heap.size Ag g) => convS_any nf Af f cf ng Ag g cg W (Lib.hid h1) (Lib.hid h2))
  have HC2 := Lib.hid (fun W (h0 : T W) (h1 : Ints W W.heap.size Ag g) (h2 : Ints W W.heap.size Af f) => iConv.out W ng Ag g cg nf Af f cf h0 (Lib.hid h1) (Lib.hid h2))
  rw [convFn_comm nf f ng g] at HC2
  have HFC := Lib.hid (fun hb j hj => conv_facts (n := nf) (xs := f) (m := ng) (ys := g) hb (j := j) hj)
  have hl1 := convFn_len nf f ng g
  obtain ⟨nk, xk, bk, hr⟩ : ∃ n x b, convFn nf f ng g = (n, x, b) := ⟨_, _, _, rfl⟩
  rw [hr] at HC0 HC1 HC2 HFC hl1
  (try dsimp only at hl1)
  clear hr hlg hlf
  go_wp2_with fail
  refine (HC0.out _ HK1.out.fact (HK1.out.list 1 rfl) (HK1.out.list 0 rfl)).mono ?_
  rintro e w2 ⟨Ah, ch, rfl, ho, hb⟩
  have HK2 := Lib.hid (((HK1.out.below hb).put ho.read).box nk (.slice Ah xk.length ch) 26)
  clear ho hb HK1 HC0
  obtain ⟨c20, c21⟩ := HK2.out.cell 2 rfl
  obtain ⟨c10, c11⟩ := HK2.out.cell 1 rfl
  go_wp2_with fail
  refine (HC1.out _ (HK2.out.list 2 rfl) (HK2.out.list 1 rfl)).mono ?_
  rintro e w3 ⟨Ak, ck, rfl, ho, hb⟩
  have HK3 := Lib.hid (((HK2.out.below hb).put ho.read).box nk (.slice Ak xk.length ck) 26)
  clear ho hb HK2 HC1 c20 c21 c10 c11
  obtain ⟨c10, c11⟩ := HK3.out.cell 1 rfl
  obtain ⟨c00, c01⟩ := HK3.out.cell 0 rfl
  go_wp2_with fail
  refine (eqS_yes nk Ah xk ch Ak ck _ (Lib.hid (HK3.out.list 1 rfl)) (Lib.hid (HK3.out.list 0 rfl)) (by omega)).mono ?_
  rintro e xq1 ⟨rfl, hb⟩
  have HKq1 := Lib.hid (HK3.out.below hb)
  clear hb c10 c11 c00 c01
  clear HK3
  go_upto_if 66 with (fail)
  go_cut [] (fun wx => Kc T w wx [] [])
  case first =>
    as_aux_lemma =>
      cases bk
      · go_wp2_with fail
        go_meet
        exact HKq1.out.only (cs' := []) (ls' := []) [] [] rfl rfl
      · skip
        obtain ⟨c20, c21⟩ := HKq1.out.cell 2 rfl
        obtain ⟨c30, c31⟩ := HKq1.out.cell 3 rfl
        go_wp2_with fail
        refine (HC2.out _ HKq1.out.fact (HKq1.out.list 2 rfl) (HKq1.out.list 3 rfl)).mono ?_
        rintro e w5 ⟨Ab, cb, rfl, ho, hb⟩
        have HK5 := Lib.hid (((HKq1.out.below hb).put ho.read).box nk (.slice Ab xk.length cb) 26)
        clear ho hb c20 c21 c30 c31
        obtain ⟨c10, c11⟩ := HK5.out.cell 1 rfl
        go_wp2_with fail
        refine (eqS_yes nk Ab xk cb Ak ck _ (Lib.hid (HK5.out.list 0 rfl)) (Lib.hid (HK5.out.list 1 rfl)) (by omega)).mono ?_
        rintro e w6 ⟨rfl, hb⟩
        have HK6 := Lib.hid ((HK5.out.below hb).only (cs' := [(w3.heap.size, nk, .slice Ak xk.length ck), ((w1.heap.size + 1), ng, .slice Ag g.length cg), (w1.heap.size, nf, .slice Af f.length cf)]) (ls' := [(Ak, xk), (Ag, g), (Af, f)]) [1, 3, 4] [1, 3, 4] rfl rfl)
        clear hb HK5 c10 c11
        go_wp2
        go_loopw [11] (fun i wr => ∃ j : Nat, i = .int .i64 j ∧ j ≤ f.length ∧ Kc T w wr [(w3.heap.size, nk, .slice Ak xk.length ck), ((w1.heap.size + 1), ng, .slice Ag g.length cg), (w1.heap.size, nf, .slice Af f.length cf)] [(Ak, xk), (Ag, g), (Af, f)]) (fun i _ => f.length - (intOf i).toNat)
        case atStart => exact ⟨0, rfl, Nat.zero_le _, HK6.out⟩
        case round =>
          obtain ⟨j, rfl, hj, hKr⟩ := hrel
          have HKr := Lib.hid hKr
          clear hKr HK6
          obtain ⟨c20, c21⟩ := HKr.out.cell 2 rfl
          by_cases hlt : j < f.length
          · have hji : (j : Int) < (f.length : Int) := by omega
            obtain ⟨x, hxj, hj32, hand, hsp, hval, hle⟩ := HFC.out (by first | trivial | rfl) j hlt
            (try dsimp only at hval hle)
            have HSP := Lib.hid (fun W (h0 : T W) (h1 : Ints W W.heap.size Af f) (h2 : Ints W W.heap.size Ag g) => iSplit.out W nf Af f cf ng Ag g cg (j : Int) h0 (Lib.hid h1) (Lib.hid h2))
            rw [hsp] at HSP
            have HV1 := Lib.hid (fun W (h1 : Ints W W.heap.size Ak xk) => valI_any nk Ak xk ck (j : Int) W (Lib.hid h1))
            have HV2 := Lib.hid (fun W (h1 : Ints W W.heap.size Af f) => valI_any nf Af f cf (x : Int) W (Lib.hid h1))
            have HV3 := Lib.hid (fun W (h1 : Ints W W.heap.size Ag g) => valI_any ng Ag g cg ((j - x : Nat) : Int) W (Lib.hid h1))
            have HV4 := Lib.hid (fun W (h1 : Ints W W.heap.size Af f) => valI_any nf Af f cf (j : Int) W (Lib.hid h1))
            have HV5 := Lib.hid (fun W (h1 : Ints W W.heap.size Ag g) => valI_any ng Ag g cg 0 W (Lib.hid h1))
            have b1 := val_bd6 nf f (x : Int)
            have b2 := val_bd6 ng g ((j - x : Nat) : Int)
            have b3 := val_bd6 nf f (j : Int)
            have b4 := val_bd6 ng g 0
            rw [hval] at HV1 hle
            generalize valueOf nf f (x : Int) = vp at HV1 HV2 hle b1
            generalize valueOf ng g ((j - x : Nat) : Int) = vr at HV1 HV3 hle b2
            generalize valueOf nf f (j : Int) = vu at HV4 hle b3
            generalize valueOf ng g 0 = vz at HV5 hle b4
            have hbits : bits .and .i64 (x : Int) (j : Int) = (x : Int) := by rw [and_two x j (by omega) (by omega), hand]
            obtain ⟨y, hy'⟩ : ∃ y : Int, ((j - x : Nat) : Int) = y := ⟨_, rfl⟩
            have hsub : IntKind.i64.wrap y = y := IntWalk.i64_in _ (by omega)
            have hsub2 : (j : Int) - (x : Int) = y := by omega
            rw [hy'] at HV3
            have hadd : IntKind.i64.wrap (vp + vr) = vp + vr := IntWalk.i64_in _ (by omega)
            have hadd2 : IntKind.i64.wrap (vu + vz) = vu + vz := IntWalk.i64_in _ (by omega)
            have hgt : decide (vu + vz < vp + vr) = false := decide_eq_false (by omega)
            clear hval hsp hand hy' HFC
            obtain ⟨c10, c11⟩ := HKr.out.cell 1 rfl
            go_wp2_with fail
            refine (HSP.out _ HKr.out.fact (HKr.out.list 2 rfl) (HKr.out.list 1 rfl)).mono ?_
            rintro e w7 ⟨rfl, hb⟩
            have HKs := Lib.hid (HKr.out.below hb)
            clear hb c10 c11 c20 c21 HKr HSP
            go_upto_region 16 with (fail)
            have hkd := HKs.out.drew
            refine wp_region_line (S := (fun w' => Kc T w w' [(w3.heap.size, nk, .slice Ak xk.length ck), ((w1.heap.size + 1), ng, .slice Ag g.length cg), (w1.heap.size, nf, .slice Af f.length cf)] [(Ak, xk), (Ag, g), (Af, f)])) (by kernel_rfl) (by kernel_rfl) ?_ ?_
            · exact hkd
            refine line_take (i := 0) (v := ?_) (by simp only [List.getElem?_toArray, List.getElem?_cons_succ, List.getElem?_cons_zero]; rfl) (by kernel_rfl) (by kernel_rfl) (by rfl) ?_ ?_
            rotate_left
            · intro wy hSw; (try dsimp only at hSw); go_simp; (try with_reducible rfl)
            try simp only [Act.put, List.setIfInBounds_toArray, List.set_cons_zero, List.set_cons_succ]
            refine line_take (i := 1) (v := ?_) (by simp only [List.getElem?_toArray, List.getElem?_cons_succ, List.getElem?_cons_zero]; rfl) (by kernel_rfl) (by kernel_rfl) (by rfl) ?_ ?_
            rotate_left
            · intro wy hSw; (try dsimp only at hSw); go_simp; (try with_reducible rfl)
            try simp only [Act.put, List.setIfInBounds_toArray, List.set_cons_zero, List.set_cons_succ]
            refine line_take (i := 2) (v := ?_) (by simp only [List.getElem?_toArray, List.getElem?_cons_succ, List.getElem?_cons_zero]; rfl) (by kernel_rfl) (by kernel_rfl) (by rfl) ?_ ?_
            rotate_left
            · intro wy hSw; (try dsimp only at hSw); go_simp; (try with_reducible rfl)
            try simp only [Act.put, List.setIfInBounds_toArray, List.set_cons_zero, List.set_cons_succ]
            refine line_take (i := 3) (v := ?_) (by simp only [List.getElem?_toArray, List.getElem?_cons_succ, List.getElem?_cons_zero]; rfl) (by kernel_rfl) (by kernel_rfl) (by rfl) ?_ ?_
            rotate_left
            · intro wy hSw; (try dsimp only at hSw); go_simp; (try with_reducible rfl)
            try simp only [Act.put, List.setIfInBounds_toArray, List.set_cons_zero, List.set_cons_succ]
            refine line_take (i := 4) (v := ?_) (by simp only [List.getElem?_toArray, List.getElem?_cons_succ, List.getElem?_cons_zero]; rfl) (by kernel_rfl) (by kernel_rfl) (by rfl) ?_ ?_
            rotate_left
            · intro wy hSw; (try dsimp only at hSw); go_simp; (try with_reducible rfl)
            try simp only [Act.put, List.setIfInBounds_toArray, List.set_cons_zero, List.set_cons_succ]
            refine line_take (i := 5) (v := ?_) (by simp only [List.getElem?_toArray, List.getElem?_cons_succ, List.getElem?_cons_zero]; rfl) (by kernel_rfl) (by kernel_rfl) (by rfl) ?_ ?_
            rotate_left
            · intro wy hSw; (try dsimp only at hSw); go_simp; (try with_reducible rfl)
            try simp only [Act.put, List.setIfInBounds_toArray, List.set_cons_zero, List.set_cons_succ]
            refine line_take (i := 6) (v := ?_) (by simp only [List.getElem?_toArray, List.getElem?_cons_succ, List.getElem?_cons_zero]; rfl) (by kernel_rfl) (by kernel_rfl) (by rfl) ?_ ?_
            rotate_left
            · intro wy hSw; (try dsimp only at hSw); go_simp; (try with_reducible rfl)
            try simp only [Act.put, List.setIfInBounds_toArray, List.set_cons_zero, List.set_cons_succ]
            refine line_take (i := 7) (v := ?_) (by simp only [List.getElem?_toArray, List.getElem?_cons_succ, List.getElem?_cons_zero]; rfl) (by kernel_rfl) (by kernel_rfl) (by rfl) ?_ ?_
            rotate_left
            · intro wy hSw; (try dsimp only at hSw); go_simp; (try with_reducible rfl)
            try simp only [Act.put, List.setIfInBounds_toArray, List.set_cons_zero, List.set_cons_succ]
            refine line_take (i := 8) (v := ?_) (by simp only [List.getElem?_toArray, List.getElem?_cons_succ, List.getElem?_cons_zero]; rfl) (by kernel_rfl) (by kernel_rfl) (by rfl) ?_ ?_
            rotate_left
            · intro wy hSw; (try dsimp only at hSw); go_simp; (try with_reducible rfl)
            try simp only [Act.put, List.setIfInBounds_toArray, List.set_cons_zero, List.set_cons_succ]
            refine line_take (i := 9) (v := ?_) (by simp only [List.getElem?_toArray, List.getElem?_cons_succ, List.getElem?_cons_zero]; rfl) (by kernel_rfl) (by kernel_rfl) (by rfl) ?_ ?_
            rotate_left
            · intro wy hSw; (try dsimp only at hSw); go_simp; (try with_reducible rfl)
            try simp only [Act.put, List.setIfInBounds_toArray, List.set_cons_zero, List.set_cons_succ]
            refine line_take (i := 10) (v := ?_) (by simp only [List.getElem?_toArray, List.getElem?_cons_succ, List.getElem?_cons_zero]; rfl) (by kernel_rfl) (by kernel_rfl) (by rfl) ?_ ?_
            rotate_left
            · intro wy hSw; (try dsimp only at hSw); obtain ⟨c00, c01⟩ := hSw.cell 0 rfl; obtain ⟨c10, c11⟩ := hSw.cell 1 rfl; obtain ⟨c20, c21⟩ := hSw.cell 2 rfl; go_simp; (try with_reducible rfl)
            try simp only [Act.put, List.setIfInBounds_toArray, List.set_cons_zero, List.set_cons_succ]
            refine line_take (i := 11) (v := ?_) (by simp only [List.getElem?_toArray, List.getElem?_cons_succ, List.getElem?_cons_zero]; rfl) (by kernel_rfl) (by kernel_rfl) (by rfl) ?_ ?_
            rotate_left
            · intro wy hSw; (try dsimp only at hSw); go_simp; (try with_reducible rfl)
            try simp only [Act.put, List.setIfInBounds_toArray, List.set_cons_zero, List.set_cons_succ]
            refine line_call (i := 12) (v := ?_) ?_ ?_ (by simp only [List.getElem?_toArray, List.getElem?_cons_succ, List.getElem?_cons_zero]; rfl) (by kernel_rfl) (by kernel_rfl) (by rfl) ?hc1 ?hv1 ?hn1
            case hv1 => intro wy hSw; go_simp; (try first | with_reducible rfl | (constructor <;> with_reducible rfl))
            case hc1 => intro wy hSw; (try dsimp only at hSw); refine Calls.mono (by with_reducible exact HV1.out _ (hSw.list 0 rfl)) ?_; rintro e wq ⟨rfl, hb⟩; refine ⟨?_, hSw.below hb⟩; with_reducible rfl
            try simp only [Act.put, List.setIfInBounds_toArray, List.set_cons_zero, List.set_cons_succ]
            refine line_take (i := 13) (v := ?_) (by simp only [List.getElem?_toArray, List.getElem?_cons_succ, List.getElem?_cons_zero]; rfl) (by kernel_rfl) (by kernel_rfl) (by rfl) ?_ ?_
            rotate_left
            · intro wy hSw; (try dsimp only at hSw); obtain ⟨c00, c01⟩ := hSw.cell 0 rfl; obtain ⟨c10, c11⟩ := hSw.cell 1 rfl; obtain ⟨c20, c21⟩ := hSw.cell 2 rfl; go_simp; (try with_reducible rfl)
            try simp only [Act.put, List.setIfInBounds_toArray, List.set_cons_zero, List.set_cons_succ]
            refine line_take (i := 14) (v := ?_) (by simp only [List.getElem?_toArray, List.getElem?_cons_succ, List.getElem?_cons_zero]; rfl) (by kernel_rfl) (by kernel_rfl) (by rfl) ?_ ?_
            rotate_left
            · intro wy hSw; (try dsimp only at hSw); go_simp; (try with_reducible rfl)
            try simp only [Act.put, List.setIfInBounds_toArray, List.set_cons_zero, List.set_cons_succ]
            refine line_call (i := 15) (v := ?_) ?_ ?_ (by simp only [List.getElem?_toArray, List.getElem?_cons_succ, List.getElem?_cons_zero]; rfl) (by kernel_rfl) (by kernel_rfl) (by rfl) ?hc2 ?hv2 ?hn2
            case hv2 => intro wy hSw; go_simp; (try first | with_reducible rfl | (constructor <;> with_reducible rfl))
            case hc2 => intro wy hSw; (try dsimp only at hSw); refine Calls.mono (by with_reducible exact HV2.out _ (hSw.list 2 rfl)) ?_; rintro e wq ⟨rfl, hb⟩; refine ⟨?_, hSw.below hb⟩; with_reducible rfl
            try simp only [Act.put, List.setIfInBounds_toArray, List.set_cons_zero, List.set_cons_succ]
            refine line_take (i := 16) (v := ?_) (by simp only [List.getElem?_toArray, List.getElem?_cons_succ, List.getElem?_cons_zero]; rfl) (by kernel_rfl) (by kernel_rfl) (by rfl) ?_ ?_
            rotate_left
            · intro wy hSw; (try dsimp only at hSw); obtain ⟨c00, c01⟩ := hSw.cell 0 rfl; obtain ⟨c10, c11⟩ := hSw.cell 1 rfl; obtain ⟨c20, c21⟩ := hSw.cell 2 rfl; go_simp; (try with_reducible rfl)
            try simp only [Act.put, List.setIfInBounds_toArray, List.set_cons_zero, List.set_cons_succ]
            refine line_take (i := 17) (v := ?_) (by simp only [List.getElem?_toArray, List.getElem?_cons_succ, List.getElem?_cons_zero]; rfl) (by kernel_rfl) (by kernel_rfl) (by rfl) ?_ ?_
            rotate_left
            · intro wy hSw; (try dsimp only at hSw); go_simp; (try with_reducible rfl)
            try simp only [Act.put, List.setIfInBounds_toArray, List.set_cons_zero, List.set_cons_succ]
            refine line_take (i := 18) (v := ?_) (by simp only [List.getElem?_toArray, List.getElem?_cons_succ, List.getElem?_cons_zero]; rfl) (by kernel_rfl) (by kernel_rfl) (by rfl) ?_ ?_
            rotate_left
            · intro wy hSw; (try dsimp only at hSw); go_simp; (try with_reducible rfl)
            try simp only [Act.put, List.setIfInBounds_toArray, List.set_cons_zero, List.set_cons_succ]
            refine line_take (i := 19) (v := ?_) (by simp only [List.getElem?_toArray, List.getElem?_cons_succ, List.getElem?_cons_zero]; rfl) (by kernel_rfl) (by kernel_rfl) (by rfl) ?_ ?_
            rotate_left
            · intro wy hSw; (try dsimp only at hSw); go_simp; (try with_reducible rfl)
            try simp only [Act.put, List.setIfInBounds_toArray, List.set_cons_zero, List.set_cons_succ]
            refine line_call (i := 20) (v := ?_) ?_ ?_ (by simp only [List.getElem?_toArray, List.getElem?_cons_succ, List.getElem?_cons_zero]; rfl) (by kernel_rfl) (by kernel_rfl) (by rfl) ?hc3 ?hv3 ?hn3
            case hv3 => intro wy hSw; go_simp; (try first | with_reducible rfl | (constructor <;> with_reducible rfl))
            case hc3 => intro wy hSw; (try dsimp only at hSw); refine Calls.mono (by with_reducible exact HV3.out _ (hSw.list 1 rfl)) ?_; rintro e wq ⟨rfl, hb⟩; refine ⟨?_, hSw.below hb⟩; with_reducible rfl
            try simp only [Act.put, List.setIfInBounds_toArray, List.set_cons_zero, List.set_cons_succ]
            refine line_take (i := 21) (v := ?_) (by simp only [List.getElem?_toArray, List.getElem?_cons_succ, List.getElem?_cons_zero]; rfl) (by kernel_rfl) (by kernel_rfl) (by rfl) ?_ ?_
            rotate_left
            · intro wy hSw; (try dsimp only at hSw); go_simp; (try with_reducible rfl)
            try simp only [Act.put, List.setIfInBounds_toArray, List.set_cons_zero, List.set_cons_succ]
            refine line_take (i := 22) (v := ?_) (by simp only [List.getElem?_toArray, List.getElem?_cons_succ, List.getElem?_cons_zero]; rfl) (by kernel_rfl) (by kernel_rfl) (by rfl) ?_ ?_
            rotate_left
            · intro wy hSw; (try dsimp only at hSw); go_simp; (try with_reducible rfl)
            try simp only [Act.put, List.setIfInBounds_toArray, List.set_cons_zero, List.set_cons_succ]
            refine line_take (i := 23) (v := ?_) (by simp only [List.getElem?_toArray, List.getElem?_cons_succ, List.getElem?_cons_zero]; rfl) (by kernel_rfl) (by kernel_rfl) (by rfl) ?_ ?_
            rotate_left
            · intro wy hSw; (try dsimp only at hSw); go_simp; (try with_reducible rfl)
            try simp only [Act.put, List.setIfInBounds_toArray, List.set_cons_zero, List.set_cons_succ]
            refine line_take (i := 24) (v := ?_) (by simp only [List.getElem?_toArray, List.getElem?_cons_succ, List.getElem?_cons_zero]; rfl) (by kernel_rfl) (by kernel_rfl) (by rfl) ?_ ?_
            rotate_left
            · intro wy hSw; (try dsimp only at hSw); go_simp; (try with_reducible rfl)
            try simp only [Act.put, List.setIfInBounds_toArray, List.set_cons_zero, List.set_cons_succ]
            refine line_take (i := 25) (v := ?_) (by simp only [List.getElem?_toArray, List.getElem?_cons_succ, List.getElem?_cons_zero]; rfl) (by kernel_rfl) (by kernel_rfl) (by rfl) ?_ ?_
            rotate_left
            · intro wy hSw; (try dsimp only at hSw); obtain ⟨c00, c01⟩ := hSw.cell 0 rfl; obtain ⟨c10, c11⟩ := hSw.cell 1 rfl; obtain ⟨c20, c21⟩ := hSw.cell 2 rfl; go_simp; (try with_reducible rfl)
            try simp only [Act.put, List.setIfInBounds_toArray, List.set_cons_zero, List.set_cons_succ]
            refine line_take (i := 26) (v := ?_) (by simp only [List.getElem?_toArray, List.getElem?_cons_succ, List.getElem?_cons_zero]; rfl) (by kernel_rfl) (by kernel_rfl) (by rfl) ?_ ?_
            rotate_left
            · intro wy hSw; (try dsimp only at hSw); go_simp; (try with_reducible rfl)
            try simp only [Act.put, List.setIfInBounds_toArray, List.set_cons_zero, List.set_cons_succ]
            refine line_call (i := 27) (v := ?_) ?_ ?_ (by simp only [List.getElem?_toArray, List.getElem?_cons_succ, List.getElem?_cons_zero]; rfl) (by kernel_rfl) (by kernel_rfl) (by rfl) ?hc4 ?hv4 ?hn4
            case hv4 => intro wy hSw; go_simp; (try first | with_reducible rfl | (constructor <;> with_reducible rfl))
            case hc4 => intro wy hSw; (try dsimp only at hSw); refine Calls.mono (by with_reducible exact HV1.out _ (hSw.list 0 rfl)) ?_; rintro e wq ⟨rfl, hb⟩; refine ⟨?_, hSw.below hb⟩; with_reducible rfl
            try simp only [Act.put, List.setIfInBounds_toArray, List.set_cons_zero, List.set_cons_succ]
            refine line_take (i := 28) (v := ?_) (by simp only [List.getElem?_toArray, List.getElem?_cons_succ, List.getElem?_cons_zero]; rfl) (by kernel_rfl) (by kernel_rfl) (by rfl) ?_ ?_
            rotate_left
            · intro wy hSw; (try dsimp only at hSw); obtain ⟨c00, c01⟩ := hSw.cell 0 rfl; obtain ⟨c10, c11⟩ := hSw.cell 1 rfl; obtain ⟨c20, c21⟩ := hSw.cell 2 rfl; go_simp; (try with_reducible rfl)
            try simp only [Act.put, List.setIfInBounds_toArray, List.set_cons_zero, List.set_cons_succ]
            refine line_take (i := 29) (v := ?_) (by simp only [List.getElem?_toArray, List.getElem?_cons_succ, List.getElem?_cons_zero]; rfl) (by kernel_rfl) (by kernel_rfl) (by rfl) ?_ ?_
            rotate_left
            · intro wy hSw; (try dsimp only at hSw); go_simp; (try with_reducible rfl)
            try simp only [Act.put, List.setIfInBounds_toArray, List.set_cons_zero, List.set_cons_succ]
            refine line_call (i := 30) (v := ?_) ?_ ?_ (by simp only [List.getElem?_toArray, List.getElem?_cons_succ, List.getElem?_cons_zero]; rfl) (by kernel_rfl) (by kernel_rfl) (by rfl) ?hc5 ?hv5 ?hn5
            case hv5 => intro wy hSw; go_simp; (try first | with_reducible rfl | (constructor <;> with_reducible rfl))
            case hc5 => intro wy hSw; (try dsimp only at hSw); refine Calls.mono (by with_reducible exact HV4.out _ (hSw.list 2 rfl)) ?_; rintro e wq ⟨rfl, hb⟩; refine ⟨?_, hSw.below hb⟩; with_reducible rfl
            try simp only [Act.put, List.setIfInBounds_toArray, List.set_cons_zero, List.set_cons_succ]
            refine line_take (i := 31) (v := ?_) (by simp only [List.getElem?_toArray, List.getElem?_cons_succ, List.getElem?_cons_zero]; rfl) (by kernel_rfl) (by kernel_rfl) (by rfl) ?_ ?_
            rotate_left
            · intro wy hSw; (try dsimp only at hSw); obtain ⟨c00, c01⟩ := hSw.cell 0 rfl; obtain ⟨c10, c11⟩ := hSw.cell 1 rfl; obtain ⟨c20, c21⟩ := hSw.cell 2 rfl; go_simp; (try with_reducible rfl)
            try simp only [Act.put, List.setIfInBounds_toArray, List.set_cons_zero, List.set_cons_succ]
            refine line_call (i := 32) (v := ?_) ?_ ?_ (by simp only [List.getElem?_toArray, List.getElem?_cons_succ, List.getElem?_cons_zero]; rfl) (by kernel_rfl) (by kernel_rfl) (by rfl) ?hc6 ?hv6 ?hn6
            case hv6 => intro wy hSw; go_simp; (try first | with_reducible rfl | (constructor <;> with_reducible rfl))
            case hc6 => intro wy hSw; (try dsimp only at hSw); refine Calls.mono (by with_reducible exact HV5.out _ (hSw.list 1 rfl)) ?_; rintro e wq ⟨rfl, hb⟩; refine ⟨?_, hSw.below hb⟩; with_reducible rfl
            try simp only [Act.put, List.setIfInBounds_toArray, List.set_cons_zero, List.set_cons_succ]
            refine line_take (i := 33) (v := ?_) (by simp only [List.getElem?_toArray, List.getElem?_cons_succ, List.getElem?_cons_zero]; rfl) (by kernel_rfl) (by kernel_rfl) (by rfl) ?_ ?_
            rotate_left
            · intro wy hSw; (try dsimp only at hSw); go_simp; (try with_reducible rfl)
            try simp only [Act.put, List.setIfInBounds_toArray, List.set_cons_zero, List.set_cons_succ]
            refine line_take (i := 34) (v := ?_) (by simp only [List.getElem?_toArray, List.getElem?_cons_succ, List.getElem?_cons_zero]; rfl) (by kernel_rfl) (by kernel_rfl) (by rfl) ?_ ?_
            rotate_left
            · intro wy hSw; (try dsimp only at hSw); go_simp; (try with_reducible rfl)
            try simp only [Act.put, List.setIfInBounds_toArray, List.set_cons_zero, List.set_cons_succ]
            refine line_take (i := 35) (v := ?_) (by simp only [List.getElem?_toArray, List.getElem?_cons_succ, List.getElem?_cons_zero]; rfl) (by kernel_rfl) (by kernel_rfl) (by rfl) ?_ ?_
            rotate_left
            · intro wy hSw; (try dsimp only at hSw); go_simp; (try with_reducible rfl)
            try simp only [Act.put, List.setIfInBounds_toArray, List.set_cons_zero, List.set_cons_succ]
            refine Line.done (by kernel_rfl) ?_
            intro wz hSz
            have HZ := Lib.hid hSz
            clear hSz hkd
            go_wp2_with fail
            go_roundw
            case rel => exact ⟨j + 1, by go_num, by omega, HZ.out⟩
            case measure => simp [intOf]; omega
          · obtain rfl : j = f.length := by omega
            have hjj : ¬ (f.length : Int) < (f.length : Int) := by omega
            go_wp2
            go_meet
            exact HKr.out.only (cs' := []) (ls' := []) [] [] rfl rfl
  case rest =>
    as_aux_lemma =>
      have HK7 := Lib.hid hcut
      clear hcut HKq1 HC2 HFC hl1
      go_wp2_with fail
      refine (reduce_got _ len _ hl (HY.out _ HK7.out.base)).mono ?_
      rintro e z1 ⟨_, nc, xc, D, d, ws, rfl, hws, ⟨Ac, cc, rfl, ho, hlc⟩, ho2, hb⟩
      have HK8 := Lib.hid ((((HK7.out.below hb).put ho2.read).put ho.read).box nc (.slice Ac xc.length cc) 26)
      clear ho ho2 hb HK7
      have HC0 := Lib.hid (fun W (h0 : T W) (h1 : Ints W W.heap.size Ac xc) (h2 : Ints W W.heap.size D ws) => iRed.out W nc Ac xc cc D ws d h0 (Lib.hid h1) (Lib.hid h2) (by omega))
      have HC1 := Lib.hid (fun W (h1 : Ints W W.heap.size Ac xc) (h2 : Ints W W.heap.size D ws) => reduceS_any nc Ac xc cc D ws d W (Lib.hid h1) (Lib.hid h2) (by omega))
      have HRL := Lib.hid (fun h1 h2 => reduce_law (n := nc) (xs := xc) (ws := ws) h1 h2)
      have hl1 := reduceFn_len nc xc ws
      obtain ⟨nd, xd, bd, hr⟩ : ∃ n x b, reduceFn nc xc ws = (n, x, b) := ⟨_, _, _, rfl⟩
      rw [hr] at HC0 HC1 HRL hl1
      (try dsimp only at hl1)
      clear hr hlc hws
      go_wp2_with fail
      refine (HC0.out _ HK8.out.fact (HK8.out.list 0 rfl) (HK8.out.list 1 rfl)).mono ?_
      rintro e z2 ⟨Ad, cd, rfl, ho, hb⟩
      have HK9 := Lib.hid (((HK8.out.below hb).put ho.read).box nd (.slice Ad xd.length cd) 26)
      clear ho hb HK8 HC0
      obtain ⟨c10, c11⟩ := HK9.out.cell 1 rfl
      go_wp2_with fail
      refine (HC1.out _ (HK9.out.list 1 rfl) (HK9.out.list 2 rfl)).mono ?_
      rintro e z3 ⟨Ae, ce, rfl, ho, hb⟩
      have HKa := Lib.hid (((HK9.out.below hb).put ho.read).box nd (.slice Ae xd.length ce) 26)
      clear ho hb HK9 HC1 c10 c11
      go_upto_region 21 with (fail)
      generalize z3.alloc (.cells #[.int .i64 nd, .slice Ae xd.length ce] 26) = xw at HKa ⊢
      go_cut [164] (fun s164 wx => s164 = .bool false ∧ Kc T w wx [] [])
      case first =>
        as_aux_lemma =>
          have HSc := Lib.hid (fun W (h1 : Ints W W.heap.size Ac xc) => subS_any nc Ac xc cc W (Lib.hid h1))
          have HSe := Lib.hid (fun W (h1 : Ints W W.heap.size Ae xd) => subI_any nd Ae xd ce W (Lib.hid h1))
          obtain ⟨sc, hsc⟩ : ∃ b, isSub nc xc = b := ⟨_, rfl⟩
          obtain ⟨se, hse⟩ : ∃ b, isSub nd xd = b := ⟨_, rfl⟩
          rw [hsc] at HSc HRL
          rw [hse] at HSe HRL
          clear hsc hse
          obtain ⟨c10, c11⟩ := HKa.out.cell 1 rfl
          obtain ⟨c00, c01⟩ := HKa.out.cell 0 rfl
          go_wp2_with fail
          refine (eqS_yes nd Ad xd cd Ae ce _ (Lib.hid (HKa.out.list 1 rfl)) (Lib.hid (HKa.out.list 0 rfl)) (by omega)).mono ?_
          rintro e xq2 ⟨rfl, hb⟩
          have HKq2 := Lib.hid (HKa.out.below hb)
          clear hb c10 c11 c00 c01
          cases bd
          · skip
            go_wp2_with fail
            go_meet
            exact ⟨rfl, HKq2.out.only (cs' := []) (ls' := []) [] [] rfl rfl⟩
          · skip
            obtain ⟨c20, c21⟩ := HKq2.out.cell 2 rfl
            go_wp2_with fail
            refine (HSc.out _ (HKq2.out.list 2 rfl)).mono ?_
            rintro e xq3 ⟨rfl, hb⟩
            have HKq3 := Lib.hid (HKq2.out.below hb)
            clear hb c20 c21
            cases sc
            · skip
              go_wp2_with fail
              go_meet
              exact ⟨rfl, HKq3.out.only (cs' := []) (ls' := []) [] [] rfl rfl⟩
            · obtain rfl : se = true := by have h := HRL.out; simpa using h
              obtain ⟨c00, c01⟩ := HKq3.out.cell 0 rfl
              go_wp2_with fail
              refine (HSe.out _ (HKq3.out.list 0 rfl)).mono ?_
              rintro e xq4 ⟨rfl, hb⟩
              have HKq4 := Lib.hid (HKq3.out.below hb)
              clear hb c00 c01
              go_wp2_with fail
              go_meet
              exact ⟨rfl, HKq4.out.only (cs' := []) (ls' := []) [] [] rfl rfl⟩
      case rest =>
        as_aux_lemma =>
          obtain ⟨rfl, hK⟩ := hcut
          have HKb := Lib.hid hK
          clear hK HKa HRL hl1
          go_wp2_with fail
          refine (hull_got _ len _ hl (HY.out _ HKb.out.base)).mono ?_
          rintro e u1 ⟨_, ni, xi, rfl, ⟨Ai, ci, rfl, ho, hli⟩, hb⟩
          have HKc := Lib.hid (((HKb.out.below hb).put ho.read).box ni (.slice Ai xi.length ci) 26)
          clear ho hb HKb
          have HC0 := Lib.hid (fun W (h0 : T W) (h1 : Ints W W.heap.size Ai xi) => iHull.out W ni Ai xi ci h0 (Lib.hid h1))
          have HC1 := Lib.hid (fun W (h1 : Ints W W.heap.size Ai xi) => hullS_any ni Ai xi ci W (Lib.hid h1))
          have HHF := Lib.hid (fun h => hull_facts (n := ni) (xs := xi) h)
          have hl1 := hullFn_len ni xi
          have hl2 := hli.2
          obtain ⟨nl, xl, bh, hr⟩ : ∃ n x b, hullFn ni xi = (n, x, b) := ⟨_, _, _, rfl⟩
          rw [hr] at HC0 HC1 HHF hl1
          (try dsimp only at hl1)
          clear hr hli
          go_wp2_with fail
          refine (HC0.out _ HKc.out.fact (HKc.out.list 0 rfl)).mono ?_
          rintro e u2 ⟨Aj, cj, rfl, ho, hb⟩
          have HKd := Lib.hid (((HKc.out.below hb).put ho.read).box nl (.slice Aj xl.length cj) 26)
          clear ho hb HKc HC0
          obtain ⟨c10, c11⟩ := HKd.out.cell 1 rfl
          go_wp2_with fail
          refine (HC1.out _ (HKd.out.list 1 rfl)).mono ?_
          rintro e u3 ⟨Al, cl, rfl, ho, hb⟩
          have HKe := Lib.hid (((HKd.out.below hb).put ho.read).box nl (.slice Al xl.length cl) 26)
          clear ho hb HKd HC1 c10 c11
          go_upto_region 26 with (fail)
          generalize u3.alloc (.cells #[.int .i64 nl, .slice Al xl.length cl] 26) = xw at HKe ⊢
          go_cut [210] (fun s210 wx => s210 = .bool false ∧ Kc T w wx [] [])
          case first =>
            have HE := Lib.hid (fun W (h1 : Ints W W.heap.size Aj xl) (h2 : Ints W W.heap.size Al xl) => eqS_yes nl Aj xl cj Al cl W (Lib.hid h1) (Lib.hid h2) (by omega))
            have HIl := Lib.hid (fun W (h1 : Ints W W.heap.size Al xl) => incI_any nl Al xl cl W (Lib.hid h1))
            have HSi := Lib.hid (fun W (h1 : Ints W W.heap.size Ai xi) => subS_any ni Ai xi ci W (Lib.hid h1))
            have HSl := Lib.hid (fun W (h1 : Ints W W.heap.size Al xl) => subI_any nl Al xl cl W (Lib.hid h1))
            have HIi := Lib.hid (fun W (h1 : Ints W W.heap.size Ai xi) => incS_any ni Ai xi ci W (Lib.hid h1))
            have HE2 := Lib.hid (fun W (h1 : Ints W W.heap.size Ai xi) (h2 : Ints W W.heap.size Al xl) => eqS_any ni Ai xi ci nl Al xl cl W (Lib.hid h1) (Lib.hid h2) (by omega))
            have hkd := HKe.out.drew
            cases bh
            · skip
              as_aux_lemma =>
                refine wp_region_line (S := (fun w' => Kc T w w' [(u3.heap.size, nl, .slice Al xl.length cl), (u2.heap.size, nl, .slice Aj xl.length cj), (u1.heap.size, ni, .slice Ai xi.length ci)] [(Al, xl), (Aj, xl), (Ai, xi)])) (by kernel_rfl) (by kernel_rfl) ?_ ?_
                · exact hkd
                refine line_take (i := 0) (v := ?_) (by simp only [List.getElem?_toArray, List.getElem?_cons_succ, List.getElem?_cons_zero]; rfl) (by kernel_rfl) (by kernel_rfl) (by rfl) ?_ ?_
                rotate_left
                · intro wy hSw; (try dsimp only at hSw); go_simp; (try with_reducible rfl)
                try simp only [Act.put, List.setIfInBounds_toArray, List.set_cons_zero, List.set_cons_succ]
                refine line_take (i := 1) (v := ?_) (by simp only [List.getElem?_toArray, List.getElem?_cons_succ, List.getElem?_cons_zero]; rfl) (by kernel_rfl) (by kernel_rfl) (by rfl) ?_ ?_
                rotate_left
                · intro wy hSw; (try dsimp only at hSw); go_simp; (try with_reducible rfl)
                try simp only [Act.put, List.setIfInBounds_toArray, List.set_cons_zero, List.set_cons_succ]
                refine line_take (i := 2) (v := ?_) (by simp only [List.getElem?_toArray, List.getElem?_cons_succ, List.getElem?_cons_zero]; rfl) (by kernel_rfl) (by kernel_rfl) (by rfl) ?_ ?_
                rotate_left
                · intro wy hSw; (try dsimp only at hSw); go_simp; (try with_reducible rfl)
                try simp only [Act.put, List.setIfInBounds_toArray, List.set_cons_zero, List.set_cons_succ]
                refine line_take (i := 3) (v := ?_) (by simp only [List.getElem?_toArray, List.getElem?_cons_succ, List.getElem?_cons_zero]; rfl) (by kernel_rfl) (by kernel_rfl) (by rfl) ?_ ?_
                rotate_left
                · intro wy hSw; (try dsimp only at hSw); go_simp; (try with_reducible rfl)
                try simp only [Act.put, List.setIfInBounds_toArray, List.set_cons_zero, List.set_cons_succ]
                refine line_take (i := 4) (v := ?_) (by simp only [List.getElem?_toArray, List.getElem?_cons_succ, List.getElem?_cons_zero]; rfl) (by kernel_rfl) (by kernel_rfl) (by rfl) ?_ ?_
                rotate_left
                · intro wy hSw; (try dsimp only at hSw); obtain ⟨c00, c01⟩ := hSw.cell 0 rfl; obtain ⟨c10, c11⟩ := hSw.cell 1 rfl; obtain ⟨c20, c21⟩ := hSw.cell 2 rfl; go_simp; (try with_reducible rfl)
                try simp only [Act.put, List.setIfInBounds_toArray, List.set_cons_zero, List.set_cons_succ]
                refine line_take (i := 5) (v := ?_) (by simp only [List.getElem?_toArray, List.getElem?_cons_succ, List.getElem?_cons_zero]; rfl) (by kernel_rfl) (by kernel_rfl) (by rfl) ?_ ?_
                rotate_left
                · intro wy hSw; (try dsimp only at hSw); obtain ⟨c00, c01⟩ := hSw.cell 0 rfl; obtain ⟨c10, c11⟩ := hSw.cell 1 rfl; obtain ⟨c20, c21⟩ := hSw.cell 2 rfl; go_simp; (try with_reducible rfl)
                try simp only [Act.put, List.setIfInBounds_toArray, List.set_cons_zero, List.set_cons_succ]
                refine line_call (i := 6) (v := ?_) ?_ ?_ (by simp only [List.getElem?_toArray, List.getElem?_cons_succ, List.getElem?_cons_zero]; rfl) (by kernel_rfl) (by kernel_rfl) (by rfl) ?hc7 ?hv7 ?hn7
                case hv7 => intro wy hSw; go_simp; (try first | with_reducible rfl | (constructor <;> with_reducible rfl))
                case hc7 => intro wy hSw; (try dsimp only at hSw); refine Calls.mono (by with_reducible exact HE.out _ (hSw.list 1 rfl) (hSw.list 0 rfl)) ?_; rintro e wq ⟨rfl, hb⟩; refine ⟨?_, hSw.below hb⟩; with_reducible rfl
                try simp only [Act.put, List.setIfInBounds_toArray, List.set_cons_zero, List.set_cons_succ]
                refine line_take (i := 7) (v := ?_) (by simp only [List.getElem?_toArray, List.getElem?_cons_succ, List.getElem?_cons_zero]; rfl) (by kernel_rfl) (by kernel_rfl) (by rfl) ?_ ?_
                rotate_left
                · intro wy hSw; (try dsimp only at hSw); go_simp; (try with_reducible rfl)
                try simp only [Act.put, List.setIfInBounds_toArray, List.set_cons_zero, List.set_cons_succ]
                refine line_take (i := 8) (v := ?_) (by simp only [List.getElem?_toArray, List.getElem?_cons_succ, List.getElem?_cons_zero]; rfl) (by kernel_rfl) (by kernel_rfl) (by rfl) ?_ ?_
                rotate_left
                · intro wy hSw; (try dsimp only at hSw); go_simp; (try with_reducible rfl)
                try simp only [Act.put, List.setIfInBounds_toArray, List.set_cons_zero, List.set_cons_succ]
                refine line_take (i := 9) (v := ?_) (by simp only [List.getElem?_toArray, List.getElem?_cons_succ, List.getElem?_cons_zero]; rfl) (by kernel_rfl) (by kernel_rfl) (by rfl) ?_ ?_
                rotate_left
                · intro wy hSw; (try dsimp only at hSw); go_simp; (try with_reducible rfl)
                try simp only [Act.put, List.setIfInBounds_toArray, List.set_cons_zero, List.set_cons_succ]
                refine line_take (i := 10) (v := ?_) (by simp only [List.getElem?_toArray, List.getElem?_cons_succ, List.getElem?_cons_zero]; rfl) (by kernel_rfl) (by kernel_rfl) (by rfl) ?_ ?_
                rotate_left
                · intro wy hSw; (try dsimp only at hSw); go_simp; (try with_reducible rfl)
                try simp only [Act.put, List.setIfInBounds_toArray, List.set_cons_zero, List.set_cons_succ]
                refine line_take (i := 11) (v := ?_) (by simp only [List.getElem?_toArray, List.getElem?_cons_succ, List.getElem?_cons_zero]; rfl) (by kernel_rfl) (by kernel_rfl) (by rfl) ?_ ?_
                rotate_left
                · intro wy hSw; (try dsimp only at hSw); go_simp; (try with_reducible rfl)
                try simp only [Act.put, List.setIfInBounds_toArray, List.set_cons_zero, List.set_cons_succ]
                refine line_skip (i := 12) (by simp only [List.getElem?_toArray, List.getElem?_cons_succ, List.getElem?_cons_zero]; rfl) (by kernel_rfl) (by kernel_rfl) (by rfl) ?_
                try simp only [Act.put, List.setIfInBounds_toArray, List.set_cons_zero, List.set_cons_succ]
                refine line_skip (i := 13) (by simp only [List.getElem?_toArray, List.getElem?_cons_succ, List.getElem?_cons_zero]; rfl) (by kernel_rfl) (by kernel_rfl) (by rfl) ?_
                try simp only [Act.put, List.setIfInBounds_toArray, List.set_cons_zero, List.set_cons_succ]
                refine line_skip (i := 14) (by simp only [List.getElem?_toArray, List.getElem?_cons_succ, List.getElem?_cons_zero]; rfl) (by kernel_rfl) (by kernel_rfl) (by rfl) ?_
                try simp only [Act.put, List.setIfInBounds_toArray, List.set_cons_zero, List.set_cons_succ]
                refine line_skip (i := 15) (by simp only [List.getElem?_toArray, List.getElem?_cons_succ, List.getElem?_cons_zero]; rfl) (by kernel_rfl) (by kernel_rfl) (by rfl) ?_
                try simp only [Act.put, List.setIfInBounds_toArray, List.set_cons_zero, List.set_cons_succ]
                refine line_skip (i := 16) (by simp only [List.getElem?_toArray, List.getElem?_cons_succ, List.getElem?_cons_zero]; rfl) (by kernel_rfl) (by kernel_rfl) (by rfl) ?_
                try simp only [Act.put, List.setIfInBounds_toArray, List.set_cons_zero, List.set_cons_succ]
                refine line_skip (i := 17) (by simp only [List.getElem?_toArray, List.getElem?_cons_succ, List.getElem?_cons_zero]; rfl) (by kernel_rfl) (by kernel_rfl) (by rfl) ?_
                try simp only [Act.put, List.setIfInBounds_toArray, List.set_cons_zero, List.set_cons_succ]
                refine line_skip (i := 18) (by simp only [List.getElem?_toArray, List.getElem?_cons_succ, List.getElem?_cons_zero]; rfl) (by kernel_rfl) (by kernel_rfl) (by rfl) ?_
                try simp only [Act.put, List.setIfInBounds_toArray, List.set_cons_zero, List.set_cons_succ]
                refine line_skip (i := 19) (by simp only [List.getElem?_toArray, List.getElem?_cons_succ, List.getElem?_cons_zero]; rfl) (by kernel_rfl) (by kernel_rfl) (by rfl) ?_
                try simp only [Act.put, List.setIfInBounds_toArray, List.set_cons_zero, List.set_cons_succ]
                refine line_skip (i := 20) (by simp only [List.getElem?_toArray, List.getElem?_cons_succ, List.getElem?_cons_zero]; rfl) (by kernel_rfl) (by kernel_rfl) (by rfl) ?_
                try simp only [Act.put, List.setIfInBounds_toArray, List.set_cons_zero, List.set_cons_succ]
                refine line_skip (i := 21) (by simp only [List.getElem?_toArray, List.getElem?_cons_succ, List.getElem?_cons_zero]; rfl) (by kernel_rfl) (by kernel_rfl) (by rfl) ?_
                try simp only [Act.put, List.setIfInBounds_toArray, List.set_cons_zero, List.set_cons_succ]
                refine line_skip (i := 22) (by simp only [List.getElem?_toArray, List.getElem?_cons_succ, List.getElem?_cons_zero]; rfl) (by kernel_rfl) (by kernel_rfl) (by rfl) ?_
                try simp only [Act.put, List.setIfInBounds_toArray, List.set_cons_zero, List.set_cons_succ]
                refine line_skip (i := 23) (by simp only [List.getElem?_toArray, List.getElem?_cons_succ, List.getElem?_cons_zero]; rfl) (by kernel_rfl) (by kernel_rfl) (by rfl) ?_
                try simp only [Act.put, List.setIfInBounds_toArray, List.set_cons_zero, List.set_cons_succ]
                refine line_skip (i := 24) (by simp only [List.getElem?_toArray, List.getElem?_cons_succ, List.getElem?_cons_zero]; rfl) (by kernel_rfl) (by kernel_rfl) (by rfl) ?_
                try simp only [Act.put, List.setIfInBounds_toArray, List.set_cons_zero, List.set_cons_succ]
                refine line_skip (i := 25) (by simp only [List.getElem?_toArray, List.getElem?_cons_succ, List.getElem?_cons_zero]; rfl) (by kernel_rfl) (by kernel_rfl) (by rfl) ?_
                try simp only [Act.put, List.setIfInBounds_toArray, List.set_cons_zero, List.set_cons_succ]
                refine line_skip (i := 26) (by simp only [List.getElem?_toArray, List.getElem?_cons_succ, List.getElem?_cons_zero]; rfl) (by kernel_rfl) (by kernel_rfl) (by rfl) ?_
                try simp only [Act.put, List.setIfInBounds_toArray, List.set_cons_zero, List.set_cons_succ]
                refine line_skip (i := 27) (by simp only [List.getElem?_toArray, List.getElem?_cons_succ, List.getElem?_cons_zero]; rfl) (by kernel_rfl) (by kernel_rfl) (by rfl) ?_
                try simp only [Act.put, List.setIfInBounds_toArray, List.set_cons_zero, List.set_cons_succ]
                refine line_skip (i := 28) (by simp only [List.getElem?_toArray, List.getElem?_cons_succ, List.getElem?_cons_zero]; rfl) (by kernel_rfl) (by kernel_rfl) (by rfl) ?_
                try simp only [Act.put, List.setIfInBounds_toArray, List.set_cons_zero, List.set_cons_succ]
                refine line_skip (i := 29) (by simp only [List.getElem?_toArray, List.getElem?_cons_succ, List.getElem?_cons_zero]; rfl) (by kernel_rfl) (by kernel_rfl) (by rfl) ?_
                try simp only [Act.put, List.setIfInBounds_toArray, List.set_cons_zero, List.set_cons_succ]
                refine line_skip (i := 30) (by simp only [List.getElem?_toArray, List.getElem?_cons_succ, List.getElem?_cons_zero]; rfl) (by kernel_rfl) (by kernel_rfl) (by rfl) ?_
                try simp only [Act.put, List.setIfInBounds_toArray, List.set_cons_zero, List.set_cons_succ]
                refine line_skip (i := 31) (by simp only [List.getElem?_toArray, List.getElem?_cons_succ, List.getElem?_cons_zero]; rfl) (by kernel_rfl) (by kernel_rfl) (by rfl) ?_
                try simp only [Act.put, List.setIfInBounds_toArray, List.set_cons_zero, List.set_cons_succ]
                refine line_take (i := 32) (v := ?_) (by simp only [List.getElem?_toArray, List.getElem?_cons_succ, List.getElem?_cons_zero]; rfl) (by kernel_rfl) (by kernel_rfl) (by rfl) ?_ ?_
                rotate_left
                · intro wy hSw; (try dsimp only at hSw); go_simp; (try with_reducible rfl)
                try simp only [Act.put, List.setIfInBounds_toArray, List.set_cons_zero, List.set_cons_succ]
                refine line_take (i := 33) (v := ?_) (by simp only [List.getElem?_toArray, List.getElem?_cons_succ, List.getElem?_cons_zero]; rfl) (by kernel_rfl) (by kernel_rfl) (by rfl) ?_ ?_
                rotate_left
                · intro wy hSw; (try dsimp only at hSw); go_simp; (try with_reducible rfl)
                try simp only [Act.put, List.setIfInBounds_toArray, List.set_cons_zero, List.set_cons_succ]
                refine Line.done (by kernel_rfl) ?_
                intro wz hSz
                go_wp2_with fail
                go_meet
                exact ⟨rfl, hSz.only (cs' := []) (ls' := []) [] [] rfl rfl⟩
            · obtain ⟨hinc, hsub, hii⟩ := HHF.out (by first | trivial | rfl)
              (try dsimp only at hinc hsub hii)
              rw [hinc] at HIl
              rw [hii] at HIi
              generalize eqFn ni xi nl xl = qe at HIi HE2
              clear hinc hii HHF
              obtain ⟨si, hsi⟩ : ∃ b, isSub ni xi = b := ⟨_, rfl⟩
              obtain ⟨sl, hsl⟩ : ∃ b, isSub nl xl = b := ⟨_, rfl⟩
              rw [hsi] at HSi hsub
              rw [hsl] at HSl hsub
              clear hsi hsl
              cases si
              · clear hsub
                as_aux_lemma =>
                  refine wp_region_line (S := (fun w' => Kc T w w' [(u3.heap.size, nl, .slice Al xl.length cl), (u2.heap.size, nl, .slice Aj xl.length cj), (u1.heap.size, ni, .slice Ai xi.length ci)] [(Al, xl), (Aj, xl), (Ai, xi)])) (by kernel_rfl) (by kernel_rfl) ?_ ?_
                  · exact hkd
                  refine line_take (i := 0) (v := ?_) (by simp only [List.getElem?_toArray, List.getElem?_cons_succ, List.getElem?_cons_zero]; rfl) (by kernel_rfl) (by kernel_rfl) (by rfl) ?_ ?_
                  rotate_left
                  · intro wy hSw; (try dsimp only at hSw); go_simp; (try with_reducible rfl)
                  try simp only [Act.put, List.setIfInBounds_toArray, List.set_cons_zero, List.set_cons_succ]
                  refine line_take (i := 1) (v := ?_) (by simp only [List.getElem?_toArray, List.getElem?_cons_succ, List.getElem?_cons_zero]; rfl) (by kernel_rfl) (by kernel_rfl) (by rfl) ?_ ?_
                  rotate_left
                  · intro wy hSw; (try dsimp only at hSw); go_simp; (try with_reducible rfl)
                  try simp only [Act.put, List.setIfInBounds_toArray, List.set_cons_zero, List.set_cons_succ]
                  refine line_take (i := 2) (v := ?_) (by simp only [List.getElem?_toArray, List.getElem?_cons_succ, List.getElem?_cons_zero]; rfl) (by kernel_rfl) (by kernel_rfl) (by rfl) ?_ ?_
                  rotate_left
                  · intro wy hSw; (try dsimp only at hSw); go_simp; (try with_reducible rfl)
                  try simp only [Act.put, List.setIfInBounds_toArray, List.set_cons_zero, List.set_cons_succ]
                  refine line_take (i := 3) (v := ?_) (by simp only [List.getElem?_toArray, List.getElem?_cons_succ, List.getElem?_cons_zero]; rfl) (by kernel_rfl) (by kernel_rfl) (by rfl) ?_ ?_
                  rotate_left
                  · intro wy hSw; (try dsimp only at hSw); go_simp; (try with_reducible rfl)
                  try simp only [Act.put, List.setIfInBounds_toArray, List.set_cons_zero, List.set_cons_succ]
                  refine line_take (i := 4) (v := ?_) (by simp only [List.getElem?_toArray, List.getElem?_cons_succ, List.getElem?_cons_zero]; rfl) (by kernel_rfl) (by kernel_rfl) (by rfl) ?_ ?_
                  rotate_left
                  · intro wy hSw; (try dsimp only at hSw); obtain ⟨c00, c01⟩ := hSw.cell 0 rfl; obtain ⟨c10, c11⟩ := hSw.cell 1 rfl; obtain ⟨c20, c21⟩ := hSw.cell 2 rfl; go_simp; (try with_reducible rfl)
                  try simp only [Act.put, List.setIfInBounds_toArray, List.set_cons_zero, List.set_cons_succ]
                  refine line_take (i := 5) (v := ?_) (by simp only [List.getElem?_toArray, List.getElem?_cons_succ, List.getElem?_cons_zero]; rfl) (by kernel_rfl) (by kernel_rfl) (by rfl) ?_ ?_
                  rotate_left
                  · intro wy hSw; (try dsimp only at hSw); obtain ⟨c00, c01⟩ := hSw.cell 0 rfl; obtain ⟨c10, c11⟩ := hSw.cell 1 rfl; obtain ⟨c20, c21⟩ := hSw.cell 2 rfl; go_simp; (try with_reducible rfl)
                  try simp only [Act.put, List.setIfInBounds_toArray, List.set_cons_zero, List.set_cons_succ]
                  refine line_call (i := 6) (v := ?_) ?_ ?_ (by simp only [List.getElem?_toArray, List.getElem?_cons_succ, List.getElem?_cons_zero]; rfl) (by kernel_rfl) (by kernel_rfl) (by rfl) ?hc8 ?hv8 ?hn8
                  case hv8 => intro wy hSw; go_simp; (try first | with_reducible rfl | (constructor <;> with_reducible rfl))
                  case hc8 => intro wy hSw; (try dsimp only at hSw); refine Calls.mono (by with_reducible exact HE.out _ (hSw.list 1 rfl) (hSw.list 0 rfl)) ?_; rintro e wq ⟨rfl, hb⟩; refine ⟨?_, hSw.below hb⟩; with_reducible rfl
                  try simp only [Act.put, List.setIfInBounds_toArray, List.set_cons_zero, List.set_cons_succ]
                  refine line_take (i := 7) (v := ?_) (by simp only [List.getElem?_toArray, List.getElem?_cons_succ, List.getElem?_cons_zero]; rfl) (by kernel_rfl) (by kernel_rfl) (by rfl) ?_ ?_
                  rotate_left
                  · intro wy hSw; (try dsimp only at hSw); go_simp; (try with_reducible rfl)
                  try simp only [Act.put, List.setIfInBounds_toArray, List.set_cons_zero, List.set_cons_succ]
                  refine line_take (i := 8) (v := ?_) (by simp only [List.getElem?_toArray, List.getElem?_cons_succ, List.getElem?_cons_zero]; rfl) (by kernel_rfl) (by kernel_rfl) (by rfl) ?_ ?_
                  rotate_left
                  · intro wy hSw; (try dsimp only at hSw); go_simp; (try with_reducible rfl)
                  try simp only [Act.put, List.setIfInBounds_toArray, List.set_cons_zero, List.set_cons_succ]
                  refine line_take (i := 9) (v := ?_) (by simp only [List.getElem?_toArray, List.getElem?_cons_succ, List.getElem?_cons_zero]; rfl) (by kernel_rfl) (by kernel_rfl) (by rfl) ?_ ?_
                  rotate_left
                  · intro wy hSw; (try dsimp only at hSw); go_simp; (try with_reducible rfl)
                  try simp only [Act.put, List.setIfInBounds_toArray, List.set_cons_zero, List.set_cons_succ]
                  refine line_take (i := 10) (v := ?_) (by simp only [List.getElem?_toArray, List.getElem?_cons_succ, List.getElem?_cons_zero]; rfl) (by kernel_rfl) (by kernel_rfl) (by rfl) ?_ ?_
                  rotate_left
                  · intro wy hSw; (try dsimp only at hSw); go_simp; (try with_reducible rfl)
                  try simp only [Act.put, List.setIfInBounds_toArray, List.set_cons_zero, List.set_cons_succ]
                  refine line_take (i := 11) (v := ?_) (by simp only [List.getElem?_toArray, List.getElem?_cons_succ, List.getElem?_cons_zero]; rfl) (by kernel_rfl) (by kernel_rfl) (by rfl) ?_ ?_
                  rotate_left
                  · intro wy hSw; (try dsimp only at hSw); go_simp; (try with_reducible rfl)
                  try simp only [Act.put, List.setIfInBounds_toArray, List.set_cons_zero, List.set_cons_succ]
                  refine line_take (i := 12) (v := ?_) (by simp only [List.getElem?_toArray, List.getElem?_cons_succ, List.getElem?_cons_zero]; rfl) (by kernel_rfl) (by kernel_rfl) (by rfl) ?_ ?_
                  rotate_left
                  · intro wy hSw; (try dsimp only at hSw); obtain ⟨c00, c01⟩ := hSw.cell 0 rfl; obtain ⟨c10, c11⟩ := hSw.cell 1 rfl; obtain ⟨c20, c21⟩ := hSw.cell 2 rfl; go_simp; (try with_reducible rfl)
                  try simp only [Act.put, List.setIfInBounds_toArray, List.set_cons_zero, List.set_cons_succ]
                  refine line_call (i := 13) (v := ?_) ?_ ?_ (by simp only [List.getElem?_toArray, List.getElem?_cons_succ, List.getElem?_cons_zero]; rfl) (by kernel_rfl) (by kernel_rfl) (by rfl) ?hc9 ?hv9 ?hn9
                  case hv9 => intro wy hSw; go_simp; (try first | with_reducible rfl | (constructor <;> with_reducible rfl))
                  case hc9 => intro wy hSw; (try dsimp only at hSw); refine Calls.mono (by with_reducible exact HIl.out _ (hSw.list 0 rfl)) ?_; rintro e wq ⟨rfl, hb⟩; refine ⟨?_, hSw.below hb⟩; with_reducible rfl
                  try simp only [Act.put, List.setIfInBounds_toArray, List.set_cons_zero, List.set_cons_succ]
                  refine line_take (i := 14) (v := ?_) (by simp only [List.getElem?_toArray, List.getElem?_cons_succ, List.getElem?_cons_zero]; rfl) (by kernel_rfl) (by kernel_rfl) (by rfl) ?_ ?_
                  rotate_left
                  · intro wy hSw; (try dsimp only at hSw); go_simp; (try with_reducible rfl)
                  try simp only [Act.put, List.setIfInBounds_toArray, List.set_cons_zero, List.set_cons_succ]
                  refine line_take (i := 15) (v := ?_) (by simp only [List.getElem?_toArray, List.getElem?_cons_succ, List.getElem?_cons_zero]; rfl) (by kernel_rfl) (by kernel_rfl) (by rfl) ?_ ?_
                  rotate_left
                  · intro wy hSw; (try dsimp only at hSw); go_simp; (try with_reducible rfl)
                  try simp only [Act.put, List.setIfInBounds_toArray, List.set_cons_zero, List.set_cons_succ]
                  refine line_take (i := 16) (v := ?_) (by simp only [List.getElem?_toArray, List.getElem?_cons_succ, List.getElem?_cons_zero]; rfl) (by kernel_rfl) (by kernel_rfl) (by rfl) ?_ ?_
                  rotate_left
                  · intro wy hSw; (try dsimp only at hSw); obtain ⟨c00, c01⟩ := hSw.cell 0 rfl; obtain ⟨c10, c11⟩ := hSw.cell 1 rfl; obtain ⟨c20, c21⟩ := hSw.cell 2 rfl; go_simp; (try with_reducible rfl)
                  try simp only [Act.put, List.setIfInBounds_toArray, List.set_cons_zero, List.set_cons_succ]
                  refine line_call (i := 17) (v := ?_) ?_ ?_ (by simp only [List.getElem?_toArray, List.getElem?_cons_succ, List.getElem?_cons_zero]; rfl) (by kernel_rfl) (by kernel_rfl) (by rfl) ?hc10 ?hv10 ?hn10
                  case hv10 => intro wy hSw; go_simp; (try first | with_reducible rfl | (constructor <;> with_reducible rfl))
                  case hc10 => intro wy hSw; (try dsimp only at hSw); refine Calls.mono (by with_reducible exact HSi.out _ (hSw.list 2 rfl)) ?_; rintro e wq ⟨rfl, hb⟩; refine ⟨?_, hSw.below hb⟩; with_reducible rfl
                  try simp only [Act.put, List.setIfInBounds_toArray, List.set_cons_zero, List.set_cons_succ]
                  refine line_take (i := 18) (v := ?_) (by simp only [List.getElem?_toArray, List.getElem?_cons_succ, List.getElem?_cons_zero]; rfl) (by kernel_rfl) (by kernel_rfl) (by rfl) ?_ ?_
                  rotate_left
                  · intro wy hSw; (try dsimp only at hSw); go_simp; (try with_reducible rfl)
                  try simp only [Act.put, List.setIfInBounds_toArray, List.set_cons_zero, List.set_cons_succ]
                  refine line_skip (i := 19) (by simp only [List.getElem?_toArray, List.getElem?_cons_succ, List.getElem?_cons_zero]; rfl) (by kernel_rfl) (by kernel_rfl) (by rfl) ?_
                  try simp only [Act.put, List.setIfInBounds_toArray, List.set_cons_zero, List.set_cons_succ]
                  refine line_skip (i := 20) (by simp only [List.getElem?_toArray, List.getElem?_cons_succ, List.getElem?_cons_zero]; rfl) (by kernel_rfl) (by kernel_rfl) (by rfl) ?_
                  try simp only [Act.put, List.setIfInBounds_toArray, List.set_cons_zero, List.set_cons_succ]
                  refine line_skip (i := 21) (by simp only [List.getElem?_toArray, List.getElem?_cons_succ, List.getElem?_cons_zero]; rfl) (by kernel_rfl) (by kernel_rfl) (by rfl) ?_
                  try simp only [Act.put, List.setIfInBounds_toArray, List.set_cons_zero, List.set_cons_succ]
                  refine line_take (i := 22) (v := ?_) (by simp only [List.getElem?_toArray, List.getElem?_cons_succ, List.getElem?_cons_zero]; rfl) (by kernel_rfl) (by kernel_rfl) (by rfl) ?_ ?_
                  rotate_left
                  · intro wy hSw; (try dsimp only at hSw); go_simp; (try with_reducible rfl)
                  try simp only [Act.put, List.setIfInBounds_toArray, List.set_cons_zero, List.set_cons_succ]
                  refine line_take (i := 23) (v := ?_) (by simp only [List.getElem?_toArray, List.getElem?_cons_succ, List.getElem?_cons_zero]; rfl) (by kernel_rfl) (by kernel_rfl) (by rfl) ?_ ?_
                  rotate_left
                  · intro wy hSw; (try dsimp only at hSw); go_simp; (try with_reducible rfl)
                  try simp only [Act.put, List.setIfInBounds_toArray, List.set_cons_zero, List.set_cons_succ]
                  refine line_take (i := 24) (v := ?_) (by simp only [List.getElem?_toArray, List.getElem?_cons_succ, List.getElem?_cons_zero]; rfl) (by kernel_rfl) (by kernel_rfl) (by rfl) ?_ ?_
                  rotate_left
                  · intro wy hSw; (try dsimp only at hSw); go_simp; (try with_reducible rfl)
                  try simp only [Act.put, List.setIfInBounds_toArray, List.set_cons_zero, List.set_cons_succ]
                  refine line_take (i := 25) (v := ?_) (by simp only [List.getElem?_toArray, List.getElem?_cons_succ, List.getElem?_cons_zero]; rfl) (by kernel_rfl) (by kernel_rfl) (by rfl) ?_ ?_
                  rotate_left
                  · intro wy hSw; (try dsimp only at hSw); obtain ⟨c00, c01⟩ := hSw.cell 0 rfl; obtain ⟨c10, c11⟩ := hSw.cell 1 rfl; obtain ⟨c20, c21⟩ := hSw.cell 2 rfl; go_simp; (try with_reducible rfl)
                  try simp only [Act.put, List.setIfInBounds_toArray, List.set_cons_zero, List.set_cons_succ]
                  refine line_call (i := 26) (v := ?_) ?_ ?_ (by simp only [List.getElem?_toArray, List.getElem?_cons_succ, List.getElem?_cons_zero]; rfl) (by kernel_rfl) (by kernel_rfl) (by rfl) ?hc11 ?hv11 ?hn11
                  case hv11 => intro wy hSw; go_simp; (try first | with_reducible rfl | (constructor <;> with_reducible rfl))
                  case hc11 => intro wy hSw; (try dsimp only at hSw); refine Calls.mono (by with_reducible exact HIi.out _ (hSw.list 2 rfl)) ?_; rintro e wq ⟨rfl, hb⟩; refine ⟨?_, hSw.below hb⟩; with_reducible rfl
                  try simp only [Act.put, List.setIfInBounds_toArray, List.set_cons_zero, List.set_cons_succ]
                  refine line_take (i := 27) (v := ?_) (by simp only [List.getElem?_toArray, List.getElem?_cons_succ, List.getElem?_cons_zero]; rfl) (by kernel_rfl) (by kernel_rfl) (by rfl) ?_ ?_
                  rotate_left
                  · intro wy hSw; (try dsimp only at hSw); obtain ⟨c00, c01⟩ := hSw.cell 0 rfl; obtain ⟨c10, c11⟩ := hSw.cell 1 rfl; obtain ⟨c20, c21⟩ := hSw.cell 2 rfl; go_simp; (try with_reducible rfl)
                  try simp only [Act.put, List.setIfInBounds_toArray, List.set_cons_zero, List.set_cons_succ]
                  refine line_take (i := 28) (v := ?_) (by simp only [List.getElem?_toArray, List.getElem?_cons_succ, List.getElem?_cons_zero]; rfl) (by kernel_rfl) (by kernel_rfl) (by rfl) ?_ ?_
                  rotate_left
                  · intro wy hSw; (try dsimp only at hSw); obtain ⟨c00, c01⟩ := hSw.cell 0 rfl; obtain ⟨c10, c11⟩ := hSw.cell 1 rfl; obtain ⟨c20, c21⟩ := hSw.cell 2 rfl; go_simp; (try with_reducible rfl)
                  try simp only [Act.put, List.setIfInBounds_toArray, List.set_cons_zero, List.set_cons_succ]
                  refine line_call (i := 29) (v := ?_) ?_ ?_ (by simp only [List.getElem?_toArray, List.getElem?_cons_succ, List.getElem?_cons_zero]; rfl) (by kernel_rfl) (by kernel_rfl) (by rfl) ?hc12 ?hv12 ?hn12
                  case hv12 => intro wy hSw; go_simp; (try first | with_reducible rfl | (constructor <;> with_reducible rfl))
                  case hc12 => intro wy hSw; (try dsimp only at hSw); refine Calls.mono (by with_reducible exact HE2.out _ (hSw.list 2 rfl) (hSw.list 0 rfl)) ?_; rintro e wq ⟨rfl, hb⟩; refine ⟨?_, hSw.below hb⟩; with_reducible rfl
                  try simp only [Act.put, List.setIfInBounds_toArray, List.set_cons_zero, List.set_cons_succ]
                  refine line_take (i := 30) (v := ?_) (by simp only [List.getElem?_toArray, List.getElem?_cons_succ, List.getElem?_cons_zero]; rfl) (by kernel_rfl) (by kernel_rfl) (by rfl) ?_ ?_
                  rotate_left
                  · intro wy hSw; (try dsimp only at hSw); go_simp; (try with_reducible rfl)
                  try simp only [Act.put, List.setIfInBounds_toArray, List.set_cons_zero, List.set_cons_succ]
                  refine line_take (i := 31) (v := ?_) (by simp only [List.getElem?_toArray, List.getElem?_cons_succ, List.getElem?_cons_zero]; rfl) (by kernel_rfl) (by kernel_rfl) (by rfl) ?_ ?_
                  rotate_left
                  · intro wy hSw; (try dsimp only at hSw); go_simp; (try with_reducible rfl)
                  try simp only [Act.put, List.setIfInBounds_toArray, List.set_cons_zero, List.set_cons_succ]
                  refine line_take (i := 32) (v := ?_) (by simp only [List.getElem?_toArray, List.getElem?_cons_succ, List.getElem?_cons_zero]; rfl) (by kernel_rfl) (by kernel_rfl) (by rfl) ?_ ?_
                  rotate_left
                  · intro wy hSw; (try dsimp only at hSw); go_simp; (try with_reducible rfl)
                  try simp only [Act.put, List.setIfInBounds_toArray, List.set_cons_zero, List.set_cons_succ]
                  refine line_take (i := 33) (v := ?_) (by simp only [List.getElem?_toArray, List.getElem?_cons_succ, List.getElem?_cons_zero]; rfl) (by kernel_rfl) (by kernel_rfl) (by rfl) ?_ ?_
                  rotate_left
                  · intro wy hSw; (try dsimp only at hSw); go_simp; (try with_reducible rfl)
                  try simp only [Act.put, List.setIfInBounds_toArray, List.set_cons_zero, List.set_cons_succ]
                  refine Line.done (by kernel_rfl) ?_
                  intro wz hSz
                  go_wp2_with fail
                  go_meet
                  exact ⟨rfl, hSz.only (cs' := []) (ls' := []) [] [] rfl rfl⟩
              · obtain rfl : sl = true := by simpa using hsub
                clear hsub
                as_aux_lemma =>
                  refine wp_region_line (S := (fun w' => Kc T w w' [(u3.heap.size, nl, .slice Al xl.length cl), (u2.heap.size, nl, .slice Aj xl.length cj), (u1.heap.size, ni, .slice Ai xi.length ci)] [(Al, xl), (Aj, xl), (Ai, xi)])) (by kernel_rfl) (by kernel_rfl) ?_ ?_
                  · exact hkd
                  refine line_take (i := 0) (v := ?_) (by simp only [List.getElem?_toArray, List.getElem?_cons_succ, List.getElem?_cons_zero]; rfl) (by kernel_rfl) (by kernel_rfl) (by rfl) ?_ ?_
                  rotate_left
                  · intro wy hSw; (try dsimp only at hSw); go_simp; (try with_reducible rfl)
                  try simp only [Act.put, List.setIfInBounds_toArray, List.set_cons_zero, List.set_cons_succ]
                  refine line_take (i := 1) (v := ?_) (by simp only [List.getElem?_toArray, List.getElem?_cons_succ, List.getElem?_cons_zero]; rfl) (by kernel_rfl) (by kernel_rfl) (by rfl) ?_ ?_
                  rotate_left
                  · intro wy hSw; (try dsimp only at hSw); go_simp; (try with_reducible rfl)
                  try simp only [Act.put, List.setIfInBounds_toArray, List.set_cons_zero, List.set_cons_succ]
                  refine line_take (i := 2) (v := ?_) (by simp only [List.getElem?_toArray, List.getElem?_cons_succ, List.getElem?_cons_zero]; rfl) (by kernel_rfl) (by kernel_rfl) (by rfl) ?_ ?_
                  rotate_left
                  · intro wy hSw; (try dsimp only at hSw); go_simp; (try with_reducible rfl)
                  try simp only [Act.put, List.setIfInBounds_toArray, List.set_cons_zero, List.set_cons_succ]
                  refine line_take (i := 3) (v := ?_) (by simp only [List.getElem?_toArray, List.getElem?_cons_succ, List.getElem?_cons_zero]; rfl) (by kernel_rfl) (by kernel_rfl) (by rfl) ?_ ?_
                  rotate_left
                  · intro wy hSw; (try dsimp only at hSw); go_simp; (try with_reducible rfl)
                  try simp only [Act.put, List.setIfInBounds_toArray, List.set_cons_zero, List.set_cons_succ]
                  refine line_take (i := 4) (v := ?_) (by simp only [List.getElem?_toArray, List.getElem?_cons_succ, List.getElem?_cons_zero]; rfl) (by kernel_rfl) (by kernel_rfl) (by rfl) ?_ ?_
                  rotate_left
                  · intro wy hSw; (try dsimp only at hSw); obtain ⟨c00, c01⟩ := hSw.cell 0 rfl; obtain ⟨c10, c11⟩ := hSw.cell 1 rfl; obtain ⟨c20, c21⟩ := hSw.cell 2 rfl; go_simp; (try with_reducible rfl)
                  try simp only [Act.put, List.setIfInBounds_toArray, List.set_cons_zero, List.set_cons_succ]
                  refine line_take (i := 5) (v := ?_) (by simp only [List.getElem?_toArray, List.getElem?_cons_succ, List.getElem?_cons_zero]; rfl) (by kernel_rfl) (by kernel_rfl) (by rfl) ?_ ?_
                  rotate_left
                  · intro wy hSw; (try dsimp only at hSw); obtain ⟨c00, c01⟩ := hSw.cell 0 rfl; obtain ⟨c10, c11⟩ := hSw.cell 1 rfl; obtain ⟨c20, c21⟩ := hSw.cell 2 rfl; go_simp; (try with_reducible rfl)
                  try simp only [Act.put, List.setIfInBounds_toArray, List.set_cons_zero, List.set_cons_succ]
                  refine line_call (i := 6) (v := ?_) ?_ ?_ (by simp only [List.getElem?_toArray, List.getElem?_cons_succ, List.getElem?_cons_zero]; rfl) (by kernel_rfl) (by kernel_rfl) (by rfl) ?hc13 ?hv13 ?hn13
                  case hv13 => intro wy hSw; go_simp; (try first | with_reducible rfl | (constructor <;> with_reducible rfl))
                  case hc13 => intro wy hSw; (try dsimp only at hSw); refine Calls.mono (by with_reducible exact HE.out _ (hSw.list 1 rfl) (hSw.list 0 rfl)) ?_; rintro e wq ⟨rfl, hb⟩; refine ⟨?_, hSw.below hb⟩; with_reducible rfl
                  try simp only [Act.put, List.setIfInBounds_toArray, List.set_cons_zero, List.set_cons_succ]
                  refine line_take (i := 7) (v := ?_) (by simp only [List.getElem?_toArray, List.getElem?_cons_succ, List.getElem?_cons_zero]; rfl) (by kernel_rfl) (by kernel_rfl) (by rfl) ?_ ?_
                  rotate_left
                  · intro wy hSw; (try dsimp only at hSw); go_simp; (try with_reducible rfl)
                  try simp only [Act.put, List.setIfInBounds_toArray, List.set_cons_zero, List.set_cons_succ]
                  refine line_take (i := 8) (v := ?_) (by simp only [List.getElem?_toArray, List.getElem?_cons_succ, List.getElem?_cons_zero]; rfl) (by kernel_rfl) (by kernel_rfl) (by rfl) ?_ ?_
                  rotate_left
                  · intro wy hSw; (try dsimp only at hSw); go_simp; (try with_reducible rfl)
                  try simp only [Act.put, List.setIfInBounds_toArray, List.set_cons_zero, List.set_cons_succ]
                  refine line_take (i := 9) (v := ?_) (by simp only [List.getElem?_toArray, List.getElem?_cons_succ, List.getElem?_cons_zero]; rfl) (by kernel_rfl) (by kernel_rfl) (by rfl) ?_ ?_
                  rotate_left
                  · intro wy hSw; (try dsimp only at hSw); go_simp; (try with_reducible rfl)
                  try simp only [Act.put, List.setIfInBounds_toArray, List.set_cons_zero, List.set_cons_succ]
                  refine line_take (i := 10) (v := ?_) (by simp only [List.getElem?_toArray, List.getElem?_cons_succ, List.getElem?_cons_zero]; rfl) (by kernel_rfl) (by kernel_rfl) (by rfl) ?_ ?_
                  rotate_left
                  · intro wy hSw; (try dsimp only at hSw); go_simp; (try with_reducible rfl)
                  try simp only [Act.put, List.setIfInBounds_toArray, List.set_cons_zero, List.set_cons_succ]
                  refine line_take (i := 11) (v := ?_) (by simp only [List.getElem?_toArray, List.getElem?_cons_succ, List.getElem?_cons_zero]; rfl) (by kernel_rfl) (by kernel_rfl) (by rfl) ?_ ?_
                  rotate_left
                  · intro wy hSw; (try dsimp only at hSw); go_simp; (try with_reducible rfl)
                  try simp only [Act.put, List.setIfInBounds_toArray, List.set_cons_zero, List.set_cons_succ]
                  refine line_take (i := 12) (v := ?_) (by simp only [List.getElem?_toArray, List.getElem?_cons_succ, List.getElem?_cons_zero]; rfl) (by kernel_rfl) (by kernel_rfl) (by rfl) ?_ ?_
                  rotate_left
                  · intro wy hSw; (try dsimp only at hSw); obtain ⟨c00, c01⟩ := hSw.cell 0 rfl; obtain ⟨c10, c11⟩ := hSw.cell 1 rfl; obtain ⟨c20, c21⟩ := hSw.cell 2 rfl; go_simp; (try with_reducible rfl)
                  try simp only [Act.put, List.setIfInBounds_toArray, List.set_cons_zero, List.set_cons_succ]
                  refine line_call (i := 13) (v := ?_) ?_ ?_ (by simp only [List.getElem?_toArray, List.getElem?_cons_succ, List.getElem?_cons_zero]; rfl) (by kernel_rfl) (by kernel_rfl) (by rfl) ?hc14 ?hv14 ?hn14
                  case hv14 => intro wy hSw; go_simp; (try first | with_reducible rfl | (constructor <;> with_reducible rfl))
                  case hc14 => intro wy hSw; (try dsimp only at hSw); refine Calls.mono (by with_reducible exact HIl.out _ (hSw.list 0 rfl)) ?_; rintro e wq ⟨rfl, hb⟩; refine ⟨?_, hSw.below hb⟩; with_reducible rfl
                  try simp only [Act.put, List.setIfInBounds_toArray, List.set_cons_zero, List.set_cons_succ]
                  refine line_take (i := 14) (v := ?_) (by simp only [List.getElem?_toArray, List.getElem?_cons_succ, List.getElem?_cons_zero]; rfl) (by kernel_rfl) (by kernel_rfl) (by rfl) ?_ ?_
                  rotate_left
                  · intro wy hSw; (try dsimp only at hSw); go_simp; (try with_reducible rfl)
                  try simp only [Act.put, List.setIfInBounds_toArray, List.set_cons_zero, List.set_cons_succ]
                  refine line_take (i := 15) (v := ?_) (by simp only [List.getElem?_toArray, List.getElem?_cons_succ, List.getElem?_cons_zero]; rfl) (by kernel_rfl) (by kernel_rfl) (by rfl) ?_ ?_
                  rotate_left
                  · intro wy hSw; (try dsimp only at hSw); go_simp; (try with_reducible rfl)
                  try simp only [Act.put, List.setIfInBounds_toArray, List.set_cons_zero, List.set_cons_succ]
                  refine line_take (i := 16) (v := ?_) (by simp only [List.getElem?_toArray, List.getElem?_cons_succ, List.getElem?_cons_zero]; rfl) (by kernel_rfl) (by kernel_rfl) (by rfl) ?_ ?_
                  rotate_left
                  · intro wy hSw; (try dsimp only at hSw); obtain ⟨c00, c01⟩ := hSw.cell 0 rfl; obtain ⟨c10, c11⟩ := hSw.cell 1 rfl; obtain ⟨c20, c21⟩ := hSw.cell 2 rfl; go_simp; (try with_reducible rfl)
                  try simp only [Act.put, List.setIfInBounds_toArray, List.set_cons_zero, List.set_cons_succ]
                  refine line_call (i := 17) (v := ?_) ?_ ?_ (by simp only [List.getElem?_toArray, List.getElem?_cons_succ, List.getElem?_cons_zero]; rfl) (by kernel_rfl) (by kernel_rfl) (by rfl) ?hc15 ?hv15 ?hn15
                  case hv15 => intro wy hSw; go_simp; (try first | with_reducible rfl | (constructor <;> with_reducible rfl))
                  case hc15 => intro wy hSw; (try dsimp only at hSw); refine Calls.mono (by with_reducible exact HSi.out _ (hSw.list 2 rfl)) ?_; rintro e wq ⟨rfl, hb⟩; refine ⟨?_, hSw.below hb⟩; with_reducible rfl
                  try simp only [Act.put, List.setIfInBounds_toArray, List.set_cons_zero, List.set_cons_succ]
                  refine line_take (i := 18) (v := ?_) (by simp only [List.getElem?_toArray, List.getElem?_cons_succ, List.getElem?_cons_zero]; rfl) (by kernel_rfl) (by kernel_rfl) (by rfl) ?_ ?_
                  rotate_left
                  · intro wy hSw; (try dsimp only at hSw); go_simp; (try with_reducible rfl)
                  try simp only [Act.put, List.setIfInBounds_toArray, List.set_cons_zero, List.set_cons_succ]
                  refine line_take (i := 19) (v := ?_) (by simp only [List.getElem?_toArray, List.getElem?_cons_succ, List.getElem?_cons_zero]; rfl) (by kernel_rfl) (by kernel_rfl) (by rfl) ?_ ?_
                  rotate_left
                  · intro wy hSw; (try dsimp only at hSw); obtain ⟨c00, c01⟩ := hSw.cell 0 rfl; obtain ⟨c10, c11⟩ := hSw.cell 1 rfl; obtain ⟨c20, c21⟩ := hSw.cell 2 rfl; go_simp; (try with_reducible rfl)
                  try simp only [Act.put, List.setIfInBounds_toArray, List.set_cons_zero, List.set_cons_succ]
                  refine line_call (i := 20) (v := ?_) ?_ ?_ (by simp only [List.getElem?_toArray, List.getElem?_cons_succ, List.getElem?_cons_zero]; rfl) (by kernel_rfl) (by kernel_rfl) (by rfl) ?hc16 ?hv16 ?hn16
                  case hv16 => intro wy hSw; go_simp; (try first | with_reducible rfl | (constructor <;> with_reducible rfl))
                  case hc16 => intro wy hSw; (try dsimp only at hSw); refine Calls.mono (by with_reducible exact HSl.out _ (hSw.list 0 rfl)) ?_; rintro e wq ⟨rfl, hb⟩; refine ⟨?_, hSw.below hb⟩; with_reducible rfl
                  try simp only [Act.put, List.setIfInBounds_toArray, List.set_cons_zero, List.set_cons_succ]
                  refine line_take (i := 21) (v := ?_) (by simp only [List.getElem?_toArray, List.getElem?_cons_succ, List.getElem?_cons_zero]; rfl) (by kernel_rfl) (by kernel_rfl) (by rfl) ?_ ?_
                  rotate_left
                  · intro wy hSw; (try dsimp only at hSw); go_simp; (try with_reducible rfl)
                  try simp only [Act.put, List.setIfInBounds_toArray, List.set_cons_zero, List.set_cons_succ]
                  refine line_take (i := 22) (v := ?_) (by simp only [List.getElem?_toArray, List.getElem?_cons_succ, List.getElem?_cons_zero]; rfl) (by kernel_rfl) (by kernel_rfl) (by rfl) ?_ ?_
                  rotate_left
                  · intro wy hSw; (try dsimp only at hSw); go_simp; (try with_reducible rfl)
                  try simp only [Act.put, List.setIfInBounds_toArray, List.set_cons_zero, List.set_cons_succ]
                  refine line_take (i := 23) (v := ?_) (by simp only [List.getElem?_toArray, List.getElem?_cons_succ, List.getElem?_cons_zero]; rfl) (by kernel_rfl) (by kernel_rfl) (by rfl) ?_ ?_
                  rotate_left
                  · intro wy hSw; (try dsimp only at hSw); go_simp; (try with_reducible rfl)
                  try simp only [Act.put, List.setIfInBounds_toArray, List.set_cons_zero, List.set_cons_succ]
                  refine line_take (i := 24) (v := ?_) (by simp only [List.getElem?_toArray, List.getElem?_cons_succ, List.getElem?_cons_zero]; rfl) (by kernel_rfl) (by kernel_rfl) (by rfl) ?_ ?_
                  rotate_left
                  · intro wy hSw; (try dsimp only at hSw); go_simp; (try with_reducible rfl)
                  try simp only [Act.put, List.setIfInBounds_toArray, List.set_cons_zero, List.set_cons_succ]
                  refine line_take (i := 25) (v := ?_) (by simp only [List.getElem?_toArray, List.getElem?_cons_succ, List.getElem?_cons_zero]; rfl) (by kernel_rfl) (by kernel_rfl) (by rfl) ?_ ?_
                  rotate_left
                  · intro wy hSw; (try dsimp only at hSw); obtain ⟨c00, c01⟩ := hSw.cell 0 rfl; obtain ⟨c10, c11⟩ := hSw.cell 1 rfl; obtain ⟨c20, c21⟩ := hSw.cell 2 rfl; go_simp; (try with_reducible rfl)
                  try simp only [Act.put, List.setIfInBounds_toArray, List.set_cons_zero, List.set_cons_succ]
                  refine line_call (i := 26) (v := ?_) ?_ ?_ (by simp only [List.getElem?_toArray, List.getElem?_cons_succ, List.getElem?_cons_zero]; rfl) (by kernel_rfl) (by kernel_rfl) (by rfl) ?hc17 ?hv17 ?hn17
                  case hv17 => intro wy hSw; go_simp; (try first | with_reducible rfl | (constructor <;> with_reducible rfl))
                  case hc17 => intro wy hSw; (try dsimp only at hSw); refine Calls.mono (by with_reducible exact HIi.out _ (hSw.list 2 rfl)) ?_; rintro e wq ⟨rfl, hb⟩; refine ⟨?_, hSw.below hb⟩; with_reducible rfl
                  try simp only [Act.put, List.setIfInBounds_toArray, List.set_cons_zero, List.set_cons_succ]
                  refine line_take (i := 27) (v := ?_) (by simp only [List.getElem?_toArray, List.getElem?_cons_succ, List.getElem?_cons_zero]; rfl) (by kernel_rfl) (by kernel_rfl) (by rfl) ?_ ?_
                  rotate_left
                  · intro wy hSw; (try dsimp only at hSw); obtain ⟨c00, c01⟩ := hSw.cell 0 rfl; obtain ⟨c10, c11⟩ := hSw.cell 1 rfl; obtain ⟨c20, c21⟩ := hSw.cell 2 rfl; go_simp; (try with_reducible rfl)
                  try simp only [Act.put, List.setIfInBounds_toArray, List.set_cons_zero, List.set_cons_succ]
                  refine line_take (i := 28) (v := ?_) (by simp only [List.getElem?_toArray, List.getElem?_cons_succ, List.getElem?_cons_zero]; rfl) (by kernel_rfl) (by kernel_rfl) (by rfl) ?_ ?_
                  rotate_left
                  · intro wy hSw; (try dsimp only at hSw); obtain ⟨c00, c01⟩ := hSw.cell 0 rfl; obtain ⟨c10, c11⟩ := hSw.cell 1 rfl; obtain ⟨c20, c21⟩ := hSw.cell 2 rfl; go_simp; (try with_reducible rfl)
                  try simp only [Act.put, List.setIfInBounds_toArray, List.set_cons_zero, List.set_cons_succ]
                  refine line_call (i := 29) (v := ?_) ?_ ?_ (by simp only [List.getElem?_toArray, List.getElem?_cons_succ, List.getElem?_cons_zero]; rfl) (by kernel_rfl) (by kernel_rfl) (by rfl) ?hc18 ?hv18 ?hn18
                  case hv18 => intro wy hSw; go_simp; (try first | with_reducible rfl | (constructor <;> with_reducible rfl))
                  case hc18 => intro wy hSw; (try dsimp only at hSw); refine Calls.mono (by with_reducible exact HE2.out _ (hSw.list 2 rfl) (hSw.list 0 rfl)) ?_; rintro e wq ⟨rfl, hb⟩; refine ⟨?_, hSw.below hb⟩; with_reducible rfl
                  try simp only [Act.put, List.setIfInBounds_toArray, List.set_cons_zero, List.set_cons_succ]
                  refine line_take (i := 30) (v := ?_) (by simp only [List.getElem?_toArray, List.getElem?_cons_succ, List.getElem?_cons_zero]; rfl) (by kernel_rfl) (by kernel_rfl) (by rfl) ?_ ?_
                  rotate_left
                  · intro wy hSw; (try dsimp only at hSw); go_simp; (try with_reducible rfl)
                  try simp only [Act.put, List.setIfInBounds_toArray, List.set_cons_zero, List.set_cons_succ]
                  refine line_take (i := 31) (v := ?_) (by simp only [List.getElem?_toArray, List.getElem?_cons_succ, List.getElem?_cons_zero]; rfl) (by kernel_rfl) (by kernel_rfl) (by rfl) ?_ ?_
                  rotate_left
                  · intro wy hSw; (try dsimp only at hSw); go_simp; (try with_reducible rfl)
                  try simp only [Act.put, List.setIfInBounds_toArray, List.set_cons_zero, List.set_cons_succ]
                  refine line_take (i := 32) (v := ?_) (by simp only [List.getElem?_toArray, List.getElem?_cons_succ, List.getElem?_cons_zero]; rfl) (by kernel_rfl) (by kernel_rfl) (by rfl) ?_ ?_
                  rotate_left
                  · intro wy hSw; (try dsimp only at hSw); go_simp; (try with_reducible rfl)
                  try simp only [Act.put, List.setIfInBounds_toArray, List.set_cons_zero, List.set_cons_succ]
                  refine line_take (i := 33) (v := ?_) (by simp only [List.getElem?_toArray, List.getElem?_cons_succ, List.getElem?_cons_zero]; rfl) (by kernel_rfl) (by kernel_rfl) (by rfl) ?_ ?_
                  rotate_left
                  · intro wy hSw; (try dsimp only at hSw); go_simp; (try with_reducible rfl)
                  try simp only [Act.put, List.setIfInBounds_toArray, List.set_cons_zero, List.set_cons_succ]
                  refine Line.done (by kernel_rfl) ?_
                  intro wz hSz
                  go_wp2_with fail
                  go_meet
                  exact ⟨rfl, hSz.only (cs' := []) (ls' := []) [] [] rfl rfl⟩
          case rest =>
            as_aux_lemma =>
              obtain ⟨rfl, hK⟩ := hcut
              have HKf := Lib.hid hK
              clear hK HKe HHF hl1 hl2
              go_wp2_with fail
              refine (trunc_got _ len _ _ hl (HY.out _ HKf.out.base)).mono ?_
              rintro e v1 ⟨_, nm, xm, kk, rfl, -, ⟨Am, cm, rfl, ho, hlm⟩, hb⟩
              have HKg := Lib.hid (((HKf.out.below hb).put ho.read).box nm (.slice Am xm.length cm) 26)
              clear ho hb HKf hlm
              have HC0 := Lib.hid (fun W (h0 : T W) (h1 : Ints W W.heap.size Am xm) => iTrunc.out W nm Am xm cm kk h0 (Lib.hid h1))
              have HC1 := Lib.hid (fun W (h1 : Ints W W.heap.size Am xm) => truncS_any nm Am xm cm kk W (Lib.hid h1))
              have HTL := Lib.hid (fun h1 h2 => trunc_law (n := nm) (xs := xm) (k := kk) h1 h2)
              have hl1 := truncFn_len nm xm kk
              obtain ⟨nt, xt, bt, hr⟩ : ∃ n x b, truncFn nm xm kk = (n, x, b) := ⟨_, _, _, rfl⟩
              rw [hr] at HC0 HC1 HTL hl1
              (try dsimp only at hl1)
              clear hr
              go_wp2_with fail
              refine (HC0.out _ HKg.out.fact (HKg.out.list 0 rfl)).mono ?_
              rintro e v2 ⟨Ao, co, rfl, ho, hb⟩
              have HKh := Lib.hid (((HKg.out.below hb).put ho.read).box nt (.slice Ao xt.length co) 26)
              clear ho hb HKg HC0
              obtain ⟨c10, c11⟩ := HKh.out.cell 1 rfl
              go_wp2_with fail
              refine (HC1.out _ (HKh.out.list 1 rfl)).mono ?_
              rintro e v3 ⟨Ap, cp, rfl, ho, hb⟩
              have HKi := Lib.hid (((HKh.out.below hb).put ho.read).box nt (.slice Ap xt.length cp) 26)
              clear ho hb HKh HC1 c10 c11
              go_wp2_with fail
              refine (split_got _ len _ _ hl (HY.out _ HKi.out.base)).mono ?_
              rintro e v4 ⟨_, na, xa, _, nb, xb, s, rfl, -, ⟨Aa, ca, rfl, ho, hla⟩, ⟨Ab, cb, rfl, ho2, hlb⟩, hb⟩
              have HKj := Lib.hid ((((HKi.out.below hb).put ho.read).put ho2.read).box na (.slice Aa xa.length ca) 26 |>.box nb (.slice Ab xb.length cb) 26)
              simp only [World.size_alloc] at HKj
              clear ho ho2 hb HKi hla hlb
              have HS0 := Lib.hid (fun W (h0 : T W) (h1 : Ints W W.heap.size Aa xa) (h2 : Ints W W.heap.size Ab xb) => iSplit.out W na Aa xa ca nb Ab xb cb s h0 (Lib.hid h1) (Lib.hid h2))
              have HS1 := Lib.hid (fun W (h1 : Ints W W.heap.size Aa xa) (h2 : Ints W W.heap.size Ab xb) => splitOfS_any na Aa xa ca nb Ab xb cb s W (Lib.hid h1) (Lib.hid h2))
              obtain ⟨q, bq, hr⟩ : ∃ x b, splitOf na xa nb xb s = (x, b) := ⟨_, _, rfl⟩
              rw [hr] at HS0 HS1
              clear hr
              go_wp2_with fail
              refine (HS0.out _ HKj.out.fact (HKj.out.list 1 rfl) (HKj.out.list 0 rfl)).mono ?_
              rintro e v5 ⟨rfl, hb⟩
              have HKk := Lib.hid (HKj.out.below hb)
              clear hb HKj HS0
              obtain ⟨c10, c11⟩ := HKk.out.cell 1 rfl
              obtain ⟨c00, c01⟩ := HKk.out.cell 0 rfl
              go_wp2_with fail
              refine (HS1.out _ (HKk.out.list 1 rfl) (HKk.out.list 0 rfl)).mono ?_
              rintro e xq5 ⟨rfl, hb⟩
              have HKq5 := Lib.hid (HKk.out.below hb)
              clear hb c10 c11 c00 c01
              have HPm := Lib.hid (fun W (h1 : Ints W W.heap.size Am xm) => polyS_any nm Am xm cm W (Lib.hid h1))
              have HSt := Lib.hid (fun W (h1 : Ints W W.heap.size Ap xt) => subI_any nt Ap xt cp W (Lib.hid h1))
              obtain ⟨pm, hpm⟩ : ∃ b, isPoly nm xm = b := ⟨_, rfl⟩
              obtain ⟨st, hst⟩ : ∃ b, isSub nt xt = b := ⟨_, rfl⟩
              rw [hpm] at HPm HTL
              rw [hst] at HSt HTL
              clear hpm hst HS1
              obtain ⟨c30, c31⟩ := HKq5.out.cell 3 rfl
              obtain ⟨c20, c21⟩ := HKq5.out.cell 2 rfl
              go_wp2_with fail
              refine (eqS_yes nt Ao xt co Ap cp _ (Lib.hid (HKq5.out.list 3 rfl)) (Lib.hid (HKq5.out.list 2 rfl)) (by omega)).mono ?_
              rintro e xq6 ⟨rfl, hb⟩
              have HKq6 := Lib.hid (HKq5.out.below hb)
              clear hb c30 c31 c20 c21
              cases bt
              · skip
                go_wp2_with fail
                go_ret
                exact ⟨rfl, HKq6.out.base⟩
              · skip
                obtain ⟨c40, c41⟩ := HKq6.out.cell 4 rfl
                go_wp2_with fail
                refine (HPm.out _ (HKq6.out.list 4 rfl)).mono ?_
                rintro e xq7 ⟨rfl, hb⟩
                have HKq7 := Lib.hid (HKq6.out.below hb)
                clear hb c40 c41
                cases pm
                · skip
                  go_wp2_with fail
                  go_ret
                  exact ⟨rfl, HKq7.out.base⟩
                · obtain rfl : st = true := by have h := HTL.out; simpa using h
                  obtain ⟨c20, c21⟩ := HKq7.out.cell 2 rfl
                  go_wp2_with fail
                  refine (HSt.out _ (HKq7.out.list 2 rfl)).mono ?_
                  rintro e xq8 ⟨rfl, hb⟩
                  have HKq8 := Lib.hid (HKq7.out.below hb)
                  clear hb c20 c21
                  go_wp2_with fail
                  go_ret
                  exact ⟨rfl, HKq8.out.base⟩

set_option maxRecDepth 100000 in
set_option maxHeartbeats 4000000 in
theorem law_convs (T : World → Prop) (stay : ∀ W W', T W → Below W.heap.size W W' → T W') (a : Option Addr) (len cap : Nat) (w : World) (hm : len ≤ 9223372036854775807) (hy : Hid (Bytes w.heap.size w (.slice a len cap) len)) (HT : Hid (T w))
    (iConv : Hid (∀ (W : World) (n : Int) (A : Option Addr) (xs : List Int) (c : Nat) (m : Int) (D : Option Addr) (ys : List Int) (d : Nat), T W → Hid (Ints W W.heap.size A xs) → Hid (Ints W W.heap.size D ys) → Calls Tryd.prog 35 #[.agg #[.int .i64 n, .slice A xs.length c], .agg #[.int .i64 m, .slice D ys.length d]] W (RetFB W (convFn n xs m ys).1 (convFn n xs m ys).2.1 (convFn n xs m ys).2.2)))
    (iSplit : Hid (∀ (W : World) (n : Int) (A : Option Addr) (xs : List Int) (c : Nat) (m : Int) (D : Option Addr) (ys : List Int) (d : Nat) (s : Int), T W → Hid (Ints W W.heap.size A xs) → Hid (Ints W W.heap.size D ys) → Calls Tryd.prog 37 #[.agg #[.int .i64 n, .slice A xs.length c], .agg #[.int .i64 m, .slice D ys.length d], .int .i64 s] W (RetV W (.tuple #[.int .i64 (splitOf n xs m ys s).1, .bool (splitOf n xs m ys s).2]))))
    (iRed : Hid (∀ (W : World) (n : Int) (A : Option Addr) (xs : List Int) (c : Nat) (D : Option Addr) (ws : List Int) (d : Nat), T W → Hid (Ints W W.heap.size A xs) → Hid (Ints W W.heap.size D ws) → ws.length ≤ 1048576 → Calls Tryd.prog 39 #[.agg #[.int .i64 n, .slice A xs.length c], .slice D ws.length d] W (RetFB W (reduceFn n xs ws).1 (reduceFn n xs ws).2.1 (reduceFn n xs ws).2.2)))
    (iHull : Hid (∀ (W : World) (n : Int) (A : Option Addr) (xs : List Int) (c : Nat), T W → Hid (Ints W W.heap.size A xs) → Calls Tryd.prog 42 #[.agg #[.int .i64 n, .slice A xs.length c]] W (RetFB W (hullFn n xs).1 (hullFn n xs).2.1 (hullFn n xs).2.2)))
    (iTrunc : Hid (∀ (W : World) (n : Int) (A : Option Addr) (xs : List Int) (c : Nat) (k : Int), T W → Hid (Ints W W.heap.size A xs) → Calls Tryd.prog 47 #[.agg #[.int .i64 n, .slice A xs.length c], .int .i64 k] W (RetFB W (truncFn n xs k).1 (truncFn n xs k).2.1 (truncFn n xs k).2.2))) :
    Calls Tryd.prog 4 #[.slice a len cap] w (RetV w (.bool true)) := by
  by_cases hl : len ≤ 1048576
  · exact law_convs_in T stay a len cap w hl hy HT iConv iSplit iRed iHull iTrunc
  · have hbd : decide ((1048576 : Int) < (len : Int)) = true := by simp; omega
    have HW := Lib.hid (St.start w)
    go_enter Tryd.func4, Tryd.ntmps4
    go_wp2_with fail
    refine (big_any5 _ _ _ _ hm).mono ?_
    rw [hbd]
    rintro e w' ⟨rfl, rfl⟩
    go_wp2
    go_ret
    exact ⟨rfl, HW.out.base⟩

end Go.Proofs.YtfpoiiennlhphaaDoor.C
