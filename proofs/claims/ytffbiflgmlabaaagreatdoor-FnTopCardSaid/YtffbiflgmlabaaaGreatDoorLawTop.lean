/-
  The law of the top, walked.
-/
import Derived.Test.YtffbiflgmlabaaaGreatDoorKc
import Derived.Test.YtffbiflgmlabaaaGreatDoorDuA
import Derived.Test.YtffbiflgmlabaaaGreatDoorDuB
import Derived.Test.YtffbiflgmlabaaaGreatDoorTopH
import Derived.Test.YtffbiflgmlabaaaGreatDoorBsA
import Derived.Test.YtffbiflgmlabaaaGreatDoorViolA
import Derived.Test.YtffbiflgmlabaaaGreatDoorSubS
import Derived.Test.YtffbiflgmlabaaaGreatDoorDrawW
import Derived.Test.YtffbiflgmlabaaaGreatDoorSameI
import Derived.Test.YtffbiflgmlabaaaGreatDoorLolA
import Derived.Test.YtffbiflgmlabaaaGreatDoorLine
import Derived.StillTailTactics
import Derived.Deep.DeepCutAuto
namespace Go.Proofs.YtffbiflgmlabaaaGreatDoor.C
open Go.RowKit M K
set_option linter.unusedVariables false
set_option linter.unusedSimpArgs false

/-- A function is submodular, or a violation is found. -/
theorem sub_viol {n : Int} {xs : List Int} (h : isFn n xs = true) : isSub n xs = !(viol n xs).2 := by
  unfold isSub
  rw [h]
  simp
/-- A corner has at most four numbers. -/
theorem corner_four {n : Int} {xs y : List Int} (hy : y ∈ (cornersOf n xs).1) : y.length ≤ 4 := by
  have hy0 := hy
  unfold cornersOf at hy0
  split at hy0
  · rename_i q
    obtain ⟨hg, h4⟩ := q
    obtain ⟨m, rfl⟩ := Int.eq_ofNat_of_zero_le (isFn_yes (ground_fn hg)).1
    obtain ⟨o, q, rfl⟩ := corners_gain hy
    rw [gain_len]
    omega
  · cases hy0
theorem corners_lenT (n : Int) (xs : List Int) : (cornersOf n xs).1.length ≤ 256 := by
  unfold cornersOf
  split
  · rename_i q
    have h1 := cornersTo_len xs n.toNat (ordersTo n.toNat n.toNat []) (ordersTo n.toNat n.toNat []).length
    have h4 : n.toNat ≤ 4 := by omega
    have h2 : (ordersTo n.toNat n.toNat []).length ≤ 256 := Nat.le_trans (orders_len n.toNat n.toNat []) (Nat.le_trans (Nat.pow_le_pow_left h4 n.toNat) (Nat.pow_le_pow_right (by decide) h4))
    dsimp only
    omega
  · decide
/-- All corners are bases exactly if the function is submodular. -/
theorem corners_sub {n : Int} {xs : List Int} (h : (cornersOf n xs).2 = true) : (cornersOf n xs).1.all (fun y => isBase n xs y) = isSub n xs := by
  have h0 := h
  unfold cornersOf at h0
  split at h0
  · rename_i q
    obtain ⟨hg, h4⟩ := q
    obtain ⟨m, rfl⟩ := Int.eq_ofNat_of_zero_le (isFn_yes (ground_fn hg)).1
    have h1 := corners_all hg (by omega)
    rw [Bool.eq_iff_iff, List.all_eq_true]
    exact h1
  · cases h0
theorem dual_len5 (n : Int) (xs : List Int) : (dualVec n xs).1.length ≤ 5 := by
  unfold dualVec
  split
  · rename_i q
    have h := isFn_yes (ground_fn q.1)
    rw [raise_len, List.length_replicate]
    omega
  · decide
theorem dual_flag (n : Int) (xs : List Int) : (dualVec n xs).2 = (isSub n xs && isGround n xs) := by
  unfold dualVec
  split
  · rename_i q
    rw [q.1, q.2]; rfl
  · rename_i q
    cases h1 : isGround n xs <;> cases h2 : isSub n xs <;> simp_all
theorem neg_corner {n : Int} {xs y : List Int} (hs : isSub n xs = true) (hy : y ∈ (cornersOf n xs).1) : (negPart y).1 ≤ least xs := by
  have hy0 := hy
  unfold cornersOf at hy0
  split at hy0
  · rename_i q
    obtain ⟨hg, h4⟩ := q
    obtain ⟨m, rfl⟩ := Int.eq_ofNat_of_zero_le (isFn_yes (ground_fn hg)).1
    have h1 := (corners_all hg (by omega)).2 hs y hy
    unfold isBase at h1
    rw [Bool.and_eq_true] at h1
    exact neg_le_least h1.1
  · cases hy0
theorem top_facts {n : Int} {xs : List Int} (hg : isGround n xs = true) (hs : isSub n xs = true) : ∃ (ls : List Int) (A B : Nat), minOf n xs = (least xs, true) ∧ minimizers n xs = (ls, true) ∧ leastMin n xs = ((A : Int), true) ∧ greatMin n xs = ((B : Int), true) ∧ ls.length ≤ 32 ∧ A < 32 ∧ B < 32 ∧ isLat ls = true ∧ hasI ls (A : Int) = true ∧ hasI ls (B : Int) = true ∧
    ∀ i, i < ls.length → ∃ S : Nat, ls.getD i 0 = (S : Int) ∧ S < 32 ∧ S &&& A = A ∧ S ||| B = B := by
  have hf := ground_fn hg
  obtain ⟨m, rfl⟩ := Int.eq_ofNat_of_zero_le (isFn_yes hf).1
  have h32 := (isFn_len hf).2
  have hlt : ∀ s ∈ args xs, s < 2 ^ 5 := fun s h => by have := args_lt h; omega
  obtain ⟨t1, t2, t3⟩ := args_top hs
  refine ⟨nats (args xs), andTo (args xs) ((args xs).length - 1), orTo (args xs) (args xs).length, by unfold minOf; rw [if_pos hf], by unfold minimizers; rw [if_pos hf], by unfold leastMin; rw [if_pos hs], by unfold greatMin; rw [if_pos hs], ?_, andTo_lt hlt _, orTo_lt hlt _, args_lat hs, t1, t2, fun i hi => ?_⟩
  · rw [nats_len]
    have := args_len xs
    omega
  · rw [nats_len] at hi
    refine ⟨(args xs).getD i 0, nats_at hi, ?_, (t3 i hi).1, (t3 i hi).2⟩
    rw [getD_at _ _ hi]
    exact hlt _ (List.getElem_mem hi)
theorem or_twoT (S P : Nat) (hS : S < 4294967296) (hP : P < 4294967296) : bits .or .i64 (S : Int) (P : Int) = ((S ||| P : Nat) : Int) := by
  have hx : S ||| P < 2 ^ 32 := Nat.or_lt_two_pow (by omega) (by omega)
  have ofI : ∀ a : Nat, a < 9223372036854775808 → (BitVec.ofInt 64 (a : Int)).toNat = a := fun a ha => by
    rw [BitVec.ofInt_natCast, BitVec.toNat_ofNat]; exact Nat.mod_eq_of_lt (by omega)
  show IntKind.i64.wrap ((BitVec.ofInt 64 (S : Int) ||| BitVec.ofInt 64 (P : Int)).toNat : Int) = _
  rw [BitVec.toNat_or, ofI S (by omega), ofI P (by omega), IntKind.wrap_i64]
  omega
theorem all_take (es : List Ent) (p : List Int → Bool) (k : Nat) {e : Ent} (h : es[k]? = some e) : (es.take (k + 1)).all (fun e => p e.2.2) = ((es.take k).all (fun e => p e.2.2) && p e.2.2) := by
  obtain ⟨hk, rfl⟩ := List.getElem?_eq_some_iff.1 h
  rw [List.take_succ_eq_append_getElem hk, List.all_append]
  simp

set_option maxRecDepth 100000 in
set_option maxHeartbeats 16000000 in
theorem law_top_in (T : World → Prop) (stay : ∀ W W', T W → Below W.heap.size W W' → T W') (a : Option Addr) (len cap : Nat) (w : World) (hl : len ≤ 1048576) (hy : Hid (Bytes w.heap.size w (.slice a len cap) len)) (HT : Hid (T w))
    (iVio : Hid (∀ (W : World) (n : Int) (A : Option Addr) (xs : List Int) (c : Nat), T W → Hid (Ints W W.heap.size A xs) → Calls Tryz.prog 6 #[.agg #[.int .i64 n, .slice A xs.length c]] W (RetIB W (viol n xs).1 (viol n xs).2)))
    (iSub : Hid (∀ (W : World) (n : Int) (A : Option Addr) (xs : List Int) (c : Nat), T W → Hid (Ints W W.heap.size A xs) → Calls Tryz.prog 8 #[.agg #[.int .i64 n, .slice A xs.length c]] W (RetV W (.bool (isSub n xs)))))
    (iBase : Hid (∀ (W : World) (n : Int) (A : Option Addr) (xs : List Int) (c : Nat) (E : Option Addr) (y : List Int) (e : Nat), T W → Hid (Ints W W.heap.size A xs) → Hid (Ints W W.heap.size E y) → y.length ≤ 1048576 → Calls Tryz.prog 15 #[.agg #[.int .i64 n, .slice A xs.length c], .slice E y.length e] W (RetV W (.bool (isBase n xs y)))))
    (iDual : Hid (∀ (W : World) (n : Int) (A : Option Addr) (xs : List Int) (c : Nat), T W → Hid (Ints W W.heap.size A xs) → Calls Tryz.prog 16 #[.agg #[.int .i64 n, .slice A xs.length c]] W (RetIB W (dualVec n xs).1 (dualVec n xs).2)))
    (iCor : Hid (∀ (W : World) (n : Int) (A : Option Addr) (xs : List Int) (c : Nat), T W → Hid (Ints W W.heap.size A xs) → Calls Tryz.prog 12 #[.agg #[.int .i64 n, .slice A xs.length c]] W (RetLLO W (cornersOf n xs).1 (cornersOf n xs).2)))
    (iMinO : Hid (∀ (W : World) (n : Int) (A : Option Addr) (xs : List Int) (c : Nat), T W → Hid (Ints W W.heap.size A xs) → Calls Tryz.prog 19 #[.agg #[.int .i64 n, .slice A xs.length c]] W (RetV W (.tuple #[.int .i64 (minOf n xs).1, .bool (minOf n xs).2]))))
    (iNeg : Hid (∀ (W : World) (E : Option Addr) (y : List Int) (e : Nat), T W → Hid (Ints W W.heap.size E y) → y.length ≤ 1048576 → Calls Tryz.prog 20 #[.slice E y.length e] W (RetV W (.tuple #[.int .i64 (negPart y).1, .bool (negPart y).2]))))
    (iMins : Hid (∀ (W : World) (n : Int) (A : Option Addr) (xs : List Int) (c : Nat), T W → Hid (Ints W W.heap.size A xs) → Calls Tryz.prog 21 #[.agg #[.int .i64 n, .slice A xs.length c]] W (RetIB W (minimizers n xs).1 (minimizers n xs).2)))
    (iLm : Hid (∀ (W : World) (n : Int) (A : Option Addr) (xs : List Int) (c : Nat), T W → Hid (Ints W W.heap.size A xs) → Calls Tryz.prog 22 #[.agg #[.int .i64 n, .slice A xs.length c]] W (RetV W (.tuple #[.int .i64 (leastMin n xs).1, .bool (leastMin n xs).2]))))
    (iGm : Hid (∀ (W : World) (n : Int) (A : Option Addr) (xs : List Int) (c : Nat), T W → Hid (Ints W W.heap.size A xs) → Calls Tryz.prog 23 #[.agg #[.int .i64 n, .slice A xs.length c]] W (RetV W (.tuple #[.int .i64 (greatMin n xs).1, .bool (greatMin n xs).2]))))
    (iIsD : Hid (∀ (W : World) (n : Int) (A : Option Addr) (xs : List Int) (c : Nat) (E : Option Addr) (y : List Int) (e : Nat), T W → Hid (Ints W W.heap.size A xs) → Hid (Ints W W.heap.size E y) → y.length ≤ 1048576 → Calls Tryz.prog 24 #[.agg #[.int .i64 n, .slice A xs.length c], .slice E y.length e] W (RetV W (.bool (isDual n xs y)))))
    (iLat : Hid (∀ (W : World) (A : Option Addr) (xs : List Int) (c : Nat), T W → Hid (Ints W W.heap.size A xs) → xs.length ≤ 1048576 → Calls Tryz.prog 25 #[.slice A xs.length c] W (RetV W (.bool (isLat xs)))))
    : Calls Tryz.prog 3 #[.slice a len cap] w (RetV w (.bool true)) := by
  have hbd : decide ((1048576 : Int) < (len : Int)) = false := by simp; omega
  have HK0 := Lib.hid (show Kc T w w [] [] from ⟨Below.refl _ _, (fun _ h => by cases h), (fun _ h => by cases h), HT.out, stay⟩)
  have HY := Lib.hid (fun (W : World) (h : Below w.heap.size w W) => bytes_at5 hy h)
  go_enter Tryz.func3, Tryz.ntmps3
  go_wp2_with fail
  refine (big_any5 _ _ _ _ (by omega)).mono ?_
  rw [hbd]
  rintro e w' ⟨rfl, rfl⟩
  clear hbd
  go_wp2_with fail
  refine (cnsd_got _ len _ hl (HY.out _ HK0.out.base)).mono ?_
  rintro e w1 ⟨_, n, f, rfl, ⟨Af, cf, rfl, hof, hlf1, hlf2⟩, hb⟩
  have HK1 := Lib.hid (((HK0.out.below hb).put hof.read).box n (.slice Af f.length cf) 26)
  have HV1 := Lib.hid (fun W (h0 : T W) (h1 : Ints W W.heap.size Af f) => iVio.out W n Af f cf h0 (Lib.hid h1))
  have HV2 := Lib.hid (fun W (h1 : Ints W W.heap.size Af f) => violS_any n Af f cf W (Lib.hid h1))
  have HI1 := Lib.hid (fun W (h0 : T W) (h1 : Ints W W.heap.size Af f) => iSub.out W n Af f cf h0 (Lib.hid h1))
  have HI2 := Lib.hid (fun W (h1 : Ints W W.heap.size Af f) => subS_any n Af f cf W (Lib.hid h1))
  have HF := Lib.hid (fun W (h1 : Ints W W.heap.size Af f) => isFnS_any n Af f cf W (Lib.hid h1))
  have HC1 := Lib.hid (fun W (h0 : T W) (h1 : Ints W W.heap.size Af f) => iCor.out W n Af f cf h0 (Lib.hid h1))
  have HC2 := Lib.hid (fun W (h1 : Ints W W.heap.size Af f) => cornersS_any n Af f cf W (Lib.hid h1))
  have HSV := Lib.hid (fun h => sub_viol (n := n) (xs := f) h)
  have hvl := viol_len n f
  generalize viol n f = vi at HV1 HV2 HSV hvl
  obtain ⟨l, found⟩ := vi
  dsimp only at HV1 HV2 HSV hvl
  have HBS := Lib.hid (fun W E y e (h0 : T W) (h1 : Ints W W.heap.size Af f) (h2 : Ints W W.heap.size E y) hyl => iBase.out W n Af f cf E y e h0 (Lib.hid h1) (Lib.hid h2) hyl)
  clear hof hb HK0 iBase iVio iSub iCor
  obtain ⟨c00, c01⟩ := HK1.out.cell 0 rfl
  go_wp2_with fail
  refine (HV1.out _ HK1.out.fact (HK1.out.list 0 rfl)).mono ?_
  rintro e w2 ⟨V1, k1, rfl, ho, hb⟩
  have HK2 := Lib.hid ((HK1.out.below hb).put ho.read)
  clear ho hb c00 c01 HV1 HK1
  obtain ⟨c00, c01⟩ := HK2.out.cell 0 rfl
  go_wp2_with fail
  refine (HV2.out _ (HK2.out.list 1 rfl)).mono ?_
  rintro e w3 ⟨V2, k2, rfl, ho, hb⟩
  have HK3 := Lib.hid ((HK2.out.below hb).put ho.read)
  clear ho hb c00 c01 HV2 HK2
  obtain ⟨c00, c01⟩ := HK3.out.cell 0 rfl
  go_wp2_with fail
  refine (HI1.out _ HK3.out.fact (HK3.out.list 2 rfl)).mono ?_
  rintro e w4 ⟨rfl, hb⟩
  have HK4 := Lib.hid (HK3.out.below hb)
  clear hb c00 c01 HI1 HK3
  obtain ⟨is, his⟩ : ∃ is, isSub n f = is := ⟨_, rfl⟩
  rw [his] at HI2 HSV ⊢
  have HIS := Lib.hid his
  clear his
  have q1 : (found != found) = false := by simp
  have q2 : (is != is) = false := by simp
  go_upto_region 7 with (fail)
  go_cut [72] (fun s72 wx => s72 = .bool false ∧ Kc T w wx [(w1.heap.size, n, .slice Af f.length cf)] [(Af, f)])
  case first =>
    as_aux_lemma =>
      go_wp2_with fail
      refine (sameInts_same V1 V2 l k1 k2 _ (Lib.hid (HK4.out.list 1 rfl)) (Lib.hid (HK4.out.list 0 rfl)) (by omega)).mono ?_
      rintro e w5 ⟨rfl, x5, rfl⟩
      have HK5 := Lib.hid (HK4.out.drewN x5)
      clear HK4
      generalize w4.drewN x5 = w5 at *
      obtain ⟨c00, c01⟩ := HK5.out.cell 0 rfl
      go_wp2_with fail
      refine (HI2.out _ (HK5.out.list 2 rfl)).mono ?_
      rintro e w6 ⟨rfl, hb⟩
      have HK6 := Lib.hid (HK5.out.below hb)
      clear hb c00 c01 HI2 HK5
      obtain ⟨c00, c01⟩ := HK6.out.cell 0 rfl
      go_wp2_with fail
      refine (HF.out _ (HK6.out.list 2 rfl)).mono ?_
      rintro e w7 ⟨rfl, hb⟩
      have HK7 := Lib.hid (HK6.out.below hb)
      clear hb c00 c01 HF HK6
      cases hfn : isFn n f
      · go_wp2_with fail
        go_meet
        exact ⟨rfl, HK7.out.only (cs' := [(w1.heap.size, n, .slice Af f.length cf)]) (ls' := [(Af, f)]) [0] [2] rfl rfl⟩
      · have hsv := HSV.out hfn
        have q3 : (is == found) = false := by rw [hsv]; cases found <;> rfl
        clear hsv
        go_wp2_with fail
        go_meet
        exact ⟨rfl, HK7.out.only (cs' := [(w1.heap.size, n, .slice Af f.length cf)]) (ls' := [(Af, f)]) [0] [2] rfl rfl⟩
  case rest =>
    obtain ⟨rfl, hK⟩ := hcut
    have HL0 := Lib.hid hK
    clear hK HK4 HI2 HF HSV q1 q2
    obtain ⟨c00, c01⟩ := HL0.out.cell 0 rfl
    go_wp2_with fail
    refine (HC1.out _ HL0.out.fact (HL0.out.list 0 rfl)).mono ?_
    rintro e r1 ⟨G1, d1, es1, rfl, hes1, hS1⟩
    have hS : St _ r1 (lol (.slice G1 es1.length d1) es1) := hS1
    have HL1 := Lib.hid ((HL0.out.below (St.base hS)).only (cs' := [(w1.heap.size, n, .slice Af f.length cf)]) (ls' := [(Af, f)]) [0] [0] rfl rfl)
    have HA1 := Lib.hid (St.lls hS (i := 0) rfl fun e he => List.mem_cons_of_mem _ (List.mem_map_of_mem he))
    clear hS hS1 c00 c01 HC1 HL0
    obtain ⟨c00, c01⟩ := HL1.out.cell 0 rfl
    go_wp2_with fail
    refine (HC2.out _ (HL1.out.list 0 rfl)).mono ?_
    rintro e r2 ⟨g2, d2, es2, rfl, hes2, hS2⟩
    have hS : St _ r2 (lol (.slice (some ⟨g2, 0, none⟩) es2.length d2) es2) := hS2
    have HL2 := Lib.hid (HL1.out.below (St.base hS))
    have HA2 := Lib.hid (St.lls hS (i := 0) rfl fun e he => List.mem_cons_of_mem _ (List.mem_map_of_mem he))
    have HA1 := Lib.hid (HA1.out.below (St.base hS))
    have HES := Lib.hid hes2
    have HEE := Lib.hid (hes1.trans hes2.symm)
    clear hS hS2 hes1 hes2 c00 c01 HC2 HL1
    go_wp2_with fail
    refine (sameLists_same G1 (some ⟨g2, 0, none⟩) d1 d2 es1 es2 _ HA1 HA2 HEE.out (fun e he => by have h1 := corner_four (n := n) (xs := f) (y := e.2.2) (by rw [← HES.out, ← HEE.out]; exact List.mem_map_of_mem (f := fun e : Ent => e.2.2) he); omega) (by have h1 := congrArg List.length (HEE.out.trans HES.out); rw [List.length_map] at h1; have h2 := corners_lenT n f; omega)).mono ?_
    rintro e r3 ⟨rfl, x3, rfl⟩
    have HL3 := Lib.hid (HL2.out.drewN x3)
    have HA3 := Lib.hid (show LLs (r2.drewN x3) (some ⟨g2, 0, none⟩) es2 from HA2.out.below (below_drewN (Below.refl _ _) x3))
    clear HA1 HA2 HEE HL2
    generalize r2.drewN x3 = r3 at *
    have HSB := Lib.hid (fun h => corners_sub (n := n) (xs := f) h)
    have HCM := Lib.hid (fun k (hk : k < es2.length) => show ∃ E e y, es2[k]? = some (E, e, y) ∧ y.length ≤ 4 from ⟨es2[k].1, es2[k].2.1, es2[k].2.2, by simp [hk], corner_four (n := n) (xs := f) (by rw [← HES.out]; exact List.mem_map_of_mem (f := fun e : Ent => e.2.2) (List.getElem_mem hk))⟩)
    have hq0 : es2.length ≤ 256 := by have h1 := congrArg List.length HES.out; rw [List.length_map] at h1; have h2 := corners_lenT n f; omega
    have HAL := Lib.hid (show (cornersOf n f).2 = true → (es2.take es2.length).all (fun e => isBase n f e.2.2) = is from fun h => by
      rw [List.take_length, ← HIS.out, ← HSB.out h, ← HES.out, List.all_map]; rfl)
    generalize (cornersOf n f).2 = one at HAL ⊢
    obtain ⟨q, hq⟩ : ∃ q, es2.length = q := ⟨_, rfl⟩
    rw [hq] at HCM hq0 HAL ⊢
    have HT2 := Lib.hid (show Kc (fun W => T W ∧ LLs W (some ⟨g2, 0, none⟩) es2) w r3 [(w1.heap.size, n, .slice Af f.length cf)] [(Af, f)] from
      ⟨HL3.out.1, HL3.out.2, HL3.out.3, ⟨HL3.out.fact, HA3.out⟩, fun W W' h hb => ⟨stay W W' h.1 hb, h.2.below hb⟩⟩)
    clear hq HL3 HA3 HSB
    go_upto_if 92 with (fail)
    go_cut [] (fun wx => (fun W => Kc (fun W => T W ∧ LLs W (some ⟨g2, 0, none⟩) es2) w W [(w1.heap.size, n, .slice Af f.length cf)] [(Af, f)]) wx)
    case first =>
      as_aux_lemma =>
        cases one
        · go_wp2_with fail
          go_meet
          exact HT2.out
        have hal := HAL.out rfl
        have HAQ := Lib.hid hal
        clear hal HAL
        go_wp2
        go_loopw [13, 14] (fun u i wr => ∃ k : Nat, i = .int .i64 k ∧ k ≤ q ∧ u = .bool ((es2.take k).all (fun e => isBase n f e.2.2)) ∧ (fun W => Kc (fun W => T W ∧ LLs W (some ⟨g2, 0, none⟩) es2) w W [(w1.heap.size, n, .slice Af f.length cf)] [(Af, f)]) wr) (fun _ i _ => q - (intOf i).toNat)
        case atStart => exact ⟨0, rfl, Nat.zero_le _, rfl, HT2.out⟩
        case round =>
          obtain ⟨k, rfl, hk, rfl, hK⟩ := hrel
          have HK := Lib.hid hK
          clear hK HT2
          by_cases hlt : k < q
          · have hki : (k : Int) < (q : Int) := by omega
            have hk0 : (0 : Int) ≤ (k : Int) := by omega
            obtain ⟨E, e, y, hk1, hyl⟩ := HCM.out k hlt
            obtain ⟨g', hg', d0, -, iy⟩ := HK.out.fact.2.at_ k _ hk1
            obtain rfl : g2 = g' := by injection hg' with h1; injection h1
            dsimp only at d0 iy
            have d0' : wr.cell? ⟨g2, k, none⟩ = some (.slice E y.length e) := d0
            have HKF := Lib.hid (HK.out.put iy)
            have HBE := Lib.hid (fun W (h0 : T W) h1 h2 => HBS.out W E y e h0 h1 h2 (by omega))
            have hta := all_take es2 (isBase n f) k hk1
            dsimp only at hta
            have HLAY := Lib.hid (fun (W : World) (h : (fun W => Kc (fun W => T W ∧ LLs W (some ⟨g2, 0, none⟩) es2) w W [(w1.heap.size, n, .slice Af f.length cf)] [(E, y), (Af, f)]) W) => show W.cell? ⟨g2, k, none⟩ = some (.slice E y.length e) from by
              obtain ⟨g9, hg9, d9, -, -⟩ := h.fact.2.at_ k _ hk1
              obtain rfl : g2 = g9 := by injection hg9 with h1; injection h1
              exact d9)
            generalize (es2.take k).all (fun e => isBase n f e.2.2) = bk at *
            generalize isBase n f y = by' at HBE hta
            have HTA := Lib.hid hta
            clear hta hk1 d0 iy hg' HK
            go_wp2_with fail
            cases bk
            · as_aux_lemma =>
                refine wp_region_line (S := (fun W => Kc (fun W => T W ∧ LLs W (some ⟨g2, 0, none⟩) es2) w W [(w1.heap.size, n, .slice Af f.length cf)] [(E, y), (Af, f)])) (by kernel_rfl) (by kernel_rfl) ?_ ?_
                · exact HKF.out.drew
                refine line_take (i := 0) (v := ?_) (by simp only [List.getElem?_toArray, List.getElem?_cons_succ, List.getElem?_cons_zero]; rfl) (by kernel_rfl) (by kernel_rfl) (by rfl) ?_ ?_
                rotate_left
                · intro wy hSw; (try dsimp only at hSw); obtain ⟨b0, b1⟩ := hSw.cell 0 rfl; have hcc := HLAY.out _ hSw; go_simp; (try with_reducible rfl)
                try simp only [Act.put, List.setIfInBounds_toArray, List.set_cons_zero, List.set_cons_succ]
                refine line_take (i := 1) (v := ?_) (by simp only [List.getElem?_toArray, List.getElem?_cons_succ, List.getElem?_cons_zero]; rfl) (by kernel_rfl) (by kernel_rfl) (by rfl) ?_ ?_
                rotate_left
                · intro wy hSw; (try dsimp only at hSw); obtain ⟨b0, b1⟩ := hSw.cell 0 rfl; have hcc := HLAY.out _ hSw; go_simp; (try with_reducible rfl)
                try simp only [Act.put, List.setIfInBounds_toArray, List.set_cons_zero, List.set_cons_succ]
                refine line_skip (i := 2) (by simp only [List.getElem?_toArray, List.getElem?_cons_succ, List.getElem?_cons_zero]; rfl) (by kernel_rfl) (by kernel_rfl) (by rfl) ?_
                try simp only [Act.put, List.setIfInBounds_toArray, List.set_cons_zero, List.set_cons_succ]
                refine line_skip (i := 3) (by simp only [List.getElem?_toArray, List.getElem?_cons_succ, List.getElem?_cons_zero]; rfl) (by kernel_rfl) (by kernel_rfl) (by rfl) ?_
                try simp only [Act.put, List.setIfInBounds_toArray, List.set_cons_zero, List.set_cons_succ]
                refine line_skip (i := 4) (by simp only [List.getElem?_toArray, List.getElem?_cons_succ, List.getElem?_cons_zero]; rfl) (by kernel_rfl) (by kernel_rfl) (by rfl) ?_
                try simp only [Act.put, List.setIfInBounds_toArray, List.set_cons_zero, List.set_cons_succ]
                refine line_skip (i := 5) (by simp only [List.getElem?_toArray, List.getElem?_cons_succ, List.getElem?_cons_zero]; rfl) (by kernel_rfl) (by kernel_rfl) (by rfl) ?_
                try simp only [Act.put, List.setIfInBounds_toArray, List.set_cons_zero, List.set_cons_succ]
                refine line_skip (i := 6) (by simp only [List.getElem?_toArray, List.getElem?_cons_succ, List.getElem?_cons_zero]; rfl) (by kernel_rfl) (by kernel_rfl) (by rfl) ?_
                try simp only [Act.put, List.setIfInBounds_toArray, List.set_cons_zero, List.set_cons_succ]
                refine line_skip (i := 7) (by simp only [List.getElem?_toArray, List.getElem?_cons_succ, List.getElem?_cons_zero]; rfl) (by kernel_rfl) (by kernel_rfl) (by rfl) ?_
                try simp only [Act.put, List.setIfInBounds_toArray, List.set_cons_zero, List.set_cons_succ]
                refine line_take (i := 8) (v := ?_) (by simp only [List.getElem?_toArray, List.getElem?_cons_succ, List.getElem?_cons_zero]; rfl) (by kernel_rfl) (by kernel_rfl) (by rfl) ?_ ?_
                rotate_left
                · intro wy hSw; (try dsimp only at hSw); obtain ⟨b0, b1⟩ := hSw.cell 0 rfl; have hcc := HLAY.out _ hSw; go_simp; (try with_reducible rfl)
                try simp only [Act.put, List.setIfInBounds_toArray, List.set_cons_zero, List.set_cons_succ]
                refine line_take (i := 9) (v := ?_) (by simp only [List.getElem?_toArray, List.getElem?_cons_succ, List.getElem?_cons_zero]; rfl) (by kernel_rfl) (by kernel_rfl) (by rfl) ?_ ?_
                rotate_left
                · intro wy hSw; (try dsimp only at hSw); obtain ⟨b0, b1⟩ := hSw.cell 0 rfl; have hcc := HLAY.out _ hSw; go_simp; (try with_reducible rfl)
                try simp only [Act.put, List.setIfInBounds_toArray, List.set_cons_zero, List.set_cons_succ]
                refine Line.done (by kernel_rfl) ?_
                intro wf hSf
                have HZ := Lib.hid (Kc.only hSf (cs' := [(w1.heap.size, n, .slice Af f.length cf)]) (ls' := [(Af, f)]) [0] [1] rfl rfl)
                clear hSf HKF
                go_wp2
                go_roundw
                case rel => exact ⟨k + 1, by go_num, by omega, by rw [HTA.out]; rfl, HZ.out⟩
                case measure => simp [intOf]; omega
            · as_aux_lemma =>
                refine wp_region_line (S := (fun W => Kc (fun W => T W ∧ LLs W (some ⟨g2, 0, none⟩) es2) w W [(w1.heap.size, n, .slice Af f.length cf)] [(E, y), (Af, f)])) (by kernel_rfl) (by kernel_rfl) ?_ ?_
                · exact HKF.out.drew
                refine line_take (i := 0) (v := ?_) (by simp only [List.getElem?_toArray, List.getElem?_cons_succ, List.getElem?_cons_zero]; rfl) (by kernel_rfl) (by kernel_rfl) (by rfl) ?_ ?_
                rotate_left
                · intro wy hSw; (try dsimp only at hSw); obtain ⟨b0, b1⟩ := hSw.cell 0 rfl; have hcc := HLAY.out _ hSw; go_simp; (try with_reducible rfl)
                try simp only [Act.put, List.setIfInBounds_toArray, List.set_cons_zero, List.set_cons_succ]
                refine line_take (i := 1) (v := ?_) (by simp only [List.getElem?_toArray, List.getElem?_cons_succ, List.getElem?_cons_zero]; rfl) (by kernel_rfl) (by kernel_rfl) (by rfl) ?_ ?_
                rotate_left
                · intro wy hSw; (try dsimp only at hSw); obtain ⟨b0, b1⟩ := hSw.cell 0 rfl; have hcc := HLAY.out _ hSw; go_simp; (try with_reducible rfl)
                try simp only [Act.put, List.setIfInBounds_toArray, List.set_cons_zero, List.set_cons_succ]
                refine line_take (i := 2) (v := ?_) (by simp only [List.getElem?_toArray, List.getElem?_cons_succ, List.getElem?_cons_zero]; rfl) (by kernel_rfl) (by kernel_rfl) (by rfl) ?_ ?_
                rotate_left
                · intro wy hSw; (try dsimp only at hSw); obtain ⟨b0, b1⟩ := hSw.cell 0 rfl; have hcc := HLAY.out _ hSw; go_simp; (try with_reducible rfl)
                try simp only [Act.put, List.setIfInBounds_toArray, List.set_cons_zero, List.set_cons_succ]
                refine line_take (i := 3) (v := ?_) (by simp only [List.getElem?_toArray, List.getElem?_cons_succ, List.getElem?_cons_zero]; rfl) (by kernel_rfl) (by kernel_rfl) (by rfl) ?_ ?_
                rotate_left
                · intro wy hSw; (try dsimp only at hSw); obtain ⟨b0, b1⟩ := hSw.cell 0 rfl; have hcc := HLAY.out _ hSw; go_simp; (try with_reducible rfl)
                try simp only [Act.put, List.setIfInBounds_toArray, List.set_cons_zero, List.set_cons_succ]
                refine line_take (i := 4) (v := ?_) (by simp only [List.getElem?_toArray, List.getElem?_cons_succ, List.getElem?_cons_zero]; rfl) (by kernel_rfl) (by kernel_rfl) (by rfl) ?_ ?_
                rotate_left
                · intro wy hSw; (try dsimp only at hSw); obtain ⟨b0, b1⟩ := hSw.cell 0 rfl; have hcc := HLAY.out _ hSw; go_simp; (try with_reducible rfl)
                try simp only [Act.put, List.setIfInBounds_toArray, List.set_cons_zero, List.set_cons_succ]
                refine line_take (i := 5) (v := ?_) (by simp only [List.getElem?_toArray, List.getElem?_cons_succ, List.getElem?_cons_zero]; rfl) (by kernel_rfl) (by kernel_rfl) (by rfl) ?_ ?_
                rotate_left
                · intro wy hSw; (try dsimp only at hSw); obtain ⟨b0, b1⟩ := hSw.cell 0 rfl; have hcc := HLAY.out _ hSw; go_simp; (try with_reducible rfl)
                try simp only [Act.put, List.setIfInBounds_toArray, List.set_cons_zero, List.set_cons_succ]
                refine line_take (i := 6) (v := ?_) (by simp only [List.getElem?_toArray, List.getElem?_cons_succ, List.getElem?_cons_zero]; rfl) (by kernel_rfl) (by kernel_rfl) (by rfl) ?_ ?_
                rotate_left
                · intro wy hSw; (try dsimp only at hSw); obtain ⟨b0, b1⟩ := hSw.cell 0 rfl; have hcc := HLAY.out _ hSw; go_simp; (try with_reducible rfl)
                try simp only [Act.put, List.setIfInBounds_toArray, List.set_cons_zero, List.set_cons_succ]
                refine line_call (i := 7) (v := ?_) ?_ ?_ (by simp only [List.getElem?_toArray, List.getElem?_cons_succ, List.getElem?_cons_zero]; rfl) (by kernel_rfl) (by kernel_rfl) (by rfl) ?hc1 ?hv1 ?hn1
                case hv1 => intro wy hSw; go_simp; (try first | with_reducible rfl | (constructor <;> with_reducible rfl))
                case hc1 => intro wy hSw; (try dsimp only at hSw); refine Calls.mono (by with_reducible exact HBE.out _ hSw.fact.1 (hSw.list 1 rfl) (hSw.list 0 rfl)) ?_; rintro e9 wq ⟨rfl, hb⟩; refine ⟨?_, hSw.below hb⟩; with_reducible rfl
                try simp only [Act.put, List.setIfInBounds_toArray, List.set_cons_zero, List.set_cons_succ]
                refine line_take (i := 8) (v := ?_) (by simp only [List.getElem?_toArray, List.getElem?_cons_succ, List.getElem?_cons_zero]; rfl) (by kernel_rfl) (by kernel_rfl) (by rfl) ?_ ?_
                rotate_left
                · intro wy hSw; (try dsimp only at hSw); obtain ⟨b0, b1⟩ := hSw.cell 0 rfl; have hcc := HLAY.out _ hSw; go_simp; (try with_reducible rfl)
                try simp only [Act.put, List.setIfInBounds_toArray, List.set_cons_zero, List.set_cons_succ]
                refine line_take (i := 9) (v := ?_) (by simp only [List.getElem?_toArray, List.getElem?_cons_succ, List.getElem?_cons_zero]; rfl) (by kernel_rfl) (by kernel_rfl) (by rfl) ?_ ?_
                rotate_left
                · intro wy hSw; (try dsimp only at hSw); obtain ⟨b0, b1⟩ := hSw.cell 0 rfl; have hcc := HLAY.out _ hSw; go_simp; (try with_reducible rfl)
                try simp only [Act.put, List.setIfInBounds_toArray, List.set_cons_zero, List.set_cons_succ]
                refine Line.done (by kernel_rfl) ?_
                intro wf hSf
                have HZ := Lib.hid (Kc.only hSf (cs' := [(w1.heap.size, n, .slice Af f.length cf)]) (ls' := [(Af, f)]) [0] [1] rfl rfl)
                clear hSf HKF
                go_wp2
                go_roundw
                case rel => exact ⟨k + 1, by go_num, by omega, by rw [HTA.out]; rfl, HZ.out⟩
                case measure => simp [intOf]; omega
          · obtain rfl : k = q := by omega
            have hki : ¬ (k : Int) < (k : Int) := by omega
            have q5 : (is != is) = false := by simp
            rw [HAQ.out]
            go_wp2_with fail
            go_meet
            exact HK.out
    case rest =>
      have HM0 := Lib.hid hcut
      clear hcut HT2 HAL HBS
      have HD1 := Lib.hid (fun W (h0 : T W) (h1 : Ints W W.heap.size Af f) => iDual.out W n Af f cf h0 (Lib.hid h1))
      have HD2 := Lib.hid (fun W (h1 : Ints W W.heap.size Af f) => dualS_any5 n Af f cf W (Lib.hid h1))
      have HG := Lib.hid (fun W (h1 : Ints W W.heap.size Af f) => groundS_any n Af f cf W (Lib.hid h1))
      have hdl := dual_len5 n f
      have hdf := dual_flag n f
      rw [HIS.out] at hdf
      have HDI := Lib.hid (fun (hg : isGround n f = true) (hs : is = true) => dual_is (n := n) (xs := f) hg (HIS.out.trans hs))
      generalize dualVec n f = dv at HD1 HD2 hdl hdf HDI
      obtain ⟨y, dual⟩ := dv
      dsimp only at HD1 HD2 hdl hdf HDI
      have HDF := Lib.hid hdf
      clear hdf
      obtain ⟨c00, c01⟩ := HM0.out.cell 0 rfl
      go_wp2_with fail
      refine (HD1.out _ HM0.out.fact.1 (HM0.out.list 0 rfl)).mono ?_
      rintro e m1 ⟨V5, k5, rfl, ho, hb⟩
      have HM1 := Lib.hid ((HM0.out.below hb).put ho.read)
      clear ho hb c00 c01 HD1 HM0
      obtain ⟨c00, c01⟩ := HM1.out.cell 0 rfl
      go_wp2_with fail
      refine (HD2.out _ (HM1.out.list 1 rfl)).mono ?_
      rintro e m2 ⟨V6, k6, rfl, ho, hb⟩
      have HM2 := Lib.hid ((HM1.out.below hb).put ho.read)
      clear ho hb c00 c01 HD2 HM1
      have q6 : (dual != dual) = false := by simp
      go_upto_region 23 with (fail)
      go_cut [138] (fun s138 wx => s138 = .bool false ∧ (fun W => Kc (fun W => T W ∧ LLs W (some ⟨g2, 0, none⟩) es2) w W [(w1.heap.size, n, .slice Af f.length cf)] [(V6, y), (Af, f)]) wx)
      case first =>
        as_aux_lemma =>
          cases is
          · obtain rfl : dual = false := by simpa using HDF.out
            go_wp2_with fail
            refine (sameInts_same V5 V6 y k5 k6 _ (Lib.hid (HM2.out.list 1 rfl)) (Lib.hid (HM2.out.list 0 rfl)) (by omega)).mono ?_
            rintro e m3 ⟨rfl, x3, rfl⟩
            have HM3 := Lib.hid (HM2.out.drewN x3)
            clear HM2
            generalize m2.drewN x3 = m3 at HM3 ⊢
            dsimp only
            go_wp2_with fail
            go_meet
            exact ⟨rfl, HM3.out.only (cs' := [(w1.heap.size, n, .slice Af f.length cf)]) (ls' := [(V6, y), (Af, f)]) [0] [0, 2] rfl rfl⟩
          · have hdf' : isGround n f = dual := by simpa using HDF.out.symm
            rw [hdf'] at HG
            go_wp2_with fail
            refine (sameInts_same V5 V6 y k5 k6 _ (Lib.hid (HM2.out.list 1 rfl)) (Lib.hid (HM2.out.list 0 rfl)) (by omega)).mono ?_
            rintro e m3 ⟨rfl, x3, rfl⟩
            have HM3 := Lib.hid (HM2.out.drewN x3)
            clear HM2
            generalize m2.drewN x3 = m3 at HM3 ⊢
            dsimp only
            obtain ⟨c00, c01⟩ := HM3.out.cell 0 rfl
            go_wp2_with fail
            refine (HG.out _ (HM3.out.list 2 rfl)).mono ?_
            rintro e m4 ⟨rfl, hb⟩
            have HM3 := Lib.hid (HM3.out.below hb)
            clear hb c00 c01
            dsimp only
            go_wp2_with fail
            go_meet
            exact ⟨rfl, HM3.out.only (cs' := [(w1.heap.size, n, .slice Af f.length cf)]) (ls' := [(V6, y), (Af, f)]) [0] [0, 2] rfl rfl⟩
      case rest =>
        obtain ⟨rfl, hK⟩ := hcut
        have HN0 := Lib.hid hK
        clear hK HM2 HG q6
        cases dual
        · go_wp2_with fail
          go_ret
          exact ⟨rfl, HN0.out.base⟩
        · obtain ⟨his1, hgr⟩ : is = true ∧ isGround n f = true := by have h := HDF.out; simpa using h.symm
          have hsub := HIS.out.trans his1
          obtain ⟨hdu, hng⟩ := HDI.out hgr his1
          have HNC := Lib.hid (fun k E e y' (hk : es2[k]? = some (E, e, y')) => neg_corner (n := n) (xs := f) (y := y') hsub (by rw [← HES.out]; exact List.mem_map_of_mem (f := fun e : Ent => e.2.2) (List.mem_of_getElem? hk)))
          obtain ⟨ls, A', B', t1, t2, t3, t4, t5, t6, t7, t8, t9, t10, t11⟩ := top_facts hgr hsub
          have HM := Lib.hid (fun W (h0 : T W) (h1 : Ints W W.heap.size Af f) => iMinO.out W n Af f cf h0 (Lib.hid h1))
          have HNP := Lib.hid (fun W E e (h0 : T W) (h1 : Ints W W.heap.size E y) => iNeg.out W E y e h0 (Lib.hid h1) (by omega))
          have HMS := Lib.hid (fun W (h0 : T W) (h1 : Ints W W.heap.size Af f) => iMins.out W n Af f cf h0 (Lib.hid h1))
          have HLM := Lib.hid (fun W (h0 : T W) (h1 : Ints W W.heap.size Af f) => iLm.out W n Af f cf h0 (Lib.hid h1))
          have HGM := Lib.hid (fun W (h0 : T W) (h1 : Ints W W.heap.size Af f) => iGm.out W n Af f cf h0 (Lib.hid h1))
          have HID := Lib.hid (fun W E e (h0 : T W) (h1 : Ints W W.heap.size Af f) (h2 : Ints W W.heap.size E y) => iIsD.out W n Af f cf E y e h0 (Lib.hid h1) (Lib.hid h2) (by omega))
          have HLT := Lib.hid (fun W E e (h0 : T W) (h1 : Ints W W.heap.size E ls) => iLat.out W E ls e h0 (Lib.hid h1) (by omega))
          have HHA := Lib.hid (fun W E e (h1 : Ints W W.heap.size E ls) => hasL_any E ls e (A' : Int) W (Lib.hid h1) (by omega))
          have HHB := Lib.hid (fun W E e (h1 : Ints W W.heap.size E ls) => hasL_any E ls e (B' : Int) W (Lib.hid h1) (by omega))
          have HSN := Lib.hid (fun W E e y' (h1 : Ints W W.heap.size E y') hl => negS_any E y' e W (Lib.hid h1) hl)
          rw [t1] at HM
          rw [hng] at HNP
          rw [t2] at HMS
          rw [t3] at HLM
          rw [t4] at HGM
          rw [hdu] at HID
          rw [t8] at HLT
          rw [t9] at HHA
          rw [t10] at HHB
          dsimp only at HM HNP HMS HLM HGM
          generalize least f = mn at HM HNP HNC
          have HTT := Lib.hid t11
          have q7 : (mn != mn) = false := by simp
          have q8 : ((A' : Int) != (A' : Int)) = false := by simp
          have q9 : ((B' : Int) != (B' : Int)) = false := by simp
          obtain ⟨l', hl'⟩ : ∃ l', ls.length = l' := ⟨_, rfl⟩
          have HLL := Lib.hid hl'
          rw [hl'] at HLT HHA HHB HTT t5
          clear his1 hgr hsub hdu hng t1 t2 t3 t4 t8 t9 t10 t11 hl' HDI HDF HIS iMinO iNeg iMins iLm iGm iIsD iLat
          obtain ⟨c00, c01⟩ := HN0.out.cell 0 rfl
          go_wp2_with fail
          refine (HM.out _ HN0.out.fact.1 (HN0.out.list 1 rfl)).mono ?_
          rintro e n1 ⟨rfl, hb⟩
          have HN1 := Lib.hid (HN0.out.below hb)
          clear hb c00 c01 HM HN0
          obtain ⟨c00, c01⟩ := HN1.out.cell 0 rfl
          go_wp2_with fail
          refine (HNP.out _ V6 k6 HN1.out.fact.1 (HN1.out.list 0 rfl)).mono ?_
          rintro e n2 ⟨rfl, hb⟩
          have HN2 := Lib.hid (HN1.out.below hb)
          clear hb c00 c01 HNP HN1
          obtain ⟨c00, c01⟩ := HN2.out.cell 0 rfl
          go_wp2_with fail
          refine (HMS.out _ HN2.out.fact.1 (HN2.out.list 1 rfl)).mono ?_
          rintro e n3 ⟨V7, k7, rfl, ho, hb⟩
          rw [HLL.out] at ho ⊢
          have HN3 := Lib.hid ((HN2.out.below hb).put ho.read)
          clear ho hb c00 c01 HMS HN2
          obtain ⟨c00, c01⟩ := HN3.out.cell 0 rfl
          go_wp2_with fail
          refine (HLM.out _ HN3.out.fact.1 (HN3.out.list 2 rfl)).mono ?_
          rintro e n4 ⟨rfl, hb⟩
          have HN4 := Lib.hid (HN3.out.below hb)
          clear hb c00 c01 HLM HN3
          obtain ⟨c00, c01⟩ := HN4.out.cell 0 rfl
          go_wp2_with fail
          refine (HGM.out _ HN4.out.fact.1 (HN4.out.list 2 rfl)).mono ?_
          rintro e n5 ⟨rfl, hb⟩
          have HN5 := Lib.hid (HN4.out.below hb)
          clear hb c00 c01 HGM HN4
          obtain ⟨c00, c01⟩ := HN5.out.cell 0 rfl
          go_upto_region 31 with (fail)
          go_cut [194] (fun s194 wx => s194 = .bool false ∧ (fun W => Kc (fun W => T W ∧ LLs W (some ⟨g2, 0, none⟩) es2) w W [(w1.heap.size, n, .slice Af f.length cf)] [(V7, ls), (V6, y), (Af, f)]) wx)
          case first =>
            as_aux_lemma =>
              go_wp2_with fail
              refine (HID.out _ V6 k6 HN5.out.fact.1 (HN5.out.list 2 rfl) (HN5.out.list 1 rfl)).mono ?_
              rintro e n6 ⟨rfl, hb⟩
              have HN6 := Lib.hid (HN5.out.below hb)
              clear hb c00 c01 HID HN5
              dsimp only
              go_wp2_with fail
              refine (HLT.out _ V7 k7 HN6.out.fact.1 (HN6.out.list 0 rfl)).mono ?_
              rintro e n7 ⟨rfl, hb⟩
              have HN7 := Lib.hid (HN6.out.below hb)
              clear hb HLT HN6
              dsimp only
              go_wp2_with fail
              refine (HHA.out _ V7 k7 (HN7.out.list 0 rfl)).mono ?_
              rintro e n8 ⟨rfl, rfl⟩
              dsimp only
              go_wp2_with fail
              refine (HHB.out _ V7 k7 (HN7.out.list 0 rfl)).mono ?_
              rintro e n9 ⟨rfl, rfl⟩
              dsimp only
              go_wp2_with fail
              go_meet
              exact ⟨rfl, HN7.out⟩
          case rest =>
            obtain ⟨rfl, hK⟩ := hcut
            have HQ0 := Lib.hid hK
            clear hK HN5 HID HLT HHA HHB q7 c00 c01
            go_wp2
            go_loopw [29] (fun i wr => ∃ k : Nat, i = .int .i64 k ∧ k ≤ l' ∧ (fun W => Kc (fun W => T W ∧ LLs W (some ⟨g2, 0, none⟩) es2) w W [(w1.heap.size, n, .slice Af f.length cf)] [(V7, ls), (V6, y), (Af, f)]) wr) (fun i _ => l' - (intOf i).toNat)
            case atStart => exact ⟨0, rfl, Nat.zero_le _, HQ0.out⟩
            case round =>
              obtain ⟨k, rfl, hk, hK⟩ := hrel
              have HK := Lib.hid hK
              clear hK HQ0
              by_cases hlt : k < l'
              · obtain ⟨S, e1, e2, e3, e4⟩ := HTT.out k hlt
                obtain ⟨b, off, rfl, hbl, hco⟩ := (HK.out.list 0 rfl).at_ (k := k) (by rw [HLL.out]; exact hlt)
                rw [e1] at hco
                have a1 := and_two S A' (by omega) (by omega)
                rw [e3] at a1
                have a2 := or_twoT S B' (by omega) (by omega)
                rw [e4] at a2
                have hk0 : (0 : Int) ≤ (k : Int) := by omega
                have hki : (k : Int) < (l' : Int) := by omega
                clear e1 e3 e4
                go_wp2
                go_roundw
                case rel => exact ⟨k + 1, by go_num, by omega, HK.out⟩
                case measure => simp [intOf]; omega
              · obtain rfl : k = l' := by omega
                have hki : ¬ (k : Int) < (k : Int) := by omega
                have HK2 := Lib.hid (HK.out.only (cs' := [(w1.heap.size, n, .slice Af f.length cf)]) (ls' := [(Af, f)]) [0] [2] rfl rfl)
                clear HK
                go_wp2
                go_loopw [30] (fun i wr => ∃ j : Nat, i = .int .i64 j ∧ j ≤ q ∧ (fun W => Kc (fun W => T W ∧ LLs W (some ⟨g2, 0, none⟩) es2) w W [(w1.heap.size, n, .slice Af f.length cf)] [(Af, f)]) wr) (fun i _ => q - (intOf i).toNat)
                case atStart => exact ⟨0, rfl, Nat.zero_le _, HK2.out⟩
                case round =>
                  obtain ⟨j, rfl, hj, hK⟩ := hrel
                  have HK := Lib.hid hK
                  clear hK HK2
                  by_cases hlt : j < q
                  · obtain ⟨E, e, y', hk1, hyl⟩ := HCM.out j hlt
                    obtain ⟨g', hg', d0, -, iy⟩ := HK.out.fact.2.at_ j _ hk1
                    obtain rfl : g2 = g' := by injection hg' with h1; injection h1
                    dsimp only at d0 iy
                    have d0' : wr.cell? ⟨g2, j, none⟩ = some (.slice E y'.length e) := d0
                    have hnc := HNC.out j E e y' hk1
                    have HSC := Lib.hid (HSN.out wr E e y' iy (by omega))
                    generalize negPart y' = np at *
                    obtain ⟨z, zb⟩ := np
                    dsimp only at hnc HSC
                    have hnz : ¬ mn < z := by omega
                    have hk0 : (0 : Int) ≤ (j : Int) := by omega
                    have hki : (j : Int) < (q : Int) := by omega
                    clear hk1 d0 hg' iy hnc
                    go_wp2_with fail
                    refine HSC.out.mono ?_
                    rintro e9 w9 ⟨rfl, hb⟩
                    have HK9 := Lib.hid (HK.out.below hb)
                    clear hb HK d0'
                    go_wp2
                    go_roundw
                    case rel => exact ⟨j + 1, by go_num, by omega, HK9.out⟩
                    case measure => simp [intOf]; omega
                  · obtain rfl : j = q := by omega
                    have hki2 : ¬ (j : Int) < (j : Int) := by omega
                    go_wp2
                    go_ret
                    exact ⟨rfl, HK.out.base⟩

set_option maxRecDepth 100000 in
set_option maxHeartbeats 16000000 in
theorem law_top (T : World → Prop) (stay : ∀ W W', T W → Below W.heap.size W W' → T W') (a : Option Addr) (len cap : Nat) (w : World) (hm : len ≤ 9223372036854775807) (hy : Hid (Bytes w.heap.size w (.slice a len cap) len)) (HT : Hid (T w))
    (iVio : Hid (∀ (W : World) (n : Int) (A : Option Addr) (xs : List Int) (c : Nat), T W → Hid (Ints W W.heap.size A xs) → Calls Tryz.prog 6 #[.agg #[.int .i64 n, .slice A xs.length c]] W (RetIB W (viol n xs).1 (viol n xs).2)))
    (iSub : Hid (∀ (W : World) (n : Int) (A : Option Addr) (xs : List Int) (c : Nat), T W → Hid (Ints W W.heap.size A xs) → Calls Tryz.prog 8 #[.agg #[.int .i64 n, .slice A xs.length c]] W (RetV W (.bool (isSub n xs)))))
    (iBase : Hid (∀ (W : World) (n : Int) (A : Option Addr) (xs : List Int) (c : Nat) (E : Option Addr) (y : List Int) (e : Nat), T W → Hid (Ints W W.heap.size A xs) → Hid (Ints W W.heap.size E y) → y.length ≤ 1048576 → Calls Tryz.prog 15 #[.agg #[.int .i64 n, .slice A xs.length c], .slice E y.length e] W (RetV W (.bool (isBase n xs y)))))
    (iDual : Hid (∀ (W : World) (n : Int) (A : Option Addr) (xs : List Int) (c : Nat), T W → Hid (Ints W W.heap.size A xs) → Calls Tryz.prog 16 #[.agg #[.int .i64 n, .slice A xs.length c]] W (RetIB W (dualVec n xs).1 (dualVec n xs).2)))
    (iCor : Hid (∀ (W : World) (n : Int) (A : Option Addr) (xs : List Int) (c : Nat), T W → Hid (Ints W W.heap.size A xs) → Calls Tryz.prog 12 #[.agg #[.int .i64 n, .slice A xs.length c]] W (RetLLO W (cornersOf n xs).1 (cornersOf n xs).2)))
    (iMinO : Hid (∀ (W : World) (n : Int) (A : Option Addr) (xs : List Int) (c : Nat), T W → Hid (Ints W W.heap.size A xs) → Calls Tryz.prog 19 #[.agg #[.int .i64 n, .slice A xs.length c]] W (RetV W (.tuple #[.int .i64 (minOf n xs).1, .bool (minOf n xs).2]))))
    (iNeg : Hid (∀ (W : World) (E : Option Addr) (y : List Int) (e : Nat), T W → Hid (Ints W W.heap.size E y) → y.length ≤ 1048576 → Calls Tryz.prog 20 #[.slice E y.length e] W (RetV W (.tuple #[.int .i64 (negPart y).1, .bool (negPart y).2]))))
    (iMins : Hid (∀ (W : World) (n : Int) (A : Option Addr) (xs : List Int) (c : Nat), T W → Hid (Ints W W.heap.size A xs) → Calls Tryz.prog 21 #[.agg #[.int .i64 n, .slice A xs.length c]] W (RetIB W (minimizers n xs).1 (minimizers n xs).2)))
    (iLm : Hid (∀ (W : World) (n : Int) (A : Option Addr) (xs : List Int) (c : Nat), T W → Hid (Ints W W.heap.size A xs) → Calls Tryz.prog 22 #[.agg #[.int .i64 n, .slice A xs.length c]] W (RetV W (.tuple #[.int .i64 (leastMin n xs).1, .bool (leastMin n xs).2]))))
    (iGm : Hid (∀ (W : World) (n : Int) (A : Option Addr) (xs : List Int) (c : Nat), T W → Hid (Ints W W.heap.size A xs) → Calls Tryz.prog 23 #[.agg #[.int .i64 n, .slice A xs.length c]] W (RetV W (.tuple #[.int .i64 (greatMin n xs).1, .bool (greatMin n xs).2]))))
    (iIsD : Hid (∀ (W : World) (n : Int) (A : Option Addr) (xs : List Int) (c : Nat) (E : Option Addr) (y : List Int) (e : Nat), T W → Hid (Ints W W.heap.size A xs) → Hid (Ints W W.heap.size E y) → y.length ≤ 1048576 → Calls Tryz.prog 24 #[.agg #[.int .i64 n, .slice A xs.length c], .slice E y.length e] W (RetV W (.bool (isDual n xs y)))))
    (iLat : Hid (∀ (W : World) (A : Option Addr) (xs : List Int) (c : Nat), T W → Hid (Ints W W.heap.size A xs) → xs.length ≤ 1048576 → Calls Tryz.prog 25 #[.slice A xs.length c] W (RetV W (.bool (isLat xs)))))
    : Calls Tryz.prog 3 #[.slice a len cap] w (RetV w (.bool true)) := by
  by_cases hl : len ≤ 1048576
  · exact law_top_in T stay a len cap w hl hy HT iVio iSub iBase iDual iCor iMinO iNeg iMins iLm iGm iIsD iLat
  · have hbd : decide ((1048576 : Int) < (len : Int)) = true := by simp; omega
    have HW := Lib.hid (St.start w)
    clear iVio iSub iBase iDual iCor iMinO iNeg iMins iLm iGm iIsD iLat
    go_enter Tryz.func3, Tryz.ntmps3
    go_wp2_with fail
    refine (big_any5 _ _ _ _ hm).mono ?_
    rw [hbd]
    rintro e w' ⟨rfl, rfl⟩
    go_wp2
    go_ret
    exact ⟨rfl, HW.out.base⟩


end Go.Proofs.YtffbiflgmlabaaaGreatDoor.C
