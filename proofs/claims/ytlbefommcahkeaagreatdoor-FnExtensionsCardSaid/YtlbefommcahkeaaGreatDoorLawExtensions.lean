/-
  The law of extensions, walked: the walk of its parts, and the law.
-/
import Derived.Test.YtlbefommcahkeaaGreatDoorKc
import Derived.Test.YtlbefommcahkeaaGreatDoorCoM
import Derived.Test.YtlbefommcahkeaaGreatDoorExB
import Derived.Test.YtlbefommcahkeaaGreatDoorLnA
import Derived.Test.YtlbefommcahkeaaGreatDoorLnU
import Derived.Test.YtlbefommcahkeaaGreatDoorAllM
import Derived.Test.YtlbefommcahkeaaGreatDoorDrB
import Derived.Test.YtlbefommcahkeaaGreatDoorSameI
import Derived.Test.YtlbefommcahkeaaGreatDoorLolA
import Derived.Test.YtlbefommcahkeaaGreatDoorLine
import Derived.StillTailTactics
import Derived.Deep.DeepCutAuto
namespace Go.Proofs.YtlbefommcahkeaaGreatDoor.C
open Go.RowKit M K
set_option linter.unusedVariables false
set_option linter.unusedSimpArgs false

set_option maxRecDepth 100000 in
/-- The byte at 3, or a number in its place. -/
theorem at3_any (a : Option Addr) (len cap : Nat) (w : World) (hl : len ≤ 1048576) (hy : Hid (Bytes w.heap.size w (.slice a len cap) len)) :
    ∃ k : Nat, k ≤ 255 ∧ ∀ W, Below w.heap.size w W → Calls Tryz.prog 9 #[.slice a len cap, .int .i64 3] W fun e w' => e = .returned (.int .i64 k) ∧ W = w' := by
  by_cases h3 : 3 < len
  · rcases hy.out with ⟨-, h0⟩ | ⟨b, off, cp, zs, hv, h1, h2, hz, hb, hc, hr⟩
    · omega
    · injection hv with e1 e2 e3
      subst e1 e3
      have hc3 := hc 3 (by omega)
      have hr3 := hr (zs.getD 3 0) (by rw [List.getD_eq_getElem?_getD, List.getElem?_eq_getElem (by omega)]; exact List.getElem_mem (by omega))
      obtain ⟨k, hk⟩ := Int.eq_ofNat_of_zero_le hr3.1
      rw [hk] at hc3 hr3
      refine ⟨k, by omega, fun W hW => ?_⟩
      have hcw := (hW.cell (p := ⟨b, off + 3, none⟩) hb).trans hc3
      have hl3 : (3 : Int) < (len : Int) := by omega
      have hwk : IntKind.i64.wrap (k : Int) = (k : Int) := IntWalk.i64_in _ (by omega)
      clear hc hr hk hc3 hW hz
      go_enter Tryz.func9, Tryz.ntmps9
      go_wp2
      go_ret
      exact ⟨rfl, rfl⟩
  · obtain ⟨r, hr⟩ : ∃ r : Nat, (111 + (len : Int) * 11) % 256 = (r : Int) := ⟨(111 + len * 11) % 256, by omega⟩
    refine ⟨r, by omega, fun W hW => ?_⟩
    have hl3 : ¬ (3 : Int) < (len : Int) := by omega
    have hw1 : IntKind.i64.wrap ((len : Int) * 11) = (len : Int) * 11 := IntWalk.i64_in _ (by omega)
    have hw3 : IntKind.i64.wrap (111 + (len : Int) * 11) = 111 + (len : Int) * 11 := IntWalk.i64_in _ (by omega)
    have ht : Int.tmod (111 + (len : Int) * 11) 256 = (111 + (len : Int) * 11) % 256 := Int.tmod_eq_emod_of_nonneg (by omega)
    have hw4 : IntKind.i64.wrap ((111 + (len : Int) * 11) % 256) = (111 + (len : Int) * 11) % 256 := IntWalk.i64_in _ (by omega)
    have HR := Lib.hid hr
    clear hy hW hr
    go_enter Tryz.func9, Tryz.ntmps9
    go_wp2
    go_ret
    exact ⟨by rw [← HR.out]; rfl, rfl⟩

/-- What chapter 9's functions say of a drawn function. -/
theorem max_law {n : Int} {xs ws : List Int} (ht : Tm xs) (h : (maxFor n xs ws).2.2 = true) : fit9 n xs ws = true ∧ (extAt n xs ws).1 = (maxFor n xs ws).1 ∧ (pairV ws (maxFor n xs ws).2.1).1 = (maxFor n xs ws).1 ∧ isBest n xs ws (maxFor n xs ws).2.1 = true ∧ (minFor n xs ws).1 ≤ (maxFor n xs ws).1 := by
  unfold maxFor at h ⊢
  split at h
  · rename_i hf
    unfold minFor
    rw [if_pos hf, if_pos hf]
    exact ⟨hf, by rw [best_extAt hf], by rw [best_pair hf ht], best_isBest hf, min_le_max hf⟩
  · cases h
/-- What they say of a corner. -/
theorem corner_law {n : Int} {xs ws y : List Int} (hf : fit9 n xs ws = true) (hy : y ∈ (cornersOf n xs).1) : y.length = ws.length ∧ (∀ k, -2000 ≤ y.getD k 0 ∧ y.getD k 0 ≤ 2000) ∧ (minFor n xs ws).1 ≤ sm (fun k => ws.getD k 0 * y.getD k 0) ws.length ∧ sm (fun k => ws.getD k 0 * y.getD k 0) ws.length ≤ (maxFor n xs ws).1 ∧ isBest n xs ws y = decide (sm (fun k => ws.getD k 0 * y.getD k 0) ws.length = (maxFor n xs ws).1) := by
  obtain ⟨hg, hs, hv, hl⟩ := fit9_yes hf
  obtain ⟨-, -, hlx, hvv⟩ := isFn_yes (ground_fn hg)
  rw [← hl] at hf hy hlx
  rw [Int.toNat_natCast] at hlx
  obtain ⟨o, q, rfl⟩ := corners_gain hy
  unfold maxFor minFor
  rw [← hl, if_pos hf, if_pos hf]
  exact ⟨gain_len _ _ _ _, fun k => corner_bd hlx hvv q k, corner_ge hf q, corner_le hf q, isBest_corner hf q⟩
theorem corners_len9 (n : Int) (xs : List Int) : (cornersOf n xs).1.length ≤ 256 := by
  unfold cornersOf
  split
  · rename_i q
    have h1 := cornersTo_len xs n.toNat (ordersTo n.toNat n.toNat []) (ordersTo n.toNat n.toNat []).length
    have h4 : n.toNat ≤ 4 := by omega
    have h2 : (ordersTo n.toNat n.toNat []).length ≤ 256 := Nat.le_trans (orders_len n.toNat n.toNat []) (Nat.le_trans (Nat.pow_le_pow_left h4 n.toNat) (Nat.pow_le_pow_right (by decide) h4))
    dsimp only
    omega
  · decide
theorem leastV_le7 {xs ys : List Int} (h : xs.length ≤ 6) : (leastV xs ys).1.length ≤ 6 := by
  unfold leastV minV
  split
  · rw [tab_length]; exact h
  · decide
theorem greatV_le7 {xs ys : List Int} (h : xs.length ≤ 6) : (greatV xs ys).1.length ≤ 6 := by
  unfold greatV maxV
  split
  · rw [tab_length]; exact h
  · decide
theorem orderFor_le7 {ws : List Int} (h : ws.length ≤ 6) : (orderFor ws).1.length ≤ 6 := by
  unfold orderFor
  split
  · rw [nats_len, ordN_len]; exact h
  · decide
theorem cell_at_lt {W : World} {b o : Nat} {v : Value} (hc : W.cell? ⟨b, o, none⟩ = some v) : b < W.heap.size := by
  rcases Nat.lt_or_ge b W.heap.size with h | h
  · exact h
  · rw [World.cell?, Array.getElem?_eq_none h] at hc
    cases hc
theorem World.drewN_drewN' (w : World) (a b : Nat) : (w.drewN a).drewN b = w.drewN (a + b) := by simp [World.drewN, Nat.add_assoc]
theorem sm_part {ws y : List Int} (h1 : ∀ k, k < ws.length → -1000 ≤ ws.getD k 0 ∧ ws.getD k 0 ≤ 1000) (h2 : ∀ k, -2000 ≤ y.getD k 0 ∧ y.getD k 0 ≤ 2000) : ∀ j, j ≤ ws.length → -(2000000 * (j : Int)) ≤ sm (fun k => ws.getD k 0 * y.getD k 0) j ∧ sm (fun k => ws.getD k 0 * y.getD k 0) j ≤ 2000000 * (j : Int)
  | 0, _ => by simp [sm]
  | j + 1, hj => by
    have ih := sm_part h1 h2 j (by omega)
    have a := h1 j (by omega)
    have b := h2 j
    have c := mul_bd2 a.1 a.2 b.1 b.2
    rw [sm]
    omega

set_option maxRecDepth 100000 in
set_option maxHeartbeats 16000000 in
theorem law_ext_in (T : World → Prop) (stay : ∀ W W', T W → Below W.heap.size W W' → T W') (a : Option Addr) (len cap : Nat) (w : World) (hl : len ≤ 1048576) (hy : Hid (Bytes w.heap.size w (.slice a len cap) len)) (HT : Hid (T w))
    (iExt : Hid (∀ (W : World) (n : Int) (A : Option Addr) (xs : List Int) (c : Nat) (D : Option Addr) (ws : List Int) (d : Nat), T W → Hid (Ints W W.heap.size A xs) → Hid (Ints W W.heap.size D ws) → ws.length ≤ 1048576 → Calls Tryz.prog 6 #[.agg #[.int .i64 n, .slice A xs.length c], .slice D ws.length d] W (RetV W (.tuple #[.int .i64 (extAt n xs ws).1, .bool (extAt n xs ws).2]))))
    (iInd : Hid (∀ (W : World) (n s : Int), T W → Calls Tryz.prog 10 #[.int .i64 n, .int .i64 s] W (RetIB W (indOf n s).1 (indOf n s).2)))
    (iConv : Hid (∀ (W : World) (n : Int) (F : Option Addr) (fs : List Int) (f : Nat) (A : Option Addr) (xs : List Int) (c : Nat) (D : Option Addr) (ys : List Int) (d : Nat), T W → Hid (Ints W W.heap.size F fs) → Hid (Ints W W.heap.size A xs) → Hid (Ints W W.heap.size D ys) → xs.length ≤ 1048576 → ys.length ≤ 1048576 → Calls Tryz.prog 12 #[.agg #[.int .i64 n, .slice F fs.length f], .slice A xs.length c, .slice D ys.length d] W (RetV W (.bool (convAt n fs xs ys)))))
    (iMax : Hid (∀ (W : World) (n : Int) (A : Option Addr) (xs : List Int) (c : Nat) (D : Option Addr) (ws : List Int) (d : Nat), T W → Hid (Ints W W.heap.size A xs) → Hid (Ints W W.heap.size D ws) → ws.length ≤ 1048576 → Calls Tryz.prog 15 #[.agg #[.int .i64 n, .slice A xs.length c], .slice D ws.length d] W (RetIIB W (maxFor n xs ws).1 (maxFor n xs ws).2.1 (maxFor n xs ws).2.2)))
    (iMin : Hid (∀ (W : World) (n : Int) (A : Option Addr) (xs : List Int) (c : Nat) (D : Option Addr) (ws : List Int) (d : Nat), T W → Hid (Ints W W.heap.size A xs) → Hid (Ints W W.heap.size D ws) → ws.length ≤ 1048576 → In64 ws → Calls Tryz.prog 17 #[.agg #[.int .i64 n, .slice A xs.length c], .slice D ws.length d] W (RetIIB W (minFor n xs ws).1 (minFor n xs ws).2.1 (minFor n xs ws).2.2)))
    (iPair : Hid (∀ (W : World) (A : Option Addr) (xs : List Int) (c : Nat) (D : Option Addr) (ys : List Int) (d : Nat), T W → Hid (Ints W W.heap.size A xs) → Hid (Ints W W.heap.size D ys) → xs.length ≤ 1048576 → ys.length ≤ 1048576 → Calls Tryz.prog 20 #[.slice A xs.length c, .slice D ys.length d] W (RetV W (.tuple #[.int .i64 (pairV xs ys).1, .bool (pairV xs ys).2]))))
    (iBest : Hid (∀ (W : World) (n : Int) (A : Option Addr) (xs : List Int) (c : Nat) (D : Option Addr) (ws : List Int) (d : Nat) (E : Option Addr) (us : List Int) (k : Nat), T W → Hid (Ints W W.heap.size A xs) → Hid (Ints W W.heap.size D ws) → Hid (Ints W W.heap.size E us) → ws.length ≤ 1048576 → us.length ≤ 1048576 → Calls Tryz.prog 21 #[.agg #[.int .i64 n, .slice A xs.length c], .slice D ws.length d, .slice E us.length k] W (RetV W (.bool (isBest n xs ws us)))))
    (iLeast : Hid (∀ (W : World) (A : Option Addr) (xs : List Int) (c : Nat) (D : Option Addr) (ys : List Int) (d : Nat), T W → Hid (Ints W W.heap.size A xs) → Hid (Ints W W.heap.size D ys) → xs.length ≤ 1048576 → ys.length ≤ 1048576 → Calls Tryz.prog 24 #[.slice A xs.length c, .slice D ys.length d] W (RetIB W (leastV xs ys).1 (leastV xs ys).2)))
    (iGreat : Hid (∀ (W : World) (A : Option Addr) (xs : List Int) (c : Nat) (D : Option Addr) (ys : List Int) (d : Nat), T W → Hid (Ints W W.heap.size A xs) → Hid (Ints W W.heap.size D ys) → xs.length ≤ 1048576 → ys.length ≤ 1048576 → Calls Tryz.prog 26 #[.slice A xs.length c, .slice D ys.length d] W (RetIB W (greatV xs ys).1 (greatV xs ys).2)))
    (iOrd : Hid (∀ (W : World) (A : Option Addr) (ws : List Int) (c : Nat), T W → Hid (Ints W W.heap.size A ws) → ws.length ≤ 1048576 → Calls Tryz.prog 29 #[.slice A ws.length c] W (RetIB W (orderFor ws).1 (orderFor ws).2)))
    (iLev : Hid (∀ (W : World) (A : Option Addr) (ws : List Int) (c : Nat), T W → Hid (Ints W W.heap.size A ws) → ws.length ≤ 1048576 → Calls Tryz.prog 34 #[.slice A ws.length c] W (RetIB W (levels ws).1 (levels ws).2)))
    : Calls Tryz.prog 3 #[.slice a len cap] w (RetV w (.bool true)) := by
  have hbd : decide ((1048576 : Int) < (len : Int)) = false := by simp; omega
  have HK0 := Lib.hid (show Kc T w w [] [] from ⟨Below.refl _ _, (fun _ h => by cases h), (fun _ h => by cases h), HT.out, stay⟩)
  have HY := Lib.hid (fun (W : World) (h : Below w.heap.size w W) => bytes_at5 hy h)
  obtain ⟨ka, hka, hat⟩ := at3_any a len cap w hl hy
  have HAT := Lib.hid hat
  clear hat
  go_enter Tryz.func3, Tryz.ntmps3
  go_wp2_with fail
  refine (big_any5 _ _ _ _ (by omega)).mono ?_
  rw [hbd]
  rintro e w' ⟨rfl, rfl⟩
  clear hbd
  go_wp2_with fail
  refine (ext_got _ len _ hl (HY.out _ HK0.out.base)).mono ?_
  rintro e w1 ⟨_, n, f, A, c, us, rfl, hu5, -, ⟨Af, cf, rfl, hof, hlf1, hlf2⟩, hou, hb⟩
  have HK1 := Lib.hid ((((HK0.out.below hb).put hof.read).put hou.read).box n (.slice Af f.length cf) 26)
  have HE1 := Lib.hid (fun W (h0 : T W) (h1 : Ints W W.heap.size Af f) (h2 : Ints W W.heap.size A us) => iExt.out W n Af f cf A us c h0 (Lib.hid h1) (Lib.hid h2) (by omega))
  have HE2 := Lib.hid (fun W (h1 : Ints W W.heap.size Af f) (h2 : Ints W W.heap.size A us) => extS_any n Af f cf A us c W (Lib.hid h1) (Lib.hid h2) (by omega))
  have HF1 := Lib.hid (fun W (h1 : Ints W W.heap.size Af f) => isFnS_any n Af f cf W (Lib.hid h1))
  generalize extAt n f us = ea at HE1 HE2
  obtain ⟨ex, eb⟩ := ea
  dsimp only at HE1 HE2
  have q1 : (ex != ex) = false := by simp
  have q2 : (eb != eb) = false := by simp
  clear hof hou hb HK0
  obtain ⟨c00, c01⟩ := HK1.out.cell 0 rfl
  go_wp2_with fail
  refine (HE1.out _ HK1.out.fact (HK1.out.list 1 rfl) (HK1.out.list 0 rfl)).mono ?_
  rintro e w2 ⟨rfl, hb⟩
  have HK2 := Lib.hid (HK1.out.below hb)
  clear hb c00 c01 HE1 HK1
  obtain ⟨c00, c01⟩ := HK2.out.cell 0 rfl
  go_wp2_with fail
  refine (HE2.out _ (HK2.out.list 1 rfl) (HK2.out.list 0 rfl)).mono ?_
  rintro e w3 ⟨rfl, hb⟩
  have HK3 := Lib.hid (HK2.out.below hb)
  clear hb c00 c01 HE2 HK2
  obtain ⟨c00, c01⟩ := HK3.out.cell 0 rfl
  go_wp2_with fail
  refine (HF1.out _ (HK3.out.list 1 rfl)).mono ?_
  rintro e w4 ⟨rfl, hb⟩
  have HK4 := Lib.hid (HK3.out.below hb)
  clear hb c00 c01 HF1 HK3 q1 q2
  go_upto_if 95 with (fail)
  go_cut [] (fun wx => Kc T w wx [] [])
  case first =>
    as_aux_lemma =>
      cases hfn : isFn n f
      · go_wp2_with fail
        go_meet
        exact HK4.out.only (cs' := []) (ls' := []) [] [] rfl rfl
      · obtain ⟨m, hm⟩ : ∃ m, f.length = m := ⟨_, rfl⟩
        have hm0 : 0 < m := by omega
        have hs : ka % m < m := Nat.mod_lt _ hm0
        obtain ⟨hi1, hi2⟩ := ext_set hfn (s := ka % m) (by rw [hm]; exact hs)
        have htm : Int.tmod (ka : Int) (m : Int) = ((ka % m : Nat) : Int) := by rw [Int.tmod_eq_emod_of_nonneg (by omega)]; omega
        have hmz : ((m : Int) == 0) = false := beq_eq_false_iff_ne.2 (by omega)
        have hmn : ¬ (m : Int) = 0 := by omega
        have HI := Lib.hid (fun W (h0 : T W) => iInd.out W n ((ka % m : Nat) : Int) h0)
        rw [hi1] at HI
        have hil : (indV n.toNat (ka % m)).length ≤ 1048576 := by
          rw [indV_len]
          obtain ⟨h0, h5, -, -⟩ := isFn_yes hfn
          omega
        have HX := Lib.hid (fun W E e (h0 : T W) (h1 : Ints W W.heap.size Af f) (h2 : Ints W W.heap.size E (indV n.toNat (ka % m))) => iExt.out W n Af f cf E (indV n.toNat (ka % m)) e h0 (Lib.hid h1) (Lib.hid h2) hil)
        rw [hi2] at HX
        obtain ⟨x, hx⟩ : ∃ x, f.getD (ka % m) 0 = x := ⟨_, rfl⟩
        rw [hx] at HX
        have HIX := Lib.hid (HK4.out.list 1 rfl)
        obtain ⟨b, off, hAf, hbl, hcx⟩ := (HK4.out.list 1 rfl).at_ (k := ka % m) (by rw [hm]; exact hs)
        rw [hx] at hcx
        subst hAf
        have HCX := Lib.hid hcx
        have hsi : ((ka % m : Nat) : Int) < (m : Int) := by omega
        have hs0 : (0 : Int) ≤ ((ka % m : Nat) : Int) := by omega
        have hws : IntKind.i64.wrap ((ka % m : Nat) : Int) = ((ka % m : Nat) : Int) := IntWalk.i64_in _ (by omega)
        dsimp only at HI HX
        generalize indV n.toNat (ka % m) = iv at *
        rw [hm] at HK4 HX
        have qx : (x != x) = false := by simp
        generalize ka % m = s at *
        obtain ⟨c00, c01⟩ := HK4.out.cell 0 rfl
        have HATw := Lib.hid (fun W (h : Below w4.heap.size w4 W) => HAT.out W (HK4.out.base.trans (h.mono HK4.out.base.size)))
        clear hi1 hi2 hx hs hil hcx hfn
        go_wp2
        go_quiet ((go_at_call 9; exact quiet_left (HATw.out _ (below_drewN (Below.refl _ _) _))))
        have HK4 := Lib.hid (HK4.out.drewN nq)
        have hc4 : (w4.drewN nq).cell? ⟨b, off + s, none⟩ = some (.int .i64 x) := HCX.out
        have hb4 : b < (w4.drewN nq).heap.size := hbl
        generalize w4.drewN nq = w4 at HK4 hc4 hb4 ⊢
        clear c00 c01 HATw
        obtain ⟨c00, c01⟩ := HK4.out.cell 0 rfl
        go_wp2_with fail
        refine (HI.out _ HK4.out.fact).mono ?_
        rintro e w5 ⟨V, cV, rfl, ho, hb⟩
        have HK5 := Lib.hid ((HK4.out.below hb).put ho.read)
        have hc5 := (hb.cell (p := ⟨b, off + s, none⟩) hb4).trans hc4
        have hb5 := Nat.lt_of_lt_of_le hb4 hb.size
        clear ho hb c00 c01 HI HK4 hc4 hb4
        obtain ⟨c00, c01⟩ := HK5.out.cell 0 rfl
        go_wp2_with fail
        refine (HX.out _ V cV HK5.out.fact (HK5.out.list 2 rfl) (HK5.out.list 0 rfl)).mono ?_
        rintro e w6 ⟨rfl, hb⟩
        have HK6 := Lib.hid (HK5.out.below hb)
        have hc6 := (hb.cell (p := ⟨b, off + s, none⟩) hb5).trans hc5
        clear hb c00 c01 HX HK5 hc5
        obtain ⟨c00, c01⟩ := HK6.out.cell 0 rfl
        go_wp2_with fail
        go_meet
        exact HK6.out.only (cs' := []) (ls' := []) [] [] rfl rfl
  case rest =>
    have HR0 := Lib.hid hcut
    clear hcut HK4
    go_wp2_with fail
    refine (convex_got _ len _ hl (HY.out _ HR0.out.base)).mono ?_
    rintro e r1 ⟨_, n, f, A, c, us, D, d, ws, rfl, hu5, hwl, ⟨Af, cf, rfl, hof, hlf1, hlf2⟩, hou, how, hb⟩
    have HR1 := Lib.hid (((((HR0.out.below hb).put hof.read).put hou.read).put how.read).box n (.slice Af f.length cf) 26)
    clear hof hou how hb HR0
    have HC := Lib.hid (fun W (h0 : T W) (hf : Ints W W.heap.size Af f) (h1 : Ints W W.heap.size A us) (h2 : Ints W W.heap.size D ws) => iConv.out W n Af f cf A us c D ws d h0 (Lib.hid hf) (Lib.hid h1) (Lib.hid h2) (by omega) (by omega))
    have HS := Lib.hid (fun W (hf : Ints W W.heap.size Af f) (h1 : Ints W W.heap.size A us) (h2 : Ints W W.heap.size D ws) => convatS_any n Af f cf A us c D ws d W (Lib.hid hf) (Lib.hid h1) (Lib.hid h2) (by omega) (by omega))
    generalize convAt n f us ws = cb at HC HS
    have q1 : (cb != cb) = false := by simp
    clear hwl hu5
    obtain ⟨c00, c01⟩ := HR1.out.cell 0 rfl
    go_wp2_with fail
    refine (HC.out _ HR1.out.fact (HR1.out.list 2 rfl) (HR1.out.list 1 rfl) (HR1.out.list 0 rfl)).mono ?_
    rintro e r2 ⟨rfl, hb⟩
    have HR2 := Lib.hid (HR1.out.below hb)
    clear hb c00 c01 HC HR1
    obtain ⟨c00, c01⟩ := HR2.out.cell 0 rfl
    go_wp2_with fail
    refine (HS.out _ (HR2.out.list 2 rfl) (HR2.out.list 1 rfl) (HR2.out.list 0 rfl)).mono ?_
    rintro e r3 ⟨rfl, hb⟩
    have HR3 := Lib.hid (HR2.out.below hb)
    have HR4 := Lib.hid (HR3.out.only (cs' := []) (ls' := []) [] [] rfl rfl)
    clear hb c00 c01 HS HR2 HR3
    go_wp2_with fail
    refine (maxd_got _ len _ hl (HY.out _ HR4.out.base)).mono ?_
    rintro e s1 ⟨_, n, f, A, c, us, rfl, hu5, h64, htm, ⟨Af, cf, rfl, hof, hlf1, hlf2⟩, hou, hb⟩
    have HS1 := Lib.hid ((((HR4.out.below hb).put hof.read).put hou.read).box n (.slice Af f.length cf) 26)
    clear hof hou hb HR4 q1
    have HA := Lib.hid (fun W (h0 : T W) (h1 : Ints W W.heap.size Af f) (h2 : Ints W W.heap.size A us) => iMax.out W n Af f cf A us c h0 (Lib.hid h1) (Lib.hid h2) (by omega))
    have HB := Lib.hid (fun W (h1 : Ints W W.heap.size Af f) (h2 : Ints W W.heap.size A us) => maxS_any n Af f cf A us c W (Lib.hid h1) (Lib.hid h2) (by omega))
    have HC := Lib.hid (fun W (h0 : T W) (h1 : Ints W W.heap.size Af f) (h2 : Ints W W.heap.size A us) => iMin.out W n Af f cf A us c h0 (Lib.hid h1) (Lib.hid h2) (by omega) h64)
    have HD := Lib.hid (fun W (h1 : Ints W W.heap.size Af f) (h2 : Ints W W.heap.size A us) => minS_any n Af f cf A us c W (Lib.hid h1) (Lib.hid h2) (by omega))
    have HLAW := Lib.hid (fun h => max_law (n := n) (ws := us) htm h)
    have HCL := Lib.hid (fun hf y hy => corner_law (n := n) (xs := f) (ws := us) (y := y) hf hy)
    have hzl := maxFor_le n f us
    have htl := minFor_le n f us
    generalize maxFor n f us = mx at *
    generalize minFor n f us = mn at *
    obtain ⟨o, z, one⟩ := mx
    obtain ⟨p, t, two⟩ := mn
    dsimp only at HA HB HC HD HLAW HCL hzl htl
    clear htm h64
    obtain ⟨c00, c01⟩ := HS1.out.cell 0 rfl
    go_wp2_with fail
    refine (HA.out _ HS1.out.fact (HS1.out.list 1 rfl) (HS1.out.list 0 rfl)).mono ?_
    rintro e s2 ⟨V1, k1, rfl, ho, hb⟩
    have HS2 := Lib.hid ((HS1.out.below hb).put ho.read)
    clear ho hb c00 c01 HA HS1
    obtain ⟨c00, c01⟩ := HS2.out.cell 0 rfl
    go_wp2_with fail
    refine (HB.out _ (HS2.out.list 2 rfl) (HS2.out.list 1 rfl)).mono ?_
    rintro e s3 ⟨V2, k2, rfl, ho, hb⟩
    have HS3 := Lib.hid ((HS2.out.below hb).put ho.read)
    clear ho hb c00 c01 HB HS2
    obtain ⟨c00, c01⟩ := HS3.out.cell 0 rfl
    go_wp2_with fail
    refine (HC.out _ HS3.out.fact (HS3.out.list 3 rfl) (HS3.out.list 2 rfl)).mono ?_
    rintro e s4 ⟨V3, k3, rfl, ho, hb⟩
    have HS4 := Lib.hid ((HS3.out.below hb).put ho.read)
    clear ho hb c00 c01 HC HS3
    obtain ⟨c00, c01⟩ := HS4.out.cell 0 rfl
    go_wp2_with fail
    refine (HD.out _ (HS4.out.list 4 rfl) (HS4.out.list 3 rfl)).mono ?_
    rintro e s5 ⟨V4, k4, rfl, ho, hb⟩
    have HS5 := Lib.hid ((HS4.out.below hb).put ho.read)
    clear ho hb c00 c01 HD HS4
    have q1 : (o != o) = false := by simp
    have q2 : (one != one) = false := by simp
    have q3 : (p != p) = false := by simp
    have q4 : (two != two) = false := by simp
    go_wp2_with fail
    refine (sameInts_same V1 V2 z k1 k2 _ (Lib.hid (HS5.out.list 3 rfl)) (Lib.hid (HS5.out.list 2 rfl)) (by omega)).mono ?_
    rintro e s6 ⟨rfl, x6, rfl⟩
    have HS6 := Lib.hid (HS5.out.drewN x6)
    clear HS5
    go_wp2_with fail
    refine (sameInts_same V3 V4 t k3 k4 _ (Lib.hid (HS6.out.list 1 rfl)) (Lib.hid (HS6.out.list 0 rfl)) (by omega)).mono ?_
    rintro e s7 ⟨rfl, x7, rfl⟩
    have HS7 := Lib.hid (HS6.out.drewN x7)
    clear HS6
    obtain ⟨c00, c01⟩ := HS7.out.cell 0 rfl
    generalize ((s5.drewN x6).drewN x7) = s7 at *
    go_upto_if 205 with (fail)
    go_cut [] (fun wx => Kc T w wx [] [])
    case first =>
      as_aux_lemma =>
        cases one
        · go_wp2_with fail
          go_meet
          exact HS7.out.only (cs' := []) (ls' := []) [] [] rfl rfl
        obtain ⟨hfit, he1, he2, he3, he4⟩ := HLAW.out rfl
        clear HLAW q1 q2 q3 q4
        have hFIT := Lib.hid hfit
        have HA := Lib.hid (fun W (h0 : T W) (h1 : Ints W W.heap.size Af f) (h2 : Ints W W.heap.size A us) => iExt.out W n Af f cf A us c h0 (Lib.hid h1) (Lib.hid h2) (by omega))
        have HB := Lib.hid (fun W (h0 : T W) (h1 : Ints W W.heap.size A us) (h2 : Ints W W.heap.size V2 z) => iPair.out W A us c V2 z k2 h0 (Lib.hid h1) (Lib.hid h2) (by omega) hzl)
        have HC := Lib.hid (fun W (h0 : T W) (h1 : Ints W W.heap.size Af f) (h2 : Ints W W.heap.size A us) (h3 : Ints W W.heap.size V2 z) => iBest.out W n Af f cf A us c V2 z k2 h0 (Lib.hid h1) (Lib.hid h2) (Lib.hid h3) (by omega) hzl)
        have HD := Lib.hid (fun W (h1 : Ints W W.heap.size Af f) => cornersS_any n Af f cf W (Lib.hid h1))
        have HE := Lib.hid (fun W E y e (h0 : T W) (h1 : Ints W W.heap.size Af f) (h2 : Ints W W.heap.size A us) (h3 : Ints W W.heap.size E y) hyl => iBest.out W n Af f cf A us c E y e h0 (Lib.hid h1) (Lib.hid h2) (Lib.hid h3) (by omega) hyl)
        rw [he1] at HA
        rw [he2] at HB
        rw [he3] at HC
        generalize (extAt n f us).2 = b1 at HA
        generalize (pairV us z).2 = b2 at HB
        have q1 : (o != o) = false := by simp
        have q2 : ¬ o < p := by omega
        clear he1 he2 he3 he4 hfit iExt iInd iConv iMax iMin iPair iBest iLeast iGreat iOrd iLev HY HAT hka htl HT hy
        go_wp2_with fail
        refine (HA.out _ HS7.out.fact (HS7.out.list 5 rfl) (HS7.out.list 4 rfl)).mono ?_
        rintro e s8 ⟨rfl, hb⟩
        have HS8 := Lib.hid (HS7.out.below hb)
        clear hb c00 c01 HA HS7
        go_wp2_with fail
        refine (HB.out _ HS8.out.fact (HS8.out.list 4 rfl) (HS8.out.list 2 rfl)).mono ?_
        rintro e s9 ⟨rfl, hb⟩
        have HS9 := Lib.hid (HS8.out.below hb)
        clear hb HB HS8
        obtain ⟨c00, c01⟩ := HS9.out.cell 0 rfl
        go_wp2_with fail
        refine (HC.out _ HS9.out.fact (HS9.out.list 5 rfl) (HS9.out.list 4 rfl) (HS9.out.list 2 rfl)).mono ?_
        rintro e s10 ⟨rfl, hb⟩
        have HS10 := Lib.hid (HS9.out.below hb)
        clear hb c00 c01 HC HS9
        obtain ⟨c00, c01⟩ := HS10.out.cell 0 rfl
        go_wp2_with fail
        refine (HD.out _ (HS10.out.list 5 rfl)).mono ?_
        rintro e s11 ⟨g, cg, es, rfl, hes, hS0⟩
        have hS : St s10 s11 (lol (.slice (some ⟨g, 0, none⟩) es.length cg) es) := hS0
        have HS11 := Lib.hid (HS10.out.below (St.base hS))
        have HLL := Lib.hid (St.lls hS (i := 0) rfl fun e he => List.mem_cons_of_mem _ (List.mem_map_of_mem he))
        have HES := Lib.hid hes
        clear hS hS0 hes c00 c01 HD HS10
        have HFI := Lib.hid (show (cornersOf n f).2 = false → es = [] from fun h => by
          have h1 := HES.out
          unfold cornersOf at h h1
          split at h
          · cases h
          · rename_i hh
            rw [if_neg hh] at h1
            exact List.map_eq_nil_iff.1 h1)
        have HCM := Lib.hid (fun k (hk : k < es.length) => show ∃ E e y, es[k]? = some (E, e, y) ∧ y ∈ (cornersOf n f).1 from ⟨es[k].1, es[k].2.1, es[k].2.2, by simp [hk], by rw [← HES.out]; exact List.mem_map_of_mem (f := fun e : Ent => e.2.2) (List.getElem_mem hk)⟩)
        generalize (cornersOf n f).2 = fine at HFI ⊢
        obtain ⟨m, hm⟩ : ∃ m, us.length = m := ⟨_, rfl⟩
        have hvec := isVec_yes (fit9_yes hFIT.out).2.2.1
        have HVV := Lib.hid hvec.2
        have HM := Lib.hid hm
        rw [hm] at hu5
        obtain ⟨q, hq⟩ : ∃ q, es.length = q := ⟨_, rfl⟩
        have HQ := Lib.hid hq
        have hq9 : q ≤ 1048576 := by
          have h1 := congrArg List.length HES.out
          rw [List.length_map, hq] at h1
          have h2 := (corners_len9 n f)
          omega
        have HT2 := Lib.hid (show Kc (fun W => T W ∧ LLs W (some ⟨g, 0, none⟩) es) w s11 [(s1.heap.size, n, .slice Af f.length cf)] [(A, us), (Af, f)] from
          let k := HS11.out.only (cs' := [(s1.heap.size, n, .slice Af f.length cf)]) (ls' := [(A, us), (Af, f)]) [0] [4, 5] rfl rfl
          ⟨k.1, k.2, k.3, ⟨HS11.out.fact, HLL.out⟩, fun W W' h hb => ⟨stay W W' h.1 hb, h.2.below hb⟩⟩)
        rw [hq]
        clear hvec hm hq HS11 HLL
        have HZZ := Lib.hid (show ∀ y, sm (fun k => us.getD k 0 * List.getD y k 0) 0 = 0 from fun y => rfl)
        have HZS := Lib.hid (show ∀ y k, sm (fun k => us.getD k 0 * List.getD y k 0) (k + 1) = sm (fun k => us.getD k 0 * List.getD y k 0) k + us.getD k 0 * List.getD y k 0 from fun y k => rfl)
        go_wp2
        go_loopw [38] (fun i wr => ∃ k : Nat, i = .int .i64 k ∧ k ≤ q ∧ Kc (fun W => T W ∧ LLs W (some ⟨g, 0, none⟩) es) w wr [(s1.heap.size, n, .slice Af f.length cf)] [(A, us), (Af, f)]) (fun i _ => q - (intOf i).toNat)
        case atStart => exact ⟨0, rfl, Nat.zero_le _, HT2.out⟩
        case round =>
          obtain ⟨k, rfl, hk, hK⟩ := hrel
          have HK := Lib.hid hK
          clear hK HT2
          by_cases hlt : k < q
          · have hki : (k : Int) < (q : Int) := by omega
            have hk0 : (0 : Int) ≤ (k : Int) := by omega
            have hfine : fine = true := by
              cases fine
              · have h1 := HFI.out rfl
                rw [h1] at HQ
                have h2 : 0 = q := HQ.out
                omega
              · rfl
            subst hfine
            obtain ⟨E, e, y, hk1, hmem⟩ := HCM.out k (by rw [HQ.out]; exact hlt)
            obtain ⟨hyl, hyb, hr1, hr2, hr3⟩ := HCL.out hFIT.out y hmem
            obtain ⟨g', hg', d0, -, iy⟩ := HK.out.fact.2.at_ k _ hk1
            obtain rfl : g = g' := by injection hg' with h1; injection h1
            dsimp only at d0 iy
            have d0' : wr.cell? ⟨g, k, none⟩ = some (.slice E y.length e) := d0
            have HPT := Lib.hid (sm_part (ws := us) (y := y) HVV.out hyb)
            have HYB := Lib.hid hyb
            have HIY := Lib.hid iy
            have HSZ := HZZ.out y
            have HSS := Lib.hid (HZS.out y)
            have HBE := Lib.hid (fun W (h0 : T W) h1 h2 h3 => HE.out W E y e h0 h1 h2 h3 (by rw [hyl, HM.out]; omega))
            rw [HM.out] at hr3
            rw [hr3] at HBE
            rw [HM.out] at HPT hr1 hr2 hyl
            have HLAY := Lib.hid (fun (W : World) (h : Kc (fun W => T W ∧ LLs W (some ⟨g, 0, none⟩) es) w W [(s1.heap.size, n, .slice Af f.length cf)] [(E, y), (A, us), (Af, f)]) => show W.cell? ⟨g, k, none⟩ = some (.slice E y.length e) from by
              obtain ⟨g9, hg9, d9, -, -⟩ := h.fact.2.at_ k _ hk1
              obtain rfl : g = g9 := by injection hg9 with h1; injection h1
              exact d9)
            generalize sm (fun k => us.getD k 0 * y.getD k 0) = S at *
            have HYL := Lib.hid hyl
            rw [hyl] at d0'
            clear hk1 hmem hyb d0 iy hg' hr3 hyl
            go_wp2
            go_loopw [39, 40] (fun u j wr2 => ∃ t nd : Nat, j = .int .i64 t ∧ t ≤ m ∧ u = .int .i64 (S t) ∧ wr2 = wr.drewN nd) (fun _ j _ => m - (intOf j).toNat)
            case atStart => exact ⟨0, 0, rfl, Nat.zero_le _, by rw [HSZ], rfl⟩
            case round =>
              obtain ⟨t, nd, rfl, ht, rfl, rfl⟩ := hrel
              by_cases htl : t < m
              · have hti : (t : Int) < (m : Int) := by omega
                have hti2 : (t : Int) < (us.length : Int) := by rw [HM.out]; exact hti
                have ht0 : (0 : Int) ≤ (t : Int) := by omega
                obtain ⟨b1, o1, hA1, -, e1⟩ := (HK.out.list 0 rfl).at_ (k := t) (by rw [HM.out]; exact htl)
                obtain ⟨b2, o2, hE2, -, e2⟩ := HIY.out.at_ (k := t) (by rw [HYL.out]; exact htl)
                subst hA1 hE2
                have v1 := HVV.out t (by rw [HM.out]; exact htl)
                have v2 := HYB.out t
                have hss := HSS.out t
                have p1 := HPT.out t (by omega)
                have p2 := HPT.out (t + 1) (by omega)
                rw [hss] at p2
                generalize us.getD t 0 = x at *
                generalize y.getD t 0 = v at *
                have hm2 := mul_bd2 v1.1 v1.2 v2.1 v2.2
                have hw1 : IntKind.i64.wrap (x * v) = x * v := IntWalk.i64_in _ (by omega)
                have hw2 : IntKind.i64.wrap (S t + x * v) = S t + x * v := IntWalk.i64_in _ (by omega)
                have HSX := Lib.hid hss
                clear hss p1 p2 hm2 v1 v2
                go_wp2
                go_quiet (fail)
                go_wp2
                go_roundw
                case rel => exact ⟨t + 1, _, by go_num, by omega, by rw [HSX.out], rfl⟩
                case measure => simp [intOf]; omega
              · obtain rfl : t = m := by omega
                have hti : ¬ (t : Int) < (t : Int) := by omega
                have hti2 : ¬ (t : Int) < (us.length : Int) := by rw [HM.out]; exact hti
                have HKD := Lib.hid (HK.out.drewN nd)
                have iy2 := Lib.hid (show Ints (wr.drewN nd) (wr.drewN nd).heap.size E y from HIY.out)
                generalize wr.drewN nd = wz at *
                have HKF := Lib.hid (HKD.out.put iy2.out)
                clear HKD iy2
                generalize S t = u at *
                have a1 : ¬ o < u := by omega
                have a2 : ¬ u < p := by omega
                have a1' : decide (o < u) = false := decide_eq_false a1
                have a2' : decide (u < p) = false := decide_eq_false a2
                obtain ⟨bb, hbb⟩ : ∃ bb, (u == o) = bb := ⟨_, rfl⟩
                have hdb : decide (u = o) = bb := by rw [← hbb]; by_cases h : u = o <;> simp [h]
                rw [hdb] at HBE
                have q5 : (bb != bb) = false := by simp
                clear hdb hr1 hr2 HK
                go_wp2
                refine wp_region_line (S := (fun W => Kc (fun W => T W ∧ LLs W (some ⟨g, 0, none⟩) es) w W [(s1.heap.size, n, .slice Af f.length cf)] [(E, y), (A, us), (Af, f)])) (by kernel_rfl) (by kernel_rfl) ?_ ?_
                · exact HKF.out.drew
                refine line_take (i := 0) (v := ?_) (by simp only [List.getElem?_toArray, List.getElem?_cons_succ, List.getElem?_cons_zero]; rfl) (by kernel_rfl) (by kernel_rfl) (by rfl) ?_ ?_
                rotate_left
                · intro wy hSw; (try dsimp only at hSw); obtain ⟨b0, b1⟩ := hSw.cell 0 rfl; have hcc := HLAY.out _ hSw; go_simp; (try with_reducible rfl)
                try simp only [Act.put, List.setIfInBounds_toArray, List.set_cons_zero, List.set_cons_succ]
                refine line_take (i := 1) (v := ?_) (by simp only [List.getElem?_toArray, List.getElem?_cons_succ, List.getElem?_cons_zero]; rfl) (by kernel_rfl) (by kernel_rfl) (by rfl) ?_ ?_
                rotate_left
                · intro wy hSw; (try dsimp only at hSw); obtain ⟨b0, b1⟩ := hSw.cell 0 rfl; have hcc := HLAY.out _ hSw; go_simp; (try with_reducible rfl)
                try simp only [Act.put, List.setIfInBounds_toArray, List.set_cons_zero, List.set_cons_succ]
                refine line_take (i := 2) (v := ?_) (by simp only [List.getElem?_toArray, List.getElem?_cons_succ, List.getElem?_cons_zero]; rfl) (by kernel_rfl) (by kernel_rfl) (by rfl) ?_ ?_
                rotate_left
                · intro wy hSw; (try dsimp only at hSw); obtain ⟨b0, b1⟩ := hSw.cell 0 rfl; have hcc := HLAY.out _ hSw; go_simp; (try with_reducible rfl)
                try simp only [Act.put, List.setIfInBounds_toArray, List.set_cons_zero, List.set_cons_succ]
                refine line_take (i := 3) (v := ?_) (by simp only [List.getElem?_toArray, List.getElem?_cons_succ, List.getElem?_cons_zero]; rfl) (by kernel_rfl) (by kernel_rfl) (by rfl) ?_ ?_
                rotate_left
                · intro wy hSw; (try dsimp only at hSw); obtain ⟨b0, b1⟩ := hSw.cell 0 rfl; have hcc := HLAY.out _ hSw; go_simp; (try with_reducible rfl)
                try simp only [Act.put, List.setIfInBounds_toArray, List.set_cons_zero, List.set_cons_succ]
                refine line_take (i := 4) (v := ?_) (by simp only [List.getElem?_toArray, List.getElem?_cons_succ, List.getElem?_cons_zero]; rfl) (by kernel_rfl) (by kernel_rfl) (by rfl) ?_ ?_
                rotate_left
                · intro wy hSw; (try dsimp only at hSw); obtain ⟨b0, b1⟩ := hSw.cell 0 rfl; have hcc := HLAY.out _ hSw; go_simp; (try with_reducible rfl)
                try simp only [Act.put, List.setIfInBounds_toArray, List.set_cons_zero, List.set_cons_succ]
                refine line_take (i := 5) (v := ?_) (by simp only [List.getElem?_toArray, List.getElem?_cons_succ, List.getElem?_cons_zero]; rfl) (by kernel_rfl) (by kernel_rfl) (by rfl) ?_ ?_
                rotate_left
                · intro wy hSw; (try dsimp only at hSw); obtain ⟨b0, b1⟩ := hSw.cell 0 rfl; have hcc := HLAY.out _ hSw; go_simp; (try with_reducible rfl)
                try simp only [Act.put, List.setIfInBounds_toArray, List.set_cons_zero, List.set_cons_succ]
                refine line_take (i := 6) (v := ?_) (by simp only [List.getElem?_toArray, List.getElem?_cons_succ, List.getElem?_cons_zero]; rfl) (by kernel_rfl) (by kernel_rfl) (by rfl) ?_ ?_
                rotate_left
                · intro wy hSw; (try dsimp only at hSw); obtain ⟨b0, b1⟩ := hSw.cell 0 rfl; have hcc := HLAY.out _ hSw; go_simp; (try with_reducible rfl)
                try simp only [Act.put, List.setIfInBounds_toArray, List.set_cons_zero, List.set_cons_succ]
                refine line_take (i := 7) (v := ?_) (by simp only [List.getElem?_toArray, List.getElem?_cons_succ, List.getElem?_cons_zero]; rfl) (by kernel_rfl) (by kernel_rfl) (by rfl) ?_ ?_
                rotate_left
                · intro wy hSw; (try dsimp only at hSw); obtain ⟨b0, b1⟩ := hSw.cell 0 rfl; have hcc := HLAY.out _ hSw; go_simp; (try with_reducible rfl)
                try simp only [Act.put, List.setIfInBounds_toArray, List.set_cons_zero, List.set_cons_succ]
                refine line_take (i := 8) (v := ?_) (by simp only [List.getElem?_toArray, List.getElem?_cons_succ, List.getElem?_cons_zero]; rfl) (by kernel_rfl) (by kernel_rfl) (by rfl) ?_ ?_
                rotate_left
                · intro wy hSw; (try dsimp only at hSw); obtain ⟨b0, b1⟩ := hSw.cell 0 rfl; have hcc := HLAY.out _ hSw; go_simp; (try with_reducible rfl)
                try simp only [Act.put, List.setIfInBounds_toArray, List.set_cons_zero, List.set_cons_succ]
                refine line_take (i := 9) (v := ?_) (by simp only [List.getElem?_toArray, List.getElem?_cons_succ, List.getElem?_cons_zero]; rfl) (by kernel_rfl) (by kernel_rfl) (by rfl) ?_ ?_
                rotate_left
                · intro wy hSw; (try dsimp only at hSw); obtain ⟨b0, b1⟩ := hSw.cell 0 rfl; have hcc := HLAY.out _ hSw; go_simp; (try with_reducible rfl)
                try simp only [Act.put, List.setIfInBounds_toArray, List.set_cons_zero, List.set_cons_succ]
                refine line_take (i := 10) (v := ?_) (by simp only [List.getElem?_toArray, List.getElem?_cons_succ, List.getElem?_cons_zero]; rfl) (by kernel_rfl) (by kernel_rfl) (by rfl) ?_ ?_
                rotate_left
                · intro wy hSw; (try dsimp only at hSw); obtain ⟨b0, b1⟩ := hSw.cell 0 rfl; have hcc := HLAY.out _ hSw; go_simp; (try with_reducible rfl)
                try simp only [Act.put, List.setIfInBounds_toArray, List.set_cons_zero, List.set_cons_succ]
                refine line_take (i := 11) (v := ?_) (by simp only [List.getElem?_toArray, List.getElem?_cons_succ, List.getElem?_cons_zero]; rfl) (by kernel_rfl) (by kernel_rfl) (by rfl) ?_ ?_
                rotate_left
                · intro wy hSw; (try dsimp only at hSw); obtain ⟨b0, b1⟩ := hSw.cell 0 rfl; have hcc := HLAY.out _ hSw; go_simp; (try with_reducible rfl)
                try simp only [Act.put, List.setIfInBounds_toArray, List.set_cons_zero, List.set_cons_succ]
                refine line_take (i := 12) (v := ?_) (by simp only [List.getElem?_toArray, List.getElem?_cons_succ, List.getElem?_cons_zero]; rfl) (by kernel_rfl) (by kernel_rfl) (by rfl) ?_ ?_
                rotate_left
                · intro wy hSw; (try dsimp only at hSw); obtain ⟨b0, b1⟩ := hSw.cell 0 rfl; have hcc := HLAY.out _ hSw; go_simp; (try with_reducible rfl)
                try simp only [Act.put, List.setIfInBounds_toArray, List.set_cons_zero, List.set_cons_succ]
                refine line_take (i := 13) (v := ?_) (by simp only [List.getElem?_toArray, List.getElem?_cons_succ, List.getElem?_cons_zero]; rfl) (by kernel_rfl) (by kernel_rfl) (by rfl) ?_ ?_
                rotate_left
                · intro wy hSw; (try dsimp only at hSw); obtain ⟨b0, b1⟩ := hSw.cell 0 rfl; have hcc := HLAY.out _ hSw; go_simp; (try with_reducible rfl)
                try simp only [Act.put, List.setIfInBounds_toArray, List.set_cons_zero, List.set_cons_succ]
                refine line_take (i := 14) (v := ?_) (by simp only [List.getElem?_toArray, List.getElem?_cons_succ, List.getElem?_cons_zero]; rfl) (by kernel_rfl) (by kernel_rfl) (by rfl) ?_ ?_
                rotate_left
                · intro wy hSw; (try dsimp only at hSw); obtain ⟨b0, b1⟩ := hSw.cell 0 rfl; have hcc := HLAY.out _ hSw; go_simp; (try with_reducible rfl)
                try simp only [Act.put, List.setIfInBounds_toArray, List.set_cons_zero, List.set_cons_succ]
                refine line_take (i := 15) (v := ?_) (by simp only [List.getElem?_toArray, List.getElem?_cons_succ, List.getElem?_cons_zero]; rfl) (by kernel_rfl) (by kernel_rfl) (by rfl) ?_ ?_
                rotate_left
                · intro wy hSw; (try dsimp only at hSw); obtain ⟨b0, b1⟩ := hSw.cell 0 rfl; have hcc := HLAY.out _ hSw; go_simp; (try with_reducible rfl)
                try simp only [Act.put, List.setIfInBounds_toArray, List.set_cons_zero, List.set_cons_succ]
                refine line_take (i := 16) (v := ?_) (by simp only [List.getElem?_toArray, List.getElem?_cons_succ, List.getElem?_cons_zero]; rfl) (by kernel_rfl) (by kernel_rfl) (by rfl) ?_ ?_
                rotate_left
                · intro wy hSw; (try dsimp only at hSw); obtain ⟨b0, b1⟩ := hSw.cell 0 rfl; have hcc := HLAY.out _ hSw; go_simp; (try with_reducible rfl)
                try simp only [Act.put, List.setIfInBounds_toArray, List.set_cons_zero, List.set_cons_succ]
                refine line_take (i := 17) (v := ?_) (by simp only [List.getElem?_toArray, List.getElem?_cons_succ, List.getElem?_cons_zero]; rfl) (by kernel_rfl) (by kernel_rfl) (by rfl) ?_ ?_
                rotate_left
                · intro wy hSw; (try dsimp only at hSw); obtain ⟨b0, b1⟩ := hSw.cell 0 rfl; have hcc := HLAY.out _ hSw; go_simp; (try with_reducible rfl)
                try simp only [Act.put, List.setIfInBounds_toArray, List.set_cons_zero, List.set_cons_succ]
                refine line_call (i := 18) (v := ?_) ?_ ?_ (by simp only [List.getElem?_toArray, List.getElem?_cons_succ, List.getElem?_cons_zero]; rfl) (by kernel_rfl) (by kernel_rfl) (by rfl) ?hc1 ?hv1 ?hn1
                case hv1 => intro wy hSw; go_simp; (try first | with_reducible rfl | (constructor <;> with_reducible rfl))
                case hc1 => intro wy hSw; (try dsimp only at hSw); refine Calls.mono (by with_reducible exact HBE.out _ hSw.fact.1 (hSw.list 2 rfl) (hSw.list 1 rfl) (hSw.list 0 rfl)) ?_; rintro e9 wq ⟨rfl, hb⟩; refine ⟨?_, hSw.below hb⟩; with_reducible rfl
                try simp only [Act.put, List.setIfInBounds_toArray, List.set_cons_zero, List.set_cons_succ]
                refine line_take (i := 19) (v := ?_) (by simp only [List.getElem?_toArray, List.getElem?_cons_succ, List.getElem?_cons_zero]; rfl) (by kernel_rfl) (by kernel_rfl) (by rfl) ?_ ?_
                rotate_left
                · intro wy hSw; (try dsimp only at hSw); obtain ⟨b0, b1⟩ := hSw.cell 0 rfl; have hcc := HLAY.out _ hSw; go_simp; (try with_reducible rfl)
                try simp only [Act.put, List.setIfInBounds_toArray, List.set_cons_zero, List.set_cons_succ]
                refine line_take (i := 20) (v := ?_) (by simp only [List.getElem?_toArray, List.getElem?_cons_succ, List.getElem?_cons_zero]; rfl) (by kernel_rfl) (by kernel_rfl) (by rfl) ?_ ?_
                rotate_left
                · intro wy hSw; (try dsimp only at hSw); obtain ⟨b0, b1⟩ := hSw.cell 0 rfl; have hcc := HLAY.out _ hSw; go_simp; (try with_reducible rfl)
                try simp only [Act.put, List.setIfInBounds_toArray, List.set_cons_zero, List.set_cons_succ]
                refine Line.done (by kernel_rfl) ?_
                intro wf hSf
                have HZ := Lib.hid (Kc.only hSf (cs' := [(s1.heap.size, n, .slice Af f.length cf)]) (ls' := [(A, us), (Af, f)]) [0] [1, 2] rfl rfl)
                clear hSf HKF
                go_wp2
                go_roundw
                case rel => exact ⟨k + 1, by go_num, by omega, HZ.out⟩
                case measure => simp [intOf]; omega
          · obtain rfl : k = q := by omega
            have hki : ¬ (k : Int) < (k : Int) := by omega
            go_wp2_with fail
            go_meet
            exact ⟨HK.out.1, (fun _ h => by cases h), (fun _ h => by cases h), HK.out.fact.1, stay⟩
    case rest =>
      as_aux_lemma =>
        have HD0 := Lib.hid hcut
        clear hcut HS7 HLAW HCL q1 q2 q3 q4
        go_wp2_with fail
        refine (least7_got _ len _ hl (HY.out _ HD0.out.base)).mono ?_
        rintro e d1 ⟨A, c, xs, D, d, ys, rfl, hx6, hy6, ho1, ho2, hb⟩
        have HD1 := Lib.hid (((HD0.out.below hb).put ho1.read).put ho2.read)
        clear ho1 ho2 hb HD0
        have H1 := Lib.hid (fun W (h0 : T W) (h1 : Ints W W.heap.size A xs) (h2 : Ints W W.heap.size D ys) => iLeast.out W A xs c D ys d h0 (Lib.hid h1) (Lib.hid h2) (by omega) (by omega))
        have H2 := Lib.hid (fun W (h1 : Ints W W.heap.size A xs) (h2 : Ints W W.heap.size D ys) => leastS_any A xs c D ys d W (Lib.hid h1) (Lib.hid h2) (by omega) (by omega))
        have H3 := Lib.hid (fun W (h0 : T W) (h1 : Ints W W.heap.size A xs) (h2 : Ints W W.heap.size D ys) => iGreat.out W A xs c D ys d h0 (Lib.hid h1) (Lib.hid h2) (by omega) (by omega))
        have H4 := Lib.hid (fun W (h1 : Ints W W.heap.size A xs) (h2 : Ints W W.heap.size D ys) => greatS_any A xs c D ys d W (Lib.hid h1) (Lib.hid h2) (by omega) (by omega))
        have g1 := leastV_le7 (xs := xs) (ys := ys) hx6
        have g2 := greatV_le7 (xs := xs) (ys := ys) hx6
        generalize leastV xs ys = lv at *
        generalize greatV xs ys = gv at *
        obtain ⟨u, five⟩ := lv
        obtain ⟨v, seven⟩ := gv
        dsimp only at H1 H2 H3 H4 g1 g2
        go_wp2_with fail
        refine (H1.out _ HD1.out.fact (HD1.out.list 1 rfl) (HD1.out.list 0 rfl)).mono ?_
        rintro e d2 ⟨V1, k1, rfl, ho, hb⟩
        have HD2 := Lib.hid ((HD1.out.below hb).put ho.read)
        clear ho hb H1 HD1
        go_wp2_with fail
        refine (H2.out _ (HD2.out.list 2 rfl) (HD2.out.list 1 rfl)).mono ?_
        rintro e d3 ⟨V2, k2, rfl, ho, hb⟩
        have HD3 := Lib.hid ((HD2.out.below hb).put ho.read)
        clear ho hb H2 HD2
        go_wp2_with fail
        refine (H3.out _ HD3.out.fact (HD3.out.list 3 rfl) (HD3.out.list 2 rfl)).mono ?_
        rintro e d4 ⟨V3, k3, rfl, ho, hb⟩
        have HD4 := Lib.hid ((HD3.out.below hb).put ho.read)
        clear ho hb H3 HD3
        go_wp2_with fail
        refine (H4.out _ (HD4.out.list 4 rfl) (HD4.out.list 3 rfl)).mono ?_
        rintro e d5 ⟨V4, k4, rfl, ho, hb⟩
        have HD5 := Lib.hid (((HD4.out.below hb).put ho.read).only (cs' := []) (ls' := [(V4, v), (V3, v), (V2, u), (V1, u)]) [] [0, 1, 2, 3] rfl rfl)
        clear ho hb H4 HD4
        go_wp2_with fail
        refine (order7_got _ len _ hl (HY.out _ HD5.out.base)).mono ?_
        rintro e d6 ⟨A, c, xs, rfl, hx6, ho1, hb⟩
        have HD6 := Lib.hid ((HD5.out.below hb).put ho1.read)
        clear ho1 hb HD5
        have H1 := Lib.hid (fun W (h0 : T W) (h1 : Ints W W.heap.size A xs) => iOrd.out W A xs c h0 (Lib.hid h1) (by omega))
        have H2 := Lib.hid (fun W (h1 : Ints W W.heap.size A xs) => ordS_any A xs c W (Lib.hid h1) (by omega))
        have g3 := orderFor_le7 (ws := xs) hx6
        generalize orderFor xs = ov at *
        obtain ⟨od, nine⟩ := ov
        dsimp only at H1 H2 g3
        go_wp2_with fail
        refine (H1.out _ HD6.out.fact (HD6.out.list 0 rfl)).mono ?_
        rintro e d7 ⟨V5, k5, rfl, ho, hb⟩
        have HD7 := Lib.hid ((HD6.out.below hb).put ho.read)
        clear ho hb H1 HD6
        go_wp2_with fail
        refine (H2.out _ (HD7.out.list 1 rfl)).mono ?_
        rintro e d8 ⟨V6, k6, rfl, ho, hb⟩
        have HD8 := Lib.hid (((HD7.out.below hb).put ho.read).only (cs' := []) (ls' := [(V6, od), (V5, od), (V4, v), (V3, v), (V2, u), (V1, u)]) [] [0, 1, 3, 4, 5, 6] rfl rfl)
        clear ho hb H2 HD7
        go_wp2_with fail
        refine (pair7_got _ len _ hl (HY.out _ HD8.out.base)).mono ?_
        rintro e d9 ⟨A, c, xs, D, d, ys, rfl, hx6, hy6, ho1, ho2, hb⟩
        have HD9 := Lib.hid (((HD8.out.below hb).put ho1.read).put ho2.read)
        clear ho1 ho2 hb HD8
        have H1 := Lib.hid (fun W (h0 : T W) (h1 : Ints W W.heap.size A xs) (h2 : Ints W W.heap.size D ys) => iPair.out W A xs c D ys d h0 (Lib.hid h1) (Lib.hid h2) (by omega) (by omega))
        have H2 := Lib.hid (fun W (h1 : Ints W W.heap.size A xs) (h2 : Ints W W.heap.size D ys) => pairS_any A xs c D ys d W (Lib.hid h1) (Lib.hid h2) (by omega) (by omega))
        generalize pairV xs ys = pv at *
        obtain ⟨hh, eleven⟩ := pv
        dsimp only at H1 H2
        go_wp2_with fail
        refine (H1.out _ HD9.out.fact (HD9.out.list 1 rfl) (HD9.out.list 0 rfl)).mono ?_
        rintro e d10 ⟨rfl, hb⟩
        have HD10 := Lib.hid (HD9.out.below hb)
        clear hb H1 HD9
        go_wp2_with fail
        refine (H2.out _ (HD10.out.list 1 rfl) (HD10.out.list 0 rfl)).mono ?_
        rintro e d11 ⟨rfl, hb⟩
        have HD11 := Lib.hid ((HD10.out.below hb).only (cs' := []) (ls' := [(V6, od), (V5, od), (V4, v), (V3, v), (V2, u), (V1, u)]) [] [2, 3, 4, 5, 6, 7] rfl rfl)
        clear hb H2 HD10
        go_wp2_with fail
        refine (levd_got _ len _ hl (HY.out _ HD11.out.base)).mono ?_
        rintro e d12 ⟨A, c, xs, rfl, hx6, ho1, hb⟩
        have HD12 := Lib.hid ((HD11.out.below hb).put ho1.read)
        clear ho1 hb HD11
        have H1 := Lib.hid (fun W (h0 : T W) (h1 : Ints W W.heap.size A xs) => iLev.out W A xs c h0 (Lib.hid h1) (by omega))
        have H2 := Lib.hid (fun W (h1 : Ints W W.heap.size A xs) => levS_any A xs c W (Lib.hid h1) (by omega))
        have g4 := levels_le xs
        generalize levels xs = ev at *
        obtain ⟨le, more⟩ := ev
        dsimp only at H1 H2 g4
        go_wp2_with fail
        refine (H1.out _ HD12.out.fact (HD12.out.list 0 rfl)).mono ?_
        rintro e d13 ⟨V7, k7, rfl, ho, hb⟩
        have HD13 := Lib.hid ((HD12.out.below hb).put ho.read)
        clear ho hb H1 HD12
        go_wp2_with fail
        refine (H2.out _ (HD13.out.list 1 rfl)).mono ?_
        rintro e d14 ⟨V8, k8, rfl, ho, hb⟩
        have HD14 := Lib.hid ((HD13.out.below hb).put ho.read)
        clear ho hb H2 HD13
        have p1 : (five == five) = true := by simp
        have p2 : (seven == seven) = true := by simp
        have p3 : (nine == nine) = true := by simp
        have p4 : (hh == hh) = true := by simp
        have p5 : (eleven == eleven) = true := by simp
        have p6 : (more == more) = true := by simp
        clear iExt iInd iConv iMax iMin iPair iBest iLeast iGreat iOrd iLev
        go_wp2_with fail
        refine (sameInts_same V1 V2 u k1 k2 _ (Lib.hid (HD14.out.list 8 rfl)) (Lib.hid (HD14.out.list 7 rfl)) (by omega)).mono ?_
        rintro e d15 ⟨rfl, x1, rfl⟩
        have HD15 := Lib.hid (HD14.out.drewN x1)
        clear HD14
        generalize d14.drewN x1 = d15 at HD15 ⊢
        go_wp2_with fail
        refine (sameInts_same V3 V4 v k3 k4 _ (Lib.hid (HD15.out.list 6 rfl)) (Lib.hid (HD15.out.list 5 rfl)) (by omega)).mono ?_
        rintro e d16 ⟨rfl, x2, rfl⟩
        have HD16 := Lib.hid (HD15.out.drewN x2)
        clear HD15
        generalize d15.drewN x2 = d16 at HD16 ⊢
        go_wp2_with fail
        refine (sameInts_same V5 V6 od k5 k6 _ (Lib.hid (HD16.out.list 4 rfl)) (Lib.hid (HD16.out.list 3 rfl)) (by omega)).mono ?_
        rintro e d17 ⟨rfl, x3, rfl⟩
        have HD17 := Lib.hid (HD16.out.drewN x3)
        clear HD16
        generalize d16.drewN x3 = d17 at HD17 ⊢
        go_wp2_with fail
        refine (sameInts_same V7 V8 le k7 k8 _ (Lib.hid (HD17.out.list 1 rfl)) (Lib.hid (HD17.out.list 0 rfl)) (by omega)).mono ?_
        rintro e d18 ⟨rfl, x4, rfl⟩
        have HD18 := Lib.hid (HD17.out.drewN x4)
        clear HD17
        generalize d17.drewN x4 = d18 at HD18 ⊢
        go_wp2
        go_ret
        exact ⟨rfl, HD18.out.base⟩

set_option maxRecDepth 100000 in
set_option maxHeartbeats 16000000 in
theorem law_ext (T : World → Prop) (stay : ∀ W W', T W → Below W.heap.size W W' → T W') (a : Option Addr) (len cap : Nat) (w : World) (hm : len ≤ 9223372036854775807) (hy : Hid (Bytes w.heap.size w (.slice a len cap) len)) (HT : Hid (T w))
    (iExt : Hid (∀ (W : World) (n : Int) (A : Option Addr) (xs : List Int) (c : Nat) (D : Option Addr) (ws : List Int) (d : Nat), T W → Hid (Ints W W.heap.size A xs) → Hid (Ints W W.heap.size D ws) → ws.length ≤ 1048576 → Calls Tryz.prog 6 #[.agg #[.int .i64 n, .slice A xs.length c], .slice D ws.length d] W (RetV W (.tuple #[.int .i64 (extAt n xs ws).1, .bool (extAt n xs ws).2]))))
    (iInd : Hid (∀ (W : World) (n s : Int), T W → Calls Tryz.prog 10 #[.int .i64 n, .int .i64 s] W (RetIB W (indOf n s).1 (indOf n s).2)))
    (iConv : Hid (∀ (W : World) (n : Int) (F : Option Addr) (fs : List Int) (f : Nat) (A : Option Addr) (xs : List Int) (c : Nat) (D : Option Addr) (ys : List Int) (d : Nat), T W → Hid (Ints W W.heap.size F fs) → Hid (Ints W W.heap.size A xs) → Hid (Ints W W.heap.size D ys) → xs.length ≤ 1048576 → ys.length ≤ 1048576 → Calls Tryz.prog 12 #[.agg #[.int .i64 n, .slice F fs.length f], .slice A xs.length c, .slice D ys.length d] W (RetV W (.bool (convAt n fs xs ys)))))
    (iMax : Hid (∀ (W : World) (n : Int) (A : Option Addr) (xs : List Int) (c : Nat) (D : Option Addr) (ws : List Int) (d : Nat), T W → Hid (Ints W W.heap.size A xs) → Hid (Ints W W.heap.size D ws) → ws.length ≤ 1048576 → Calls Tryz.prog 15 #[.agg #[.int .i64 n, .slice A xs.length c], .slice D ws.length d] W (RetIIB W (maxFor n xs ws).1 (maxFor n xs ws).2.1 (maxFor n xs ws).2.2)))
    (iMin : Hid (∀ (W : World) (n : Int) (A : Option Addr) (xs : List Int) (c : Nat) (D : Option Addr) (ws : List Int) (d : Nat), T W → Hid (Ints W W.heap.size A xs) → Hid (Ints W W.heap.size D ws) → ws.length ≤ 1048576 → In64 ws → Calls Tryz.prog 17 #[.agg #[.int .i64 n, .slice A xs.length c], .slice D ws.length d] W (RetIIB W (minFor n xs ws).1 (minFor n xs ws).2.1 (minFor n xs ws).2.2)))
    (iPair : Hid (∀ (W : World) (A : Option Addr) (xs : List Int) (c : Nat) (D : Option Addr) (ys : List Int) (d : Nat), T W → Hid (Ints W W.heap.size A xs) → Hid (Ints W W.heap.size D ys) → xs.length ≤ 1048576 → ys.length ≤ 1048576 → Calls Tryz.prog 20 #[.slice A xs.length c, .slice D ys.length d] W (RetV W (.tuple #[.int .i64 (pairV xs ys).1, .bool (pairV xs ys).2]))))
    (iBest : Hid (∀ (W : World) (n : Int) (A : Option Addr) (xs : List Int) (c : Nat) (D : Option Addr) (ws : List Int) (d : Nat) (E : Option Addr) (us : List Int) (k : Nat), T W → Hid (Ints W W.heap.size A xs) → Hid (Ints W W.heap.size D ws) → Hid (Ints W W.heap.size E us) → ws.length ≤ 1048576 → us.length ≤ 1048576 → Calls Tryz.prog 21 #[.agg #[.int .i64 n, .slice A xs.length c], .slice D ws.length d, .slice E us.length k] W (RetV W (.bool (isBest n xs ws us)))))
    (iLeast : Hid (∀ (W : World) (A : Option Addr) (xs : List Int) (c : Nat) (D : Option Addr) (ys : List Int) (d : Nat), T W → Hid (Ints W W.heap.size A xs) → Hid (Ints W W.heap.size D ys) → xs.length ≤ 1048576 → ys.length ≤ 1048576 → Calls Tryz.prog 24 #[.slice A xs.length c, .slice D ys.length d] W (RetIB W (leastV xs ys).1 (leastV xs ys).2)))
    (iGreat : Hid (∀ (W : World) (A : Option Addr) (xs : List Int) (c : Nat) (D : Option Addr) (ys : List Int) (d : Nat), T W → Hid (Ints W W.heap.size A xs) → Hid (Ints W W.heap.size D ys) → xs.length ≤ 1048576 → ys.length ≤ 1048576 → Calls Tryz.prog 26 #[.slice A xs.length c, .slice D ys.length d] W (RetIB W (greatV xs ys).1 (greatV xs ys).2)))
    (iOrd : Hid (∀ (W : World) (A : Option Addr) (ws : List Int) (c : Nat), T W → Hid (Ints W W.heap.size A ws) → ws.length ≤ 1048576 → Calls Tryz.prog 29 #[.slice A ws.length c] W (RetIB W (orderFor ws).1 (orderFor ws).2)))
    (iLev : Hid (∀ (W : World) (A : Option Addr) (ws : List Int) (c : Nat), T W → Hid (Ints W W.heap.size A ws) → ws.length ≤ 1048576 → Calls Tryz.prog 34 #[.slice A ws.length c] W (RetIB W (levels ws).1 (levels ws).2)))
    : Calls Tryz.prog 3 #[.slice a len cap] w (RetV w (.bool true)) := by
  by_cases hl : len ≤ 1048576
  · exact law_ext_in T stay a len cap w hl hy HT iExt iInd iConv iMax iMin iPair iBest iLeast iGreat iOrd iLev
  · have hbd : decide ((1048576 : Int) < (len : Int)) = true := by simp; omega
    have HW := Lib.hid (St.start w)
    clear iExt iInd iConv iMax iMin iPair iBest iLeast iGreat iOrd iLev
    go_enter Tryz.func3, Tryz.ntmps3
    go_wp2_with fail
    refine (big_any5 _ _ _ _ hm).mono ?_
    rw [hbd]
    rintro e w' ⟨rfl, rfl⟩
    go_wp2
    go_ret
    exact ⟨rfl, HW.out.base⟩


end Go.Proofs.YtlbefommcahkeaaGreatDoor.C
