/-
  The law of minima, walked.
-/
import Derived.Test.YtlfbgaapigcpjaaKc
import Derived.Test.YtlfbgaapigcpjaaMiA
import Derived.Test.YtlfbgaapigcpjaaDrawQ
import Derived.Test.YtlfbgaapigcpjaaSameI
import Derived.Deep.DeepCutAuto
namespace Go.Proofs.Ytlfbgaapigcpjaa.C
open Go.RowKit M K
set_option linter.unusedVariables false
set_option linter.unusedSimpArgs false

theorem btw_in {xs : List Int} {a b : Nat} (hz : a &&& b = 0) : ∀ s, btwTo xs a b s &&& a = a ∧ btwTo xs a b s &&& b = 0
  | 0 => ⟨Nat.and_self a, hz⟩
  | s + 1 => by
    rw [btwTo]
    split
    · rename_i h
      exact ⟨h.1, h.2.1⟩
    · exact btw_in hz s
theorem between_yes {n : Int} {xs : List Int} {a b v t : Int} (h : between n xs a b = (v, t, true)) : ∃ P Q B : Nat, a = (P : Int) ∧ b = (Q : Int) ∧ t = (B : Int) ∧ P < 32 ∧ Q < 32 ∧ B < 32 ∧ B &&& P = P ∧ B &&& Q = 0 ∧ (minOf n xs).1 ≤ v ∧ valueOf n xs t = v ∧ -1000 ≤ v ∧ v ≤ 1000 := by
  unfold between at h
  split at h
  · rename_i hh
    obtain ⟨hf, ha, hb, hz⟩ := hh
    obtain ⟨a1, a2⟩ := isSet_yes ha
    obtain ⟨b1, b2⟩ := isSet_yes hb
    obtain ⟨n0, -, hl, hv⟩ := isFn_yes hf
    have h32 := (isFn_len hf).2
    obtain ⟨P, rfl⟩ := Int.eq_ofNat_of_zero_le a1
    obtain ⟨Q, rfl⟩ := Int.eq_ofNat_of_zero_le b1
    rw [Int.toNat_natCast, Int.toNat_natCast] at h
    rw [Int.toNat_natCast, Int.toNat_natCast] at hz
    have hP : P < xs.length := by omega
    have hB := btwTo_lt (xs := xs) (a := P) (b := Q) hP xs.length (Nat.le_refl _)
    obtain ⟨e1, e2⟩ := btw_in (xs := xs) hz xs.length
    have h1 : xs.getD (btwTo xs P Q xs.length) 0 = v := congrArg Prod.fst h
    have h2 : ((btwTo xs P Q xs.length : Nat) : Int) = t := congrArg (fun p => p.2.1) h
    have hle := minTo_le xs (xs.length - 1) (btwTo xs P Q xs.length) (by omega)
    have hvb := hv _ hB
    generalize btwTo xs P Q xs.length = B at *
    subst h2
    refine ⟨P, Q, B, rfl, rfl, rfl, by omega, by omega, by omega, e1, e2, ?_, ?_, by omega, by omega⟩
    · unfold minOf
      rw [hf]
      show least xs ≤ v
      unfold least
      omega
    · unfold valueOf
      have hs : isSet n (B : Int) = true := by
        have hB2 : (B : Int) < ((2 ^ n.toNat : Nat) : Int) := by omega
        simp only [isSet, Bool.and_eq_true, decide_eq_true_eq]
        exact ⟨by omega, by simpa using hB2⟩
      rw [if_pos ⟨hf, hs⟩, Int.toNat_natCast]
      exact h1
  · cases congrArg (fun p => p.2.2) h
set_option maxRecDepth 100000 in
set_option maxHeartbeats 8000000 in
theorem law_minima_in (T : World → Prop) (stay : ∀ W W', T W → Below W.heap.size W W' → T W') (a : Option Addr) (len cap : Nat) (w : World) (hl : len ≤ 1048576) (hy : Hid (Bytes w.heap.size w (.slice a len cap) len)) (HT : Hid (T w))
    (iBtw : Hid (∀ (W : World) (n : Int) (A : Option Addr) (xs : List Int) (c : Nat) (x y : Int), T W → Hid (Ints W W.heap.size A xs) → Calls Try.prog 12 #[.agg #[.int .i64 n, .slice A xs.length c], .int .i64 x, .int .i64 y] W (RetV W (.tuple #[.int .i64 (between n xs x y).1, .int .i64 (between n xs x y).2.1, .bool (between n xs x y).2.2]))))
    (iMin : Hid (∀ (W : World) (n : Int) (A : Option Addr) (xs : List Int) (c : Nat), T W → Hid (Ints W W.heap.size A xs) → Calls Try.prog 14 #[.agg #[.int .i64 n, .slice A xs.length c]] W (RetV W (.tuple #[.int .i64 (minOf n xs).1, .bool (minOf n xs).2]))))
    (iVal : Hid (∀ (W : World) (n : Int) (A : Option Addr) (xs : List Int) (c : Nat) (s : Int), T W → Hid (Ints W W.heap.size A xs) → Calls Try.prog 15 #[.agg #[.int .i64 n, .slice A xs.length c], .int .i64 s] W (RetV W (.int .i64 (valueOf n xs s)))))
    (iMins : Hid (∀ (W : World) (n : Int) (A : Option Addr) (xs : List Int) (c : Nat), T W → Hid (Ints W W.heap.size A xs) → Calls Try.prog 17 #[.agg #[.int .i64 n, .slice A xs.length c]] W (RetIB W (minimizers n xs).1 (minimizers n xs).2)))
    (iLm : Hid (∀ (W : World) (n : Int) (A : Option Addr) (xs : List Int) (c : Nat), T W → Hid (Ints W W.heap.size A xs) → Calls Try.prog 20 #[.agg #[.int .i64 n, .slice A xs.length c]] W (RetV W (.tuple #[.int .i64 (leastMin n xs).1, .bool (leastMin n xs).2]))))
    (iGm : Hid (∀ (W : World) (n : Int) (A : Option Addr) (xs : List Int) (c : Nat), T W → Hid (Ints W W.heap.size A xs) → Calls Try.prog 22 #[.agg #[.int .i64 n, .slice A xs.length c]] W (RetV W (.tuple #[.int .i64 (greatMin n xs).1, .bool (greatMin n xs).2]))))
    (iLat : Hid (∀ (W : World) (A : Option Addr) (xs : List Int) (c : Nat), T W → Hid (Ints W W.heap.size A xs) → xs.length ≤ 1048576 → Calls Try.prog 26 #[.slice A xs.length c] W (RetV W (.bool (isLat xs))))) :
    Calls Try.prog 3 #[.slice a len cap] w (RetV w (.bool true)) := by
  have hbd : decide ((1048576 : Int) < (len : Int)) = false := by simp; omega
  have HK0 := Lib.hid (show Kc T w w [] [] from ⟨Below.refl _ _, (fun _ h => by cases h), (fun _ h => by cases h), HT.out, stay⟩)
  have HY := Lib.hid (fun (W : World) (h : Below w.heap.size w W) => bytes_at5 hy h)
  go_enter Try.func3, Try.ntmps3
  go_wp2_with fail
  refine (big_any5 _ _ _ _ (by omega)).mono ?_
  rw [hbd]
  rintro e w' ⟨rfl, rfl⟩
  clear hbd
  go_wp2_with fail
  refine (minb_got _ len _ _ hl (HY.out _ HK0.out.base)).mono ?_
  rintro e w1 ⟨_, n, f, x, y, rfl, ⟨x0, x1, y0, y1⟩, ⟨Af, cf, rfl, hof, hlf1, hlf2⟩, hb⟩
  have HK1 := Lib.hid (((HK0.out.below hb).put hof.read).box n (.slice Af f.length cf) 26)
  clear hof hb HK0
  have HB1 := Lib.hid (fun W (h0 : T W) (h1 : Ints W W.heap.size Af f) => iBtw.out W n Af f cf x y h0 (Lib.hid h1))
  have HB2 := Lib.hid (fun W (h1 : Ints W W.heap.size Af f) => btwS_any n Af f cf x y W (Lib.hid h1))
  have HM := Lib.hid (fun W (h0 : T W) (h1 : Ints W W.heap.size Af f) => iMin.out W n Af f cf h0 (Lib.hid h1))
  have HV := Lib.hid (fun W s (h0 : T W) (h1 : Ints W W.heap.size Af f) => iVal.out W n Af f cf s h0 (Lib.hid h1))
  obtain ⟨v, t, is, hbt⟩ : ∃ v t is, between n f x y = (v, t, is) := ⟨_, _, _, rfl⟩
  rw [hbt] at HB1 HB2
  dsimp only at HB1 HB2
  have HBT := Lib.hid hbt
  clear hbt iBtw iVal
  obtain ⟨c00, c01⟩ := HK1.out.cell 0 rfl
  go_wp2_with fail
  refine (HB1.out _ HK1.out.fact (HK1.out.list 0 rfl)).mono ?_
  rintro e w2 ⟨rfl, hb⟩
  have HK2 := Lib.hid (HK1.out.below hb)
  clear hb c00 c01 HB1 HK1
  obtain ⟨c00, c01⟩ := HK2.out.cell 0 rfl
  go_wp2_with fail
  refine (HB2.out _ (HK2.out.list 0 rfl)).mono ?_
  rintro e w3 ⟨rfl, hb⟩
  have HK3 := Lib.hid (HK2.out.below hb)
  clear hb c00 c01 HB2 HK2
  have q1 : (v != v) = false := by simp
  have q2 : (t != t) = false := by simp
  have q3 : (is != is) = false := by simp
  go_upto_if 69 with (fail)
  go_cut [] (fun wx => Kc T w wx [] [])
  case first =>
    as_aux_lemma =>
      cases is
      · go_wp2_with fail
        go_meet
        exact HK3.out.only (cs' := []) (ls' := []) [] [] rfl rfl
      · skip
        obtain ⟨P, Q, B, rfl, rfl, rfl, hP, hQ, hB, e1, e2, hle, hval, v0, v1⟩ := between_yes HBT.out
        have hv := HV.out
        clear HV
        have HVB := Lib.hid (fun W h0 h1 => hv W (B : Int) h0 h1)
        rw [hval] at HVB
        generalize (minOf n f).1 = mm at *
        generalize (minOf n f).2 = mb at *
        have n1 := and_nat10 B P (by omega) (by omega)
        have n2 := and_nat10 B Q (by omega) (by omega)
        rw [e1] at n1
        rw [e2] at n2
        have a1 : ¬ v < mm := by omega
        have a2 : ((P : Int) != (P : Int)) = false := by simp
        have a3 : (((0 : Nat) : Int) != (0 : Int)) = false := by decide
        clear hv hval e1 e2 hle HBT
        obtain ⟨c00, c01⟩ := HK3.out.cell 0 rfl
        go_wp2_with fail
        refine (HM.out _ HK3.out.fact (HK3.out.list 0 rfl)).mono ?_
        rintro e w4 ⟨rfl, hb⟩
        have HK4 := Lib.hid (HK3.out.below hb)
        clear hb c00 c01 HM
        obtain ⟨c00, c01⟩ := HK4.out.cell 0 rfl
        go_wp2_with fail
        refine (HVB.out _ HK4.out.fact (HK4.out.list 0 rfl)).mono ?_
        rintro e w5 ⟨rfl, hb⟩
        have HK5 := Lib.hid (HK4.out.below hb)
        clear hb c00 c01
        go_wp2
        go_meet
        exact HK5.out.only (cs' := []) (ls' := []) [] [] rfl rfl
  case rest =>
    as_aux_lemma =>
      have HR0 := Lib.hid hcut
      clear hcut HK3 HV HM HBT q1 q2 q3
      go_wp2_with fail
      refine (minz_got hl (HY.out _ HR0.out.base)).mono ?_
      rintro e r1 ⟨_, m, u, rfl, ⟨Ag, cg, rfl, hog, hlg1, hlg2⟩, hb⟩
      have HR1 := Lib.hid (((HR0.out.below hb).put hog.read).box m (.slice Ag u.length cg) 26)
      clear hog hb HR0
      have I1 := Lib.hid (fun W (h0 : T W) (h1 : Ints W W.heap.size Ag u) => iMins.out W m Ag u cg h0 (Lib.hid h1))
      have S1 := Lib.hid (fun W (h1 : Ints W W.heap.size Ag u) => minsS_any m Ag u cg W (Lib.hid h1))
      have I2 := Lib.hid (fun W (h0 : T W) (h1 : Ints W W.heap.size Ag u) => iMin.out W m Ag u cg h0 (Lib.hid h1))
      have S2 := Lib.hid (fun W (h1 : Ints W W.heap.size Ag u) => minOfS_any m Ag u cg W (Lib.hid h1))
      have I3 := Lib.hid (fun W (h0 : T W) (h1 : Ints W W.heap.size Ag u) => iLm.out W m Ag u cg h0 (Lib.hid h1))
      have S3 := Lib.hid (fun W (h1 : Ints W W.heap.size Ag u) => lminS_any m Ag u cg W (Lib.hid h1))
      have I4 := Lib.hid (fun W (h0 : T W) (h1 : Ints W W.heap.size Ag u) => iGm.out W m Ag u cg h0 (Lib.hid h1))
      have S4 := Lib.hid (fun W (h1 : Ints W W.heap.size Ag u) => gminS_any m Ag u cg W (Lib.hid h1))
      have hml := minimizers_le m u
      clear iMins iMin iLm iGm
      generalize (minimizers m u).1 = ls at *
      generalize (minimizers m u).2 = lb at *
      generalize (minOf m u).1 = mv at *
      generalize (minOf m u).2 = mb at *
      generalize (leastMin m u).1 = av at *
      generalize (leastMin m u).2 = ab at *
      generalize (greatMin m u).1 = bv at *
      generalize (greatMin m u).2 = bb at *
      obtain ⟨c00, c01⟩ := HR1.out.cell 0 rfl
      go_wp2_with fail
      refine (I1.out _ HR1.out.fact (HR1.out.list 0 rfl)).mono ?_
      rintro e r2 ⟨V1, cV1, rfl, ho, hb⟩
      have HR2 := Lib.hid ((HR1.out.below hb).put ho.read)
      clear ho hb c00 c01 I1 HR1
      obtain ⟨c00, c01⟩ := HR2.out.cell 0 rfl
      go_wp2_with fail
      refine (S1.out _ (HR2.out.list 1 rfl)).mono ?_
      rintro e r3 ⟨V2, cV2, rfl, ho, hb⟩
      have HR3 := Lib.hid ((HR2.out.below hb).put ho.read)
      clear ho hb c00 c01 S1 HR2
      obtain ⟨c00, c01⟩ := HR3.out.cell 0 rfl
      go_wp2_with fail
      refine (I2.out _ HR3.out.fact (HR3.out.list 2 rfl)).mono ?_
      rintro e r4 ⟨rfl, hb⟩
      have HR4 := Lib.hid (HR3.out.below hb)
      clear hb c00 c01 I2 HR3
      obtain ⟨c00, c01⟩ := HR4.out.cell 0 rfl
      go_wp2_with fail
      refine (S2.out _ (HR4.out.list 2 rfl)).mono ?_
      rintro e r5 ⟨rfl, hb⟩
      have HR5 := Lib.hid (HR4.out.below hb)
      clear hb c00 c01 S2 HR4
      obtain ⟨c00, c01⟩ := HR5.out.cell 0 rfl
      go_wp2_with fail
      refine (I3.out _ HR5.out.fact (HR5.out.list 2 rfl)).mono ?_
      rintro e r6 ⟨rfl, hb⟩
      have HR6 := Lib.hid (HR5.out.below hb)
      clear hb c00 c01 I3 HR5
      obtain ⟨c00, c01⟩ := HR6.out.cell 0 rfl
      go_wp2_with fail
      refine (S3.out _ (HR6.out.list 2 rfl)).mono ?_
      rintro e r7 ⟨rfl, hb⟩
      have HR7 := Lib.hid (HR6.out.below hb)
      clear hb c00 c01 S3 HR6
      obtain ⟨c00, c01⟩ := HR7.out.cell 0 rfl
      go_wp2_with fail
      refine (I4.out _ HR7.out.fact (HR7.out.list 2 rfl)).mono ?_
      rintro e r8 ⟨rfl, hb⟩
      have HR8 := Lib.hid (HR7.out.below hb)
      clear hb c00 c01 I4 HR7
      obtain ⟨c00, c01⟩ := HR8.out.cell 0 rfl
      go_wp2_with fail
      refine (S4.out _ (HR8.out.list 2 rfl)).mono ?_
      rintro e r9 ⟨rfl, hb⟩
      have HR9 := Lib.hid (HR8.out.below hb)
      clear hb c00 c01 S4 HR8
      go_wp2_with fail
      refine (latd_got hl (HY.out _ HR9.out.base)).mono ?_
      rintro e r10 ⟨Al, cl, us, rfl, hul, ho, hb⟩
      have HR10 := Lib.hid ((HR9.out.below hb).put ho.read)
      clear ho hb HR9
      have IL := Lib.hid (fun W (h0 : T W) (h1 : Ints W W.heap.size Al us) => iLat.out W Al us cl h0 (Lib.hid h1) hul)
      have SL := Lib.hid (fun W (h1 : Ints W W.heap.size Al us) => latS_any Al us cl W (Lib.hid h1) hul)
      generalize isLat us = lz at *
      have p1 : (lb == lb) = true := by simp
      have p2 : (mv == mv) = true := by simp
      have p3 : (mb == mb) = true := by simp
      have p4 : (av == av) = true := by simp
      have p5 : (ab == ab) = true := by simp
      have p6 : (bv == bv) = true := by simp
      have p7 : (bb == bb) = true := by simp
      have p8 : (lz == lz) = true := by simp
      clear iLat
      go_wp2_with fail
      refine (sameInts_same V1 V2 ls cV1 cV2 _ (Lib.hid (HR10.out.list 2 rfl)) (Lib.hid (HR10.out.list 1 rfl)) (by omega)).mono ?_
      rintro e r11 ⟨rfl, qs, rfl⟩
      have HR11 := Lib.hid (HR10.out.drewN qs)
      clear HR10
      go_wp2_with fail
      refine (IL.out _ HR11.out.fact (HR11.out.list 0 rfl)).mono ?_
      rintro e r12 ⟨rfl, hb⟩
      have HR12 := Lib.hid (HR11.out.below hb)
      clear hb HR11
      go_wp2_with fail
      refine (SL.out _ (HR12.out.list 0 rfl)).mono ?_
      rintro e r13 ⟨rfl, hb⟩
      have HR13 := Lib.hid (HR12.out.below hb)
      clear hb HR12
      go_wp2
      go_ret
      exact ⟨rfl, HR13.out.base⟩

set_option maxRecDepth 100000 in
set_option maxHeartbeats 1600000 in
theorem law_minima (T : World → Prop) (stay : ∀ W W', T W → Below W.heap.size W W' → T W') (a : Option Addr) (len cap : Nat) (w : World) (hm : len ≤ 9223372036854775807) (hy : Hid (Bytes w.heap.size w (.slice a len cap) len)) (HT : Hid (T w))
    (iBtw : Hid (∀ (W : World) (n : Int) (A : Option Addr) (xs : List Int) (c : Nat) (x y : Int), T W → Hid (Ints W W.heap.size A xs) → Calls Try.prog 12 #[.agg #[.int .i64 n, .slice A xs.length c], .int .i64 x, .int .i64 y] W (RetV W (.tuple #[.int .i64 (between n xs x y).1, .int .i64 (between n xs x y).2.1, .bool (between n xs x y).2.2]))))
    (iMin : Hid (∀ (W : World) (n : Int) (A : Option Addr) (xs : List Int) (c : Nat), T W → Hid (Ints W W.heap.size A xs) → Calls Try.prog 14 #[.agg #[.int .i64 n, .slice A xs.length c]] W (RetV W (.tuple #[.int .i64 (minOf n xs).1, .bool (minOf n xs).2]))))
    (iVal : Hid (∀ (W : World) (n : Int) (A : Option Addr) (xs : List Int) (c : Nat) (s : Int), T W → Hid (Ints W W.heap.size A xs) → Calls Try.prog 15 #[.agg #[.int .i64 n, .slice A xs.length c], .int .i64 s] W (RetV W (.int .i64 (valueOf n xs s)))))
    (iMins : Hid (∀ (W : World) (n : Int) (A : Option Addr) (xs : List Int) (c : Nat), T W → Hid (Ints W W.heap.size A xs) → Calls Try.prog 17 #[.agg #[.int .i64 n, .slice A xs.length c]] W (RetIB W (minimizers n xs).1 (minimizers n xs).2)))
    (iLm : Hid (∀ (W : World) (n : Int) (A : Option Addr) (xs : List Int) (c : Nat), T W → Hid (Ints W W.heap.size A xs) → Calls Try.prog 20 #[.agg #[.int .i64 n, .slice A xs.length c]] W (RetV W (.tuple #[.int .i64 (leastMin n xs).1, .bool (leastMin n xs).2]))))
    (iGm : Hid (∀ (W : World) (n : Int) (A : Option Addr) (xs : List Int) (c : Nat), T W → Hid (Ints W W.heap.size A xs) → Calls Try.prog 22 #[.agg #[.int .i64 n, .slice A xs.length c]] W (RetV W (.tuple #[.int .i64 (greatMin n xs).1, .bool (greatMin n xs).2]))))
    (iLat : Hid (∀ (W : World) (A : Option Addr) (xs : List Int) (c : Nat), T W → Hid (Ints W W.heap.size A xs) → xs.length ≤ 1048576 → Calls Try.prog 26 #[.slice A xs.length c] W (RetV W (.bool (isLat xs))))) :
    Calls Try.prog 3 #[.slice a len cap] w (RetV w (.bool true)) := by
  by_cases hl : len ≤ 1048576
  · exact law_minima_in T stay a len cap w hl hy HT iBtw iMin iVal iMins iLm iGm iLat
  · have hbd : decide ((1048576 : Int) < (len : Int)) = true := by simp; omega
    have HW := Lib.hid (St.start w)
    go_enter Try.func3, Try.ntmps3
    go_wp2_with fail
    refine (big_any5 _ _ _ _ hm).mono ?_
    rw [hbd]
    rintro e w' ⟨rfl, rfl⟩
    go_wp2
    go_ret
    exact ⟨rfl, HW.out.base⟩

end Go.Proofs.Ytlfbgaapigcpjaa.C
