/-
  The law of convex extensions, walked.
-/
import Derived.Test.YtgenllnpmjialaaKc
import Derived.Test.YtgenllnpmjialaaExV
import Derived.Test.YtgenllnpmjialaaDrawP
namespace Go.Proofs.Ytgenllnpmjialaa.C
open Go.RowKit M K
set_option linter.unusedVariables false
set_option linter.unusedSimpArgs false

set_option maxRecDepth 100000 in
set_option maxHeartbeats 8000000 in
theorem law_convex_in (T : World → Prop) (stay : ∀ W W', T W → Below W.heap.size W W' → T W') (a : Option Addr) (len cap : Nat) (w : World) (hl : len ≤ 1048576) (hy : Hid (Bytes w.heap.size w (.slice a len cap) len)) (HT : Hid (T w))
    (iLeast : Hid (∀ (W : World) (A : Option Addr) (xs : List Int) (c : Nat) (D : Option Addr) (ys : List Int) (d : Nat), T W → Hid (Ints W W.heap.size A xs) → Hid (Ints W W.heap.size D ys) → xs.length ≤ 1048576 → ys.length ≤ 1048576 → Calls Try.prog 14 #[.slice A xs.length c, .slice D ys.length d] W (RetIB W (leastV xs ys).1 (leastV xs ys).2)))
    (iGreat : Hid (∀ (W : World) (A : Option Addr) (xs : List Int) (c : Nat) (D : Option Addr) (ys : List Int) (d : Nat), T W → Hid (Ints W W.heap.size A xs) → Hid (Ints W W.heap.size D ys) → xs.length ≤ 1048576 → ys.length ≤ 1048576 → Calls Try.prog 15 #[.slice A xs.length c, .slice D ys.length d] W (RetIB W (greatV xs ys).1 (greatV xs ys).2)))
    (iExt : Hid (∀ (W : World) (n : Int) (A : Option Addr) (xs : List Int) (c : Nat) (D : Option Addr) (ws : List Int) (d : Nat), T W → Hid (Ints W W.heap.size A xs) → Hid (Ints W W.heap.size D ws) → ws.length ≤ 1048576 → Calls Try.prog 16 #[.agg #[.int .i64 n, .slice A xs.length c], .slice D ws.length d] W (RetV W (.tuple #[.int .i64 (extAt n xs ws).1, .bool (extAt n xs ws).2]))))
    (iConv : Hid (∀ (W : World) (n : Int) (F : Option Addr) (fs : List Int) (f : Nat) (A : Option Addr) (xs : List Int) (c : Nat) (D : Option Addr) (ys : List Int) (d : Nat), T W → Hid (Ints W W.heap.size F fs) → Hid (Ints W W.heap.size A xs) → Hid (Ints W W.heap.size D ys) → xs.length ≤ 1048576 → ys.length ≤ 1048576 → Calls Try.prog 17 #[.agg #[.int .i64 n, .slice F fs.length f], .slice A xs.length c, .slice D ys.length d] W (RetV W (.bool (convAt n fs xs ys))))) :
    Calls Try.prog 3 #[.slice a len cap] w (RetV w (.bool true)) := by
  have hbd : decide ((1048576 : Int) < (len : Int)) = false := by simp; omega
  have HK0 := Lib.hid (show Kc T w w [] [] from ⟨Below.refl _ _, (fun _ h => by cases h), (fun _ h => by cases h), HT.out, stay⟩)
  have HY := Lib.hid (fun (W : World) (h : Below w.heap.size w W) => bytes_at5 hy h)
  go_enter Try.func3, Try.ntmps3
  go_wp2_with fail
  refine (big_any5 _ _ _ _ (by omega)).mono ?_
  rw [hbd]
  rintro e w' ⟨rfl, rfl⟩
  clear hbd
  go_wp2_with fail
  refine (convex_got _ len _ hl (HY.out _ HK0.out.base)).mono ?_
  rintro e w1 ⟨_, n, f, A, c, us, D, d, ws, rfl, hu5, hwl, ⟨Af, cf, rfl, hof, hlf1, hlf2⟩, hou, how, hb⟩
  have HK1 := Lib.hid (((((HK0.out.below hb).put hof.read).put hou.read).put how.read).box n (.slice Af f.length cf) 26)
  clear hof hou how hb HK0
  obtain ⟨m, hm⟩ : ∃ m, us.length = m := ⟨_, rfl⟩
  have HU := Lib.hid hm
  have HW := Lib.hid (hwl.trans hm)
  have HE1 := Lib.hid (fun W (h1 : Ints W W.heap.size Af f) (h2 : Ints W W.heap.size A us) => extS_any n Af f cf A us c W (Lib.hid h1) (Lib.hid h2) (by omega))
  have HE2 := Lib.hid (fun W (h1 : Ints W W.heap.size Af f) (h2 : Ints W W.heap.size D ws) => extS_any n Af f cf D ws d W (Lib.hid h1) (Lib.hid h2) (by omega))
  have HSB := Lib.hid (fun W (h1 : Ints W W.heap.size Af f) => subS_any n Af f cf W (Lib.hid h1))
  have HLW := Lib.hid (fun h1 h2 h3 h4 => convex_law (n := n) (fs := f) (us := us) (ws := ws) h1 h2 h3 h4)
  have HL := Lib.hid (fun W (h0 : T W) (h1 : Ints W W.heap.size A us) (h2 : Ints W W.heap.size D ws) => iLeast.out W A us c D ws d h0 (Lib.hid h1) (Lib.hid h2) (by omega) (by omega))
  have HG := Lib.hid (fun W (h0 : T W) (h1 : Ints W W.heap.size A us) (h2 : Ints W W.heap.size D ws) => iGreat.out W A us c D ws d h0 (Lib.hid h1) (Lib.hid h2) (by omega) (by omega))
  have HC := Lib.hid (fun W (h0 : T W) (hf : Ints W W.heap.size Af f) (h1 : Ints W W.heap.size A us) (h2 : Ints W W.heap.size D ws) => iConv.out W n Af f cf A us c D ws d h0 (Lib.hid hf) (Lib.hid h1) (Lib.hid h2) (by omega) (by omega))
  have B1 := extAt_bd n f us
  have B2 := extAt_bd n f ws
  obtain ⟨x, one, e1⟩ : ∃ x b, extAt n f us = (x, b) := ⟨_, _, rfl⟩
  obtain ⟨y, two, e2⟩ : ∃ x b, extAt n f ws = (x, b) := ⟨_, _, rfl⟩
  have H1 := Lib.hid e1
  have H2 := Lib.hid e2
  rw [e1] at HE1 B1
  rw [e2] at HE2 B2
  dsimp only at HE1 HE2 B1 B2
  obtain ⟨sb, hsb⟩ : ∃ b, isSub n f = b := ⟨_, rfl⟩
  have H3 := Lib.hid hsb
  rw [hsb] at HSB
  rw [hm] at HE1 HL HG HC HLW hu5
  rw [hwl.trans hm] at HE2 HL HG HC
  rw [hwl.trans hm, hm]
  clear e1 e2 hsb hm hwl
  obtain ⟨c00, c01⟩ := HK1.out.cell 0 rfl
  go_wp2_with fail
  refine (HE1.out _ (HK1.out.list 2 rfl) (HK1.out.list 1 rfl)).mono ?_
  rintro e w2 ⟨rfl, hb⟩
  have HK2 := Lib.hid (HK1.out.below hb)
  clear hb c00 c01 HE1 HK1
  obtain ⟨c00, c01⟩ := HK2.out.cell 0 rfl
  go_wp2_with fail
  refine (HE2.out _ (HK2.out.list 2 rfl) (HK2.out.list 0 rfl)).mono ?_
  rintro e w3 ⟨rfl, hb⟩
  have HK3 := Lib.hid (HK2.out.below hb)
  clear hb c00 c01 HE2 HK2
  obtain ⟨c00, c01⟩ := HK3.out.cell 0 rfl
  cases one
  · go_wp2
    go_ret
    exact ⟨rfl, HK3.out.base⟩
  cases two
  · go_wp2
    go_ret
    exact ⟨rfl, HK3.out.base⟩
  go_wp2_with fail
  refine (HSB.out _ (HK3.out.list 2 rfl)).mono ?_
  rintro e w4 ⟨rfl, hb⟩
  have HK4 := Lib.hid (HK3.out.below hb)
  clear hb c00 c01 HSB HK3
  cases sb
  · go_wp2
    go_ret
    exact ⟨rfl, HK4.out.base⟩
  obtain ⟨ok1, hx1⟩ := extAt_yes H1.out
  obtain ⟨ok2, hy1⟩ := extAt_yes H2.out
  have HLX := Lib.hid (fun h4 => HLW.out ok1 ok2 H3.out h4)
  have HXY := Lib.hid (show x + y = extV f us + extV f ws by rw [hx1, hy1])
  clear ok1 ok2 hx1 hy1 HLW
  go_wp2
  go_loopw [10] (fun i wr => ∃ j : Nat, i = .int .i64 j ∧ j ≤ m ∧ Hid (∀ k, k < j → (-100 ≤ us.getD k 0 ∧ us.getD k 0 ≤ 100) ∧ (-100 ≤ ws.getD k 0 ∧ ws.getD k 0 ≤ 100)) ∧ Kc T w wr [(w1.heap.size, n, .slice Af f.length cf)] [(D, ws), (A, us), (Af, f)]) (fun i _ => m - (intOf i).toNat)
  case atStart => exact ⟨0, rfl, Nat.zero_le _, Lib.hid (fun k hk => absurd hk (by omega)), HK4.out⟩
  case round =>
    obtain ⟨j, rfl, hj, HSMALL, hK⟩ := hrel
    have HR := Lib.hid hK
    clear hK HK4
    by_cases hlt : j < m
    · have hji : (j : Int) < (m : Int) := by omega
      have hj0 : (0 : Int) ≤ (j : Int) := by omega
      obtain ⟨r1, o1, rfl, -, hc⟩ := (HR.out.list 1 rfl).at_ (k := j) (by rw [HU.out]; omega)
      obtain ⟨r2, o2, rfl, -, hd⟩ := (HR.out.list 0 rfl).at_ (k := j) (by rw [HW.out]; omega)
      have HSN := Lib.hid (show (∀ k, k < j → (-100 ≤ us.getD k 0 ∧ us.getD k 0 ≤ 100) ∧ (-100 ≤ ws.getD k 0 ∧ ws.getD k 0 ≤ 100)) → ((-100 ≤ us.getD j 0 ∧ us.getD j 0 ≤ 100) ∧ (-100 ≤ ws.getD j 0 ∧ ws.getD j 0 ≤ 100)) → ∀ k, k < j + 1 → (-100 ≤ us.getD k 0 ∧ us.getD k 0 ≤ 100) ∧ (-100 ≤ ws.getD k 0 ∧ ws.getD k 0 ≤ 100) from fun h1 h2 k hk => by
        rcases Nat.lt_or_ge k j with h3 | h3
        · exact h1 k h3
        · obtain rfl : k = j := by omega
          exact h2)
      have HSN2 := Lib.hid (fun h2 => HSN.out HSMALL.out h2)
      clear HSN
      generalize us.getD j 0 = p at hc HSN2
      generalize ws.getD j 0 = q at hd HSN2
      by_cases p1 : 100 < p
      · go_wp2
        go_ret
        exact ⟨rfl, HR.out.base⟩
      have p1' : decide (100 < p) = false := decide_eq_false p1
      by_cases p2 : p < -100
      · go_wp2
        go_ret
        exact ⟨rfl, HR.out.base⟩
      have p2' : decide (p < -100) = false := decide_eq_false p2
      by_cases q1 : 100 < q
      · go_wp2
        go_ret
        exact ⟨rfl, HR.out.base⟩
      have q1' : decide (100 < q) = false := decide_eq_false q1
      by_cases q2 : q < -100
      · go_wp2
        go_ret
        exact ⟨rfl, HR.out.base⟩
      have q2' : decide (q < -100) = false := decide_eq_false q2
      go_wp2
      go_roundw
      case rel => exact ⟨j + 1, by go_num, by omega, Lib.hid (HSN2.out ⟨⟨by omega, by omega⟩, ⟨by omega, by omega⟩⟩), HR.out⟩
      case measure => simp [intOf]; omega
    · obtain rfl : j = m := by omega
      have hjn : ¬ (j : Int) < (j : Int) := by omega
      obtain ⟨u, v, s, t, hu, hv, hu5', hv5, es, et, hcv, hle, hs1, ht1⟩ := HLX.out HSMALL.out
      rw [← HXY.out] at hle
      rw [hu] at HL
      rw [hv] at HG
      rw [hcv] at HC
      have HEU := Lib.hid (fun W E e (h0 : T W) (h1 : Ints W W.heap.size Af f) (h2 : Ints W W.heap.size E u) => iExt.out W n Af f cf E u e h0 (Lib.hid h1) (Lib.hid h2) (by omega))
      have HEV := Lib.hid (fun W E e (h0 : T W) (h1 : Ints W W.heap.size Af f) (h2 : Ints W W.heap.size E v) => iExt.out W n Af f cf E v e h0 (Lib.hid h1) (Lib.hid h2) (by omega))
      rw [es] at HEU
      rw [et] at HEV
      dsimp only at HEU HEV HL HG
      have hw1 : IntKind.i64.wrap (x + y) = x + y := IntWalk.i64_in _ (by omega)
      have hw2 : IntKind.i64.wrap (s + t) = s + t := IntWalk.i64_in _ (by omega)
      clear hu hv es et hcv HLX iLeast iGreat iExt iConv
      go_wp2_with fail
      refine (HL.out _ HR.out.fact (HR.out.list 1 rfl) (HR.out.list 0 rfl)).mono ?_
      rintro e w5 ⟨E, e5, rfl, ho, hb⟩
      have HK5 := Lib.hid ((HR.out.below hb).put ho.read)
      clear ho hb HL HR
      go_wp2_with fail
      refine (HG.out _ HK5.out.fact (HK5.out.list 2 rfl) (HK5.out.list 1 rfl)).mono ?_
      rintro e w6 ⟨G, e6, rfl, ho, hb⟩
      have HK6 := Lib.hid ((HK5.out.below hb).put ho.read)
      clear ho hb HG HK5
      obtain ⟨c00, c01⟩ := HK6.out.cell 0 rfl
      go_wp2_with fail
      refine (HEU.out _ _ _ HK6.out.fact (HK6.out.list 4 rfl) (HK6.out.list 1 rfl)).mono ?_
      rintro e w7 ⟨rfl, hb⟩
      have HK7 := Lib.hid (HK6.out.below hb)
      clear hb HEU HK6 c00 c01
      obtain ⟨c00, c01⟩ := HK7.out.cell 0 rfl
      go_wp2_with fail
      refine (HEV.out _ _ _ HK7.out.fact (HK7.out.list 4 rfl) (HK7.out.list 0 rfl)).mono ?_
      rintro e w8 ⟨rfl, hb⟩
      have HK8 := Lib.hid (HK7.out.below hb)
      clear hb HEV HK7 c00 c01
      obtain ⟨c00, c01⟩ := HK8.out.cell 0 rfl
      go_wp2_with fail
      refine (HC.out _ HK8.out.fact (HK8.out.list 4 rfl) (HK8.out.list 3 rfl) (HK8.out.list 2 rfl)).mono ?_
      rintro e w9 ⟨rfl, hb⟩
      have HK9 := Lib.hid (HK8.out.below hb)
      clear hb HC HK8 c00 c01
      go_wp2
      go_ret
      exact ⟨rfl, HK9.out.base⟩

set_option maxRecDepth 100000 in
set_option maxHeartbeats 1600000 in
theorem law_convex (T : World → Prop) (stay : ∀ W W', T W → Below W.heap.size W W' → T W') (a : Option Addr) (len cap : Nat) (w : World) (hm : len ≤ 9223372036854775807) (hy : Hid (Bytes w.heap.size w (.slice a len cap) len)) (HT : Hid (T w))
    (iLeast : Hid (∀ (W : World) (A : Option Addr) (xs : List Int) (c : Nat) (D : Option Addr) (ys : List Int) (d : Nat), T W → Hid (Ints W W.heap.size A xs) → Hid (Ints W W.heap.size D ys) → xs.length ≤ 1048576 → ys.length ≤ 1048576 → Calls Try.prog 14 #[.slice A xs.length c, .slice D ys.length d] W (RetIB W (leastV xs ys).1 (leastV xs ys).2)))
    (iGreat : Hid (∀ (W : World) (A : Option Addr) (xs : List Int) (c : Nat) (D : Option Addr) (ys : List Int) (d : Nat), T W → Hid (Ints W W.heap.size A xs) → Hid (Ints W W.heap.size D ys) → xs.length ≤ 1048576 → ys.length ≤ 1048576 → Calls Try.prog 15 #[.slice A xs.length c, .slice D ys.length d] W (RetIB W (greatV xs ys).1 (greatV xs ys).2)))
    (iExt : Hid (∀ (W : World) (n : Int) (A : Option Addr) (xs : List Int) (c : Nat) (D : Option Addr) (ws : List Int) (d : Nat), T W → Hid (Ints W W.heap.size A xs) → Hid (Ints W W.heap.size D ws) → ws.length ≤ 1048576 → Calls Try.prog 16 #[.agg #[.int .i64 n, .slice A xs.length c], .slice D ws.length d] W (RetV W (.tuple #[.int .i64 (extAt n xs ws).1, .bool (extAt n xs ws).2]))))
    (iConv : Hid (∀ (W : World) (n : Int) (F : Option Addr) (fs : List Int) (f : Nat) (A : Option Addr) (xs : List Int) (c : Nat) (D : Option Addr) (ys : List Int) (d : Nat), T W → Hid (Ints W W.heap.size F fs) → Hid (Ints W W.heap.size A xs) → Hid (Ints W W.heap.size D ys) → xs.length ≤ 1048576 → ys.length ≤ 1048576 → Calls Try.prog 17 #[.agg #[.int .i64 n, .slice F fs.length f], .slice A xs.length c, .slice D ys.length d] W (RetV W (.bool (convAt n fs xs ys))))) :
    Calls Try.prog 3 #[.slice a len cap] w (RetV w (.bool true)) := by
  by_cases hl : len ≤ 1048576
  · exact law_convex_in T stay a len cap w hl hy HT iLeast iGreat iExt iConv
  · have hbd : decide ((1048576 : Int) < (len : Int)) = true := by simp; omega
    have HW := Lib.hid (St.start w)
    go_enter Try.func3, Try.ntmps3
    go_wp2_with fail
    refine (big_any5 _ _ _ _ hm).mono ?_
    rw [hbd]
    rintro e w' ⟨rfl, rfl⟩
    go_wp2
    go_ret
    exact ⟨rfl, HW.out.base⟩

end Go.Proofs.Ytgenllnpmjialaa.C
