/-
  The contracts of the draws of functions, with what their values can be.
  The contracts of the draws of chapter 7: a vector, a function with two vectors.
  The contracts of the draws of chapter 8: an order, a function with a vector.
  The contract of the draw of chapter 8: a function with a vector. (Written by tools/gen/gen_base.py.)
  The contracts of the draws of chapter 9: a function with a vector.
  The contracts of the draws of chapter 7: two vectors, one vector.
-/
import Derived.Test.YtffbiflgmlabaaaGreatDoorDrA
import Derived.Test.YtffbiflgmlabaaaGreatDoorBsA
import Derived.Test.YtffbiflgmlabaaaGreatDoorFunA
import Derived.Test.YtffbiflgmlabaaaGreatDoorTmM
import Derived.Deep.RegionLaw
namespace Go.Proofs.YtffbiflgmlabaaaGreatDoor.C
open Go.RowKit M K
set_option linter.unusedVariables false
set_option linter.unusedSimpArgs false

/-- All numbers of a list lie between two. -/
def Bd (lo hi : Int) (xs : List Int) : Prop := ∀ i, i < xs.length → lo ≤ xs.getD i 0 ∧ xs.getD i 0 ≤ hi
theorem Bd.nil (lo hi : Int) : Bd lo hi [] := fun i h => absurd h (by simp)
theorem Bd.app {lo hi x : Int} {xs : List Int} (h : Bd lo hi xs) (h1 : lo ≤ x) (h2 : x ≤ hi) : Bd lo hi (xs ++ [x]) := fun i hi' => by
  by_cases e : i < xs.length
  · have := h i e
    rwa [List.getD_eq_getElem?_getD, List.getElem?_append_left e, ← List.getD_eq_getElem?_getD]
  · have hl : i = xs.length := by rw [List.length_append] at hi'; simp at hi'; omega
    subst hl
    rw [List.getD_eq_getElem?_getD, List.getElem?_append_right (Nat.le_refl _), Nat.sub_self]
    exact ⟨h1, h2⟩
theorem setD (l : List Int) (j e : Nat) (v : Int) (hj : j < l.length) : (l.set j v).getD e 0 = if e = j then v else l.getD e 0 := by
  rw [List.getD_eq_getElem?_getD, List.getElem?_set]
  by_cases h : j = e
  · subst h
    rw [if_pos rfl, if_pos hj, if_pos rfl]
    rfl
  · rw [if_neg h, if_neg (fun c => h c.symm), List.getD_eq_getElem?_getD]
theorem and_oneV (X : Nat) (hX : X < 4294967296) : bits .and .i64 (X : Int) 1 = ((X % 2 : Nat) : Int) := by
  have hx : X &&& 1 < 2 ^ 32 := Nat.and_lt_two_pow _ (by omega)
  have ofI : ∀ a : Nat, a < 9223372036854775808 → (BitVec.ofInt 64 (a : Int)).toNat = a := fun a ha => by
    rw [BitVec.ofInt_natCast, BitVec.toNat_ofNat]; exact Nat.mod_eq_of_lt (by omega)
  show IntKind.i64.wrap ((BitVec.ofInt 64 (X : Int) &&& BitVec.ofInt 64 ((1 : Nat) : Int)).toNat : Int) = _
  rw [BitVec.toNat_and, ofI X (by omega), ofI 1 (by omega), IntKind.wrap_i64, Nat.and_one_is_mod]
  omega


section

variable {w0 : World} {v : Value} {len B : Nat} {L : List Cel} {w : World}

set_option maxRecDepth 100000 in
set_option maxHeartbeats 1600000 in
theorem size_tm (S : Nat) (w : World) (hS : S ≤ 1048576) : Calls Tryz.prog 112 #[.int .i64 S] w fun e w' => ∃ x : Int, e = .returned (.int .i64 x) ∧ 0 ≤ x ∧ ∃ q, w.drewN q = w' := by
  go_enter Tryz.func112, Tryz.ntmps112
  go_wp2
  go_loopw [3, 4] (fun n x wr => ∃ (c X : Nat), n = .int .i64 c ∧ x = .int .i64 X ∧ c + X ≤ 1048576 ∧ ∃ q, w.drewN q = wr) (fun _ x _ => (intOf x).toNat)
  case atStart => exact ⟨0, S, rfl, rfl, by omega, 0, rfl⟩
  case round =>
    obtain ⟨c, X, rfl, rfl, hX, q, rfl⟩ := hrel
    by_cases h0 : 0 < X
    · have h0i : (0 : Int) < (X : Int) := by omega
      have hdiv : ((X / 2 : Nat) : Int) = (X : Int) / 2 := by omega
      have HD := Lib.hid hdiv
      have hand := and_oneV X (by omega)
      have hm2 : X % 2 < 2 := Nat.mod_lt _ (by decide)
      have hd2 : X / 2 + X % 2 ≤ X := by omega
      generalize X % 2 = r at *
      have hw : IntKind.i64.wrap ((c : Int) + (r : Int)) = ((c + r : Nat) : Int) := by rw [Int.natCast_add]; exact IntWalk.i64_in _ (by omega)
      clear hdiv
      go_wp2
      go_roundw
      case rel => exact ⟨c + r, X / 2, by first | rfl | go_num, by rw [HD.out], by omega, _, rfl⟩
      case measure => simp [intOf]; omega
    · obtain rfl : X = 0 := by omega
      go_wp2
      go_ret
      exact ⟨(c : Int), rfl, by omega, q, rfl⟩

set_option maxRecDepth 100000 in
set_option maxHeartbeats 4000000 in
theorem cover_tm (n : Nat) (h : Hid (Dr w0 v len B w L)) (hn : n ≤ 5) :
    Calls Tryz.prog 113 #[.pointer (some ⟨B, 0, none⟩), .int .i64 n] w (DrL w0 v len B L (fun xs => xs.length = 2 ^ n ∧ Bd 0 12 xs)) := by
  obtain ⟨p, hp⟩ : ∃ p, p = 2 ^ n := ⟨_, rfl⟩
  have hp32 := p2_nat hn
  have hsh := shl_one (n := (n : Int)) (m := p) (by omega) (by omega) (by rw [Int.toNat_natCast]; exact hp)
  rw [Int.toNat_natCast] at hsh
  rw [← hp] at hp32 ⊢
  obtain ⟨hp1, hp2⟩ := hp32
  clear hp
  obtain ⟨i0, hi, hz0, hz1, hz2⟩ := info_parts info_int
  go_enter Tryz.func113, Tryz.ntmps113
  go_wp2_with fail
  refine (below_dr 5 (Lib.hid (h.out.empty.empty)) (by omega) (by omega)).mono ?_
  rintro e w1 ⟨k, rfl, ⟨k0, k1⟩, hd⟩
  obtain ⟨K, rfl⟩ := Int.eq_ofNat_of_zero_le k0
  have HD := Lib.hid hd
  clear hd
  simp only [World.size_alloc] at HD
  go_wp2
  go_loopw [5, 6, 7] (fun a b c wr => ∃ (k q : Nat) (A A2 : Option Addr) (d d2 : Nat) (xs ys : List Int), c = .int .i64 k ∧ a = .slice A q d ∧ b = .slice A2 q d2 ∧ q + k ≤ 4 ∧ Hid (Bd 1 3 xs) ∧ Dr w0 v len B wr (il (.slice A2 q d2) q ys :: il (.slice A q d) q xs :: L)) (fun _ _ c _ => (intOf c).toNat)
  case atStart => exact ⟨K, 0, _, _, _, _, [], [], rfl, rfl, rfl, by omega, Lib.hid (Bd.nil _ _), HD.out⟩
  case round =>
    obtain ⟨k, q, A, A2, d, d2, xs, ys, rfl, rfl, rfl, hq, HBX, hD⟩ := hrel
    have HD := Lib.hid hD
    clear hD
    by_cases hk : 0 < k
    · have hki : (0 : Int) < (k : Int) := by omega
      go_wp2_with fail
      refine (below_dr 3 HD (by omega) (by omega)).mono ?_
      rintro e w2 ⟨x, rfl, ⟨x0, x1⟩, hd⟩
      have HD2 := Lib.hid hd
      clear hd HD
      go_wp2_with (at_builtin; obtain ⟨hy, ci, cx, ca, cb, hS⟩ := HD2.out; refine wpList_app1 rfl (.tmp 20) (.tmp 24) 24 rfl (1 + x) Tryz.underlying24 hi hz0 hz1 hz2 ((hS.alloc _ _).drop 0) (i := 2) rfl rfl rfl (by simp) (by omega) ?_; intro V' c' w3 hS3; have HD3 := Lib.hid (show Dr w0 v len B w3 _ from ⟨hy, ci, cx, ca, cb, hS3⟩); clear hS hS3 HD2 hy cb ca)
      go_wp2_with fail
      refine (below_dr (p : Int) HD3 (by omega) (by omega)).mono ?_
      rintro e w4 ⟨y, rfl, ⟨y0, y1⟩, hd⟩
      have HD4 := Lib.hid hd
      clear hd HD3
      go_wp2_with (at_builtin; obtain ⟨hy, ci, cx, ca, cb, hS⟩ := HD4.out; refine wpList_app1 rfl (.tmp 26) (.tmp 31) 24 rfl y Tryz.underlying24 hi hz0 hz1 hz2 ((hS.alloc _ _).drop 0) (i := 1) rfl rfl rfl (by simp) (by omega) ?_; intro V2 c2 w5 hS5; have HD5 := Lib.hid (show Dr w0 v len B w5 _ from ⟨hy, ci, cx, ca, cb, hS5⟩); clear hS hS5 HD4 hy cb ca)
      go_roundw
      case rel => exact ⟨k - 1, q + 1, V', V2, c', c2, xs ++ [1 + x], ys ++ [y], by go_num, rfl, rfl, by omega, Lib.hid (HBX.out.app (by omega) (by omega)), HD5.out⟩
      case measure => simp [intOf]; omega
    · obtain rfl : k = 0 := by omega
      have hk : ¬ (0 : Int) < ((0 : Nat) : Int) := by omega
      go_wp2
      obtain ⟨wo, rfl⟩ : ∃ wo : World, wo = wr := ⟨_, rfl⟩
      go_loopw [8, 9] (fun a s wr => ∃ (j : Nat) (V : Option Addr) (e : Nat) (zs : List Int), s = .int .i64 j ∧ j ≤ p ∧ a = .slice V j e ∧ Hid (Bd 0 12 zs) ∧ Dr w0 v len B wr (il (.slice V j e) j zs :: il (.slice A2 q d2) q ys :: il (.slice A q d) q xs :: L)) (fun _ s _ => p - (intOf s).toNat)
      case atStart => exact ⟨0, _, _, [], rfl, Nat.zero_le _, rfl, Lib.hid (Bd.nil _ _), HD.out.empty⟩
      case round =>
        obtain ⟨j, V, e, zs, rfl, hj, rfl, HBZ, hD⟩ := hrel
        have HE := Lib.hid hD
        clear hD
        by_cases hlt : j < p
        · have hji : (j : Int) < (p : Int) := by omega
          go_wp2
          obtain ⟨wo2, rfl⟩ : ∃ wo : World, wo = wr := ⟨_, rfl⟩
          go_loopw [10, 11] (fun x i wr => ∃ (X : Int) (c : Nat), x = .int .i64 X ∧ i = .int .i64 c ∧ c ≤ q ∧ Hid (0 ≤ X ∧ X ≤ 3 * (c : Int)) ∧ Dr w0 v len B wr (il (.slice V j e) j zs :: il (.slice A2 q d2) q ys :: il (.slice A q d) q xs :: L)) (fun _ i _ => q - (intOf i).toNat)
          case atStart => exact ⟨0, 0, rfl, rfl, Nat.zero_le _, Lib.hid (by omega), HE.out⟩
          case round =>
            obtain ⟨X, c, rfl, rfl, hc, HBC, hD⟩ := hrel
            have HF := Lib.hid hD
            by_cases hlt2 : c < q
            · have hci : (c : Int) < (q : Int) := by omega
              have hc0 : (0 : Int) ≤ (c : Int) := by omega
              obtain ⟨b1, o1, hA1, -, g1⟩ := (hD.rest.ints (i := 1) rfl).at_ (k := c) (by rw [OwnN.len (hD.rest.own (i := 1) rfl)]; exact hlt2)
              obtain ⟨b2, o2, hA2, -, g2⟩ := (hD.rest.ints (i := 2) rfl).at_ (k := c) (by rw [OwnN.len (hD.rest.own (i := 2) rfl)]; exact hlt2)
              subst hA1 hA2
              generalize ys.getD c 0 = y1 at g1
              obtain ⟨w1', w2'⟩ := HBX.out c (by rw [OwnN.len (hD.rest.own (i := 2) rfl)]; exact hlt2)
              generalize xs.getD c 0 = x1 at g2 w1' w2'
              have HBC2 := Lib.hid (show 0 ≤ X + x1 ∧ X + x1 ≤ 3 * ((c + 1 : Nat) : Int) by have := HBC.out; omega)
              have HBC3 := Lib.hid (show 0 ≤ X ∧ X ≤ 3 * ((c + 1 : Nat) : Int) by have := HBC.out; omega)
              have hwx : IntKind.i64.wrap (X + x1) = X + x1 := IntWalk.i64_in _ (by have := HBC.out; omega)
              clear hD
              by_cases hz : (bits .and .i64 y1 (j : Int) != 0) = true
              · go_wp2
                go_roundw
                case rel => exact ⟨X + x1, c + 1, rfl, by go_num, by omega, HBC2, HF.out⟩
                case measure => simp [intOf]; omega
              · have hz : (bits .and .i64 y1 (j : Int) != 0) = false := by simpa using hz
                go_wp2
                go_roundw
                case rel => exact ⟨X, c + 1, rfl, by go_num, by omega, HBC3, HF.out⟩
                case measure => simp [intOf]; omega
            · obtain rfl : c = q := by omega
              have hcq : ¬ (c : Int) < (c : Int) := by omega
              clear hD
              go_wp2_with (at_builtin; obtain ⟨hy, ci, cx, ca, cb, hS⟩ := HF.out; refine wpList_app1 rfl (.tmp 59) (.tmp 61) 24 rfl X Tryz.underlying24 hi hz0 hz1 hz2 ((hS.alloc _ _).drop 0) (i := 1) rfl rfl rfl (by simp) (by omega) ?_; intro V' c' w3 hS3; have HD3 := Lib.hid (show Dr w0 v len B w3 _ from ⟨hy, ci, cx, ca, cb, hS3⟩); clear hS hS3 HF hy cb ca)
              go_roundw
              case rel => exact ⟨j + 1, V', c', zs ++ [X], by go_num, by omega, rfl, Lib.hid (HBZ.out.app (by have := HBC.out; omega) (by have := HBC.out; omega)), HD3.out⟩
              case measure => simp [intOf]; omega
        · obtain rfl : j = p := by omega
          have hjp : ¬ (j : Int) < (j : Int) := by omega
          go_wp2
          go_ret
          have hl : zs.length = j := OwnN.len (HE.out.rest.own (i := 0) rfl)
          refine ⟨V, e, zs, by rw [hl]; rfl, ⟨hl, HBZ.out⟩, ?_⟩
          rw [hl]
          exact HE.out.map fun c hS => (hS.drop 2).drop 2

set_option maxRecDepth 100000 in
set_option maxHeartbeats 8000000 in
theorem draw_tm (most : Nat) (h : Hid (Dr w0 v len B w L)) (hm : most ≤ 5) :
    Calls Tryz.prog 99 #[.pointer (some ⟨B, 0, none⟩), .int .i64 most] w (DrF w0 v len B L (fun m xs => ∃ n : Nat, m = (n : Int) ∧ n ≤ 5 ∧ xs.length = 2 ^ n ∧ Bd (-16) 12 xs)) := by
  obtain ⟨i0, hi, hz0, hz1, hz2⟩ := info_parts info_int
  go_enter Tryz.func99, Tryz.ntmps99
  go_wp2_with fail
  refine (below_dr ((most : Int) + 1) (Lib.hid (h.out.alloc [.int .i64 0, .slice none 0 0] 26)) (by omega) (by omega)).mono ?_
  rintro e w1 ⟨x, rfl, ⟨x0, x1⟩, hd⟩
  obtain ⟨n, rfl⟩ := Int.eq_ofNat_of_zero_le x0
  have hn : n ≤ 5 := by omega
  obtain ⟨p, hp⟩ : ∃ p, p = 2 ^ n := ⟨_, rfl⟩
  obtain ⟨hp1, hp2⟩ := p2_nat hn
  have hsh := shl_one (n := (n : Int)) (m := p) (by omega) (by omega) (by rw [Int.toNat_natCast]; exact hp)
  rw [Int.toNat_natCast] at hsh
  rw [← hp] at hp1 hp2
  have HP := Lib.hid hp
  clear hp
  have HD := Lib.hid hd
  clear hd
  go_wp2_with fail
  refine (below_dr 5 (Lib.hid HD.out.empty) (by omega) (by omega)).mono ?_
  rintro e w2 ⟨t, rfl, ⟨t0, t1⟩, hd⟩
  have HD2 := Lib.hid hd
  clear hd
  by_cases e0 : t = 0
  · subst e0
    go_wp2
    go_loopw [6, 7] (fun a i wr => ∃ (j : Nat) (U : Option Addr) (d : Nat) (us : List Int), i = .int .i64 j ∧ j ≤ p ∧ a = .slice U j d ∧ Hid (Bd (-1) 5 us) ∧ Dr w0 v len B wr (il (.slice U j d) j us :: bx w.heap.size 26 [.int .i64 0, .slice none 0 0] :: L)) (fun _ i _ => p - (intOf i).toNat)
    case atStart => exact ⟨0, _, _, [], rfl, Nat.zero_le _, rfl, Lib.hid (Bd.nil _ _), HD2.out⟩
    case round =>
      obtain ⟨j, U, d, us, rfl, hj, rfl, HBU, hD⟩ := hrel
      have HY := Lib.hid hD
      clear hD
      by_cases hlt : j < p
      · have hji : (j : Int) < (p : Int) := by omega
        go_wp2_with fail
        refine (below_dr 6 HY (by omega) (by omega)).mono ?_
        rintro e' w6 ⟨x, rfl, ⟨y0, y1⟩, hd⟩
        have HY2 := Lib.hid hd
        clear hd HY
        go_wp2_with (at_builtin; obtain ⟨hy, ci, cx, ca, cb, hS⟩ := HY2.out; refine wpList_app1 rfl (.tmp 32) (.tmp 36) 24 rfl (x - 1) Tryz.underlying24 hi hz0 hz1 hz2 ((hS.alloc _ _).drop 0) (i := 1) rfl rfl rfl (by simp) (by omega) ?_; intro V' c' w3 hS3; have HD3 := Lib.hid (show Dr w0 v len B w3 _ from ⟨hy, ci, cx, ca, cb, hS3⟩); clear hS hS3 HY2 hy cb ca)
        go_roundw
        case rel => exact ⟨j + 1, V', c', us ++ [x - 1], by go_num, by omega, rfl, Lib.hid (HBU.out.app (by omega) (by omega)), HD3.out⟩
        case measure => simp [intOf]; omega
      · obtain rfl : j = p := by omega
        have hjp : ¬ (j : Int) < (j : Int) := by omega
        obtain ⟨r1, rf⟩ := HY.out.rest.box (i := 1) rfl
        have r10 := r1 0 _ rfl
        have r11 := r1 1 _ rfl
        have rf0 := rf 0
        have rf1 := rf 1
        clear r1 rf
        go_wp2
        have hp := HP.out
        obtain ⟨hy, ci, cx, ca, cb, hS⟩ := HY.out
        have hZ := (hS.store (i := 2) rfl 0 (.int .i64 n)).store (i := 2) rfl 1 (.slice U j d)
        have hl : us.length = j := OwnN.len (hZ.own (i := 1) rfl)
        exact bodyPost_ret (v := .agg #[.int .i64 n, .slice U j d]) (by simp [results, Tryz.results99, go_sem, r10, r11, rf0, rf1]) rfl ⟨n, U, d, us, by rw [hl], ⟨n, rfl, by omega, by rw [hl]; exact HP.out, fun i hi' => by have := HBU.out i hi'; omega⟩, by rw [hl]; exact ⟨hy, ci, cx, ca, cb, hZ.drop 2⟩⟩
  · have f0 : (t == 0) = false := by simpa using e0
    by_cases e1 : t = 1
    · subst e1
      clear e0 f0
      go_wp2_with fail
      refine (below_dr ((n : Int) + 1) HD2 (by omega) (by omega)).mono ?_
      rintro e w3 ⟨top, rfl, ⟨top0, top1⟩, hd⟩
      have HD3 := Lib.hid hd
      clear hd HD2
      go_wp2
      go_loopw [6, 9] (fun a i wr => ∃ (j : Nat) (U : Option Addr) (d : Nat) (us : List Int), i = .int .i64 j ∧ j ≤ p ∧ a = .slice U j d ∧ Hid (Bd (-1) 5 us) ∧ Dr w0 v len B wr (il (.slice U j d) j us :: bx w.heap.size 26 [.int .i64 0, .slice none 0 0] :: L)) (fun _ i _ => p - (intOf i).toNat)
      case atStart => exact ⟨0, _, _, [], rfl, Nat.zero_le _, rfl, Lib.hid (Bd.nil _ _), HD3.out⟩
      case round =>
        obtain ⟨j, U, d, us, rfl, hj, rfl, HBU, hD⟩ := hrel
        have HY := Lib.hid hD
        clear hD
        by_cases hlt : j < p
        · have hji : (j : Int) < (p : Int) := by omega
          go_wp2_with fail
          refine (size_tm j _ (by omega)).mono ?_
          rintro e' w6 ⟨x, rfl, hx0, hq⟩
          have HY2 := Lib.hid (show Dr w0 v len B w6 _ from by obtain ⟨q, rfl⟩ := hq; exact HY.out.drewN q)
          clear hq HY
          obtain ⟨m, hm2⟩ : ∃ m, (if x < top then x else top) = m := ⟨_, rfl⟩
          have HMB := Lib.hid (show -1 ≤ m ∧ m ≤ 5 by rw [← hm2]; split <;> omega)
          go_wp2_with (at_builtin; obtain ⟨hy, ci, cx, ca, cb, hS⟩ := HY2.out; refine wpList_app1 rfl (.tmp 53) (.tmp 58) 24 rfl m Tryz.underlying24 hi hz0 hz1 hz2 ((hS.alloc _ _).drop 0) (i := 1) rfl rfl rfl (by simp [← hm2]) (by omega) ?_; intro V' c' w3 hS3; have HD3 := Lib.hid (show Dr w0 v len B w3 _ from ⟨hy, ci, cx, ca, cb, hS3⟩); clear hS hS3 HY2 hy cb ca)
          go_roundw
          case rel => exact ⟨j + 1, V', c', us ++ [m], by go_num, by omega, rfl, Lib.hid (HBU.out.app HMB.out.1 HMB.out.2), HD3.out⟩
          case measure => simp [intOf]; omega
        · obtain rfl : j = p := by omega
          have hjp : ¬ (j : Int) < (j : Int) := by omega
          obtain ⟨p, hpj⟩ : ∃ p, p = j := ⟨_, rfl⟩
          subst hpj
          have HBZ0 := Lib.hid (show Bd (-1) 12 us from fun i hi' => by have := HBU.out i hi'; omega)
          obtain ⟨V, e, zs, he⟩ : ∃ V e zs, (V, e, zs) = (U, d, us) := ⟨_, _, _, rfl⟩
          injection he with he1 he2
          injection he2 with he2 he3
          subst he1 he2 he3
          go_wp2_with fail
          refine (once_dr 2 HY (by omega) (by omega)).mono ?_
          rintro e' w5 ⟨b, rfl, hd⟩
          have HX := Lib.hid hd
          clear hd
          cases b
          · obtain ⟨r1, rf⟩ := HX.out.rest.box (i := 1) rfl
            have r10 := r1 0 _ rfl
            have r11 := r1 1 _ rfl
            have rf0 := rf 0
            have rf1 := rf 1
            clear r1 rf
            go_wp2
            obtain ⟨hy, ci, cx, ca, cb, hS⟩ := HX.out
            have hZ := (hS.store (i := 2) rfl 0 (.int .i64 n)).store (i := 2) rfl 1 (.slice V p e)
            have hl : zs.length = p := OwnN.len (hZ.own (i := 1) rfl)
            exact bodyPost_ret (v := .agg #[.int .i64 n, .slice V p e]) (by simp [results, Tryz.results99, go_sem, r10, r11, rf0, rf1]) rfl ⟨n, V, e, zs, by rw [hl], ⟨n, rfl, by omega, by rw [hl]; exact HP.out, fun i hi' => by have := HBZ0.out i hi'; omega⟩, by rw [hl]; exact ⟨hy, ci, cx, ca, cb, hZ.drop 2⟩⟩
          · go_wp2
            obtain ⟨wo, rfl⟩ : ∃ wo : World, wo = w5 := ⟨_, rfl⟩
            go_loopw [10, 11] (fun a i wr => ∃ (j : Nat) (U : Option Addr) (d : Nat) (us : List Int), i = .int .i64 j ∧ j ≤ n ∧ a = .slice U j d ∧ Hid (Bd 0 3 us) ∧ Dr w0 v len B wr (il (.slice U j d) j us :: il (.slice V p e) p zs :: bx w.heap.size 26 [.int .i64 0, .slice none 0 0] :: L)) (fun _ i _ => n - (intOf i).toNat)
            case atStart => exact ⟨0, _, _, [], rfl, Nat.zero_le _, rfl, Lib.hid (Bd.nil _ _), HX.out.empty⟩
            case round =>
              obtain ⟨j, U, d, us, rfl, hj, rfl, HBW, hD⟩ := hrel
              have HY := Lib.hid hD
              clear hD
              by_cases hlt : j < n
              · have hji : (j : Int) < (n : Int) := by omega
                go_wp2_with fail
                refine (below_dr 4 HY (by omega) (by omega)).mono ?_
                rintro e' w6 ⟨x, rfl, ⟨x0, x1⟩, hd⟩
                have HY2 := Lib.hid hd
                clear hd HY
                go_wp2_with (at_builtin; obtain ⟨hy, ci, cx, ca, cb, hS⟩ := HY2.out; refine wpList_app1 rfl (.tmp 68) (.tmp 71) 24 rfl x Tryz.underlying24 hi hz0 hz1 hz2 ((hS.alloc _ _).drop 0) (i := 1) rfl rfl rfl (by simp) (by omega) ?_; intro V' c' w3 hS3; have HD3 := Lib.hid (show Dr w0 v len B w3 _ from ⟨hy, ci, cx, ca, cb, hS3⟩); clear hS hS3 HY2 hy cb ca)
                go_roundw
                case rel => exact ⟨j + 1, V', c', us ++ [x], by go_num, by omega, rfl, Lib.hid (HBW.out.app (by omega) (by omega)), HD3.out⟩
                case measure => simp [intOf]; omega
              · obtain rfl : j = n := by omega
                have hjn : ¬ (j : Int) < (j : Int) := by omega
                go_wp2
                obtain ⟨wo2, rfl⟩ : ∃ wo : World, wo = wr := ⟨_, rfl⟩
                go_loopw [12] (fun s wr => ∃ (k : Nat) (ts : List Int), s = .int .i64 k ∧ k ≤ p ∧ Hid ((∀ i, i < p → -16 ≤ ts.getD i 0 ∧ ts.getD i 0 ≤ 12) ∧ ∀ i, k ≤ i → i < p → -1 ≤ ts.getD i 0) ∧ Dr w0 v len B wr (il (.slice U j d) j us :: il (.slice V p e) p ts :: bx w.heap.size 26 [.int .i64 0, .slice none 0 0] :: L)) (fun s _ => p - (intOf s).toNat)
                case atStart => exact ⟨0, zs, rfl, Nat.zero_le _, Lib.hid ⟨fun i hi' => by have := HBZ0.out i (by rw [OwnN.len (HY.out.rest.own (i := 1) rfl)]; exact hi'); omega, fun i _ hi' => (HBZ0.out i (by rw [OwnN.len (HY.out.rest.own (i := 1) rfl)]; exact hi')).1⟩, HY.out⟩
                case round =>
                  obtain ⟨k, ts, rfl, hk, HBT, hD⟩ := hrel
                  have HZ := Lib.hid hD
                  clear hD
                  by_cases hlt2 : k < p
                  · have hki : (k : Int) < (p : Int) := by omega
                    have hk0 : (0 : Int) ≤ (k : Int) := by omega
                    go_wp2
                    simp only [hsh]
                    obtain ⟨wo3, rfl⟩ : ∃ wo : World, wo = wr := ⟨_, rfl⟩
                    go_loopw [13] (fun i wr => ∃ (c : Nat) (ts : List Int), i = .int .i64 c ∧ c ≤ j ∧ Hid ((∀ i, i < p → -16 ≤ ts.getD i 0 ∧ ts.getD i 0 ≤ 12) ∧ (∀ i, k + 1 ≤ i → i < p → -1 ≤ ts.getD i 0) ∧ -1 - 3 * (c : Int) ≤ ts.getD k 0) ∧ Dr w0 v len B wr (il (.slice U j d) j us :: il (.slice V p e) p ts :: bx w.heap.size 26 [.int .i64 0, .slice none 0 0] :: L)) (fun i _ => j - (intOf i).toNat)
                    case atStart => exact ⟨0, ts, rfl, Nat.zero_le _, Lib.hid ⟨HBT.out.1, fun i a b => HBT.out.2 i (by omega) b, by have := HBT.out.2 k (Nat.le_refl _) hlt2; omega⟩, HZ.out⟩
                    case round =>
                      obtain ⟨c, ts, rfl, hc, HBC, hD⟩ := hrel
                      have HQ := Lib.hid hD
                      by_cases hlt3 : c < j
                      · have hci : (c : Int) < (j : Int) := by omega
                        have hc0 : (0 : Int) ≤ (c : Int) := by omega
                        obtain ⟨b1, o1, hA1, -, g1⟩ := (hD.rest.ints (i := 0) rfl).at_ (k := c) (by rw [OwnN.len (hD.rest.own (i := 0) rfl)]; exact hlt3)
                        have hlv : ts.length = p := OwnN.len (hD.rest.own (i := 1) rfl)
                        obtain ⟨g, cap, hV, -⟩ := World.ownsRow.form (hD.rest.own (i := 1) rfl) (by show 0 < p; omega)
                        injection hV with hV1 hV2 hV3
                        subst hA1 hV1 hV3
                        clear hV2
                        obtain ⟨g2, g3⟩ := hD.rest.cellI (i := 1) rfl hlt2
                        obtain ⟨y1a, y1b⟩ := HBW.out c (by rw [OwnN.len (hD.rest.own (i := 0) rfl)]; exact hlt3)
                        generalize us.getD c 0 = y1 at g1 y1a y1b
                        have HXB := Lib.hid (show -16 ≤ ts.getD k 0 ∧ ts.getD k 0 ≤ 12 ∧ -1 - 3 * (c : Int) ≤ ts.getD k 0 from ⟨(HBC.out.1 k hlt2).1, (HBC.out.1 k hlt2).2, HBC.out.2.2⟩)
                        have HNX := Lib.hid (fun (z : Int) (h1 : -16 ≤ z) (h2 : z ≤ 12) (h3 : -1 - 3 * ((c + 1 : Nat) : Int) ≤ z) => show (∀ i, i < p → -16 ≤ (ts.set k z).getD i 0 ∧ (ts.set k z).getD i 0 ≤ 12) ∧ (∀ i, k + 1 ≤ i → i < p → -1 ≤ (ts.set k z).getD i 0) ∧ -1 - 3 * ((c + 1 : Nat) : Int) ≤ (ts.set k z).getD k 0 from by
                          have hkl : k < ts.length := by rw [hlv]; exact hlt2
                          refine ⟨fun i hi' => ?_, fun i a b => ?_, ?_⟩
                          · rw [setD _ _ _ _ hkl]
                            split
                            · exact ⟨h1, h2⟩
                            · exact HBC.out.1 i hi'
                          · rw [setD _ _ _ _ hkl, if_neg (by omega)]
                            exact HBC.out.2.1 i a b
                          · rw [setD _ _ _ _ hkl, if_pos rfl]
                            exact h3)
                        have HNY := Lib.hid (show (∀ i, i < p → -16 ≤ ts.getD i 0 ∧ ts.getD i 0 ≤ 12) ∧ (∀ i, k + 1 ≤ i → i < p → -1 ≤ ts.getD i 0) ∧ -1 - 3 * ((c + 1 : Nat) : Int) ≤ ts.getD k 0 from ⟨HBC.out.1, HBC.out.2.1, by have := HBC.out.2.2; omega⟩)
                        generalize hx1 : ts.getD k 0 = x1 at g2 HXB
                        have hwy : IntKind.i64.wrap (x1 - y1) = x1 - y1 := IntWalk.i64_in _ (by have := HXB.out; omega)
                        have HNX2 := Lib.hid (HNX.out (x1 - y1) (by have := HXB.out; omega) (by have := HXB.out; omega) (by have := HXB.out; omega))
                        clear hD hlv hx1
                        by_cases hz : bits .and .i64 ((k : Int) / 2 ^ c) 1 = 1
                        · go_wp2
                          go_still_tail 11, (by kernel_rfl)
                          change wpList _ _ _ _ _ wr.drew
                          generalize hwd : wr.drew = wd
                          have c0 : wd.cell? ⟨g, k, none⟩ = some (.int .i64 x1) := by rw [← hwd]; exact g2
                          have c1 : wd.frozen? ⟨g, k, none⟩ = false := by rw [← hwd]; exact g3
                          have HQ2 := Lib.hid (show Dr w0 v len B wd _ from hwd ▸ HQ.out.drew)
                          clear hwd
                          go_wp2
                          go_roundw
                          case rel => exact ⟨c + 1, ts.set k (x1 - y1), by go_num, by omega, HNX2, HQ2.out.map fun c hS => hS.setI (i := 2) rfl k _⟩
                          case measure => simp [intOf]; omega
                        · have hz : (bits .and .i64 ((k : Int) / 2 ^ c) 1 == 1) = false := by simpa using hz
                          go_wp2
                          go_roundw
                          case rel => exact ⟨c + 1, ts, by go_num, by omega, HNY, HQ.out⟩
                          case measure => simp [intOf]; omega
                      · obtain rfl : c = j := by omega
                        have hcq : ¬ (c : Int) < (c : Int) := by omega
                        clear hD
                        go_wp2
                        go_roundw
                        case rel => exact ⟨k + 1, ts, by go_num, by omega, Lib.hid ⟨HBC.out.1, HBC.out.2.1⟩, HQ.out⟩
                        case measure => simp [intOf]; omega
                  · obtain rfl : k = p := by omega
                    have hkp : ¬ (k : Int) < (k : Int) := by omega
                    obtain ⟨r1, rf⟩ := HZ.out.rest.box (i := 2) rfl
                    have r10 := r1 0 _ rfl
                    have r11 := r1 1 _ rfl
                    have rf0 := rf 0
                    have rf1 := rf 1
                    clear r1 rf
                    go_wp2
                    obtain ⟨hy, ci, cx, ca, cb, hS⟩ := HZ.out
                    have hZ := (hS.store (i := 3) rfl 0 (.int .i64 j)).store (i := 3) rfl 1 (.slice V k e)
                    have hl : ts.length = k := OwnN.len (hZ.own (i := 2) rfl)
                    exact bodyPost_ret (v := .agg #[.int .i64 j, .slice V k e]) (by simp [results, Tryz.results99, go_sem, r10, r11, rf0, rf1]) rfl ⟨j, V, e, ts, by rw [hl], ⟨j, rfl, by omega, by rw [hl]; exact HP.out, fun i hi' => HBT.out.1 i (by rw [← hl]; exact hi')⟩, by rw [hl]; exact ⟨hy, ci, cx, ca, cb, (hZ.drop 3).drop 1⟩⟩

    · have f1 : (t == 1) = false := by simpa using e1
      clear e0 e1
      go_wp2_with fail
      refine (cover_tm n HD2 hn).mono ?_
      rintro e w3 ⟨V, e, zs, rfl, ⟨hlz, hbz⟩, hd⟩
      have HBZ0 := Lib.hid (show Bd (-1) 12 zs from fun i hi' => by have := hbz i hi'; omega)
      clear hbz
      have hl0 : zs.length = p := by rw [hlz, HP.out]
      rw [hl0] at hd
      have HV := Lib.hid (hd.map fun c hS => hS.drop 2)
      clear hd hlz
      rw [hl0]
      go_wp2_with fail
      refine (once_dr 2 HV (by omega) (by omega)).mono ?_
      rintro e' w5 ⟨b, rfl, hd⟩
      have HX := Lib.hid hd
      clear hd
      cases b
      · obtain ⟨r1, rf⟩ := HX.out.rest.box (i := 1) rfl
        have r10 := r1 0 _ rfl
        have r11 := r1 1 _ rfl
        have rf0 := rf 0
        have rf1 := rf 1
        clear r1 rf
        go_wp2
        obtain ⟨hy, ci, cx, ca, cb, hS⟩ := HX.out
        have hZ := (hS.store (i := 2) rfl 0 (.int .i64 n)).store (i := 2) rfl 1 (.slice V p e)
        have hl : zs.length = p := OwnN.len (hZ.own (i := 1) rfl)
        exact bodyPost_ret (v := .agg #[.int .i64 n, .slice V p e]) (by simp [results, Tryz.results99, go_sem, r10, r11, rf0, rf1]) rfl ⟨n, V, e, zs, by rw [hl], ⟨n, rfl, by omega, by rw [hl]; exact HP.out, fun i hi' => by have := HBZ0.out i hi'; omega⟩, by rw [hl]; exact ⟨hy, ci, cx, ca, cb, hZ.drop 2⟩⟩
      · go_wp2
        obtain ⟨wo, rfl⟩ : ∃ wo : World, wo = w5 := ⟨_, rfl⟩
        go_loopw [10, 11] (fun a i wr => ∃ (j : Nat) (U : Option Addr) (d : Nat) (us : List Int), i = .int .i64 j ∧ j ≤ n ∧ a = .slice U j d ∧ Hid (Bd 0 3 us) ∧ Dr w0 v len B wr (il (.slice U j d) j us :: il (.slice V p e) p zs :: bx w.heap.size 26 [.int .i64 0, .slice none 0 0] :: L)) (fun _ i _ => n - (intOf i).toNat)
        case atStart => exact ⟨0, _, _, [], rfl, Nat.zero_le _, rfl, Lib.hid (Bd.nil _ _), HX.out.empty⟩
        case round =>
          obtain ⟨j, U, d, us, rfl, hj, rfl, HBW, hD⟩ := hrel
          have HY := Lib.hid hD
          clear hD
          by_cases hlt : j < n
          · have hji : (j : Int) < (n : Int) := by omega
            go_wp2_with fail
            refine (below_dr 4 HY (by omega) (by omega)).mono ?_
            rintro e' w6 ⟨x, rfl, ⟨x0, x1⟩, hd⟩
            have HY2 := Lib.hid hd
            clear hd HY
            go_wp2_with (at_builtin; obtain ⟨hy, ci, cx, ca, cb, hS⟩ := HY2.out; refine wpList_app1 rfl (.tmp 68) (.tmp 71) 24 rfl x Tryz.underlying24 hi hz0 hz1 hz2 ((hS.alloc _ _).drop 0) (i := 1) rfl rfl rfl (by simp) (by omega) ?_; intro V' c' w3 hS3; have HD3 := Lib.hid (show Dr w0 v len B w3 _ from ⟨hy, ci, cx, ca, cb, hS3⟩); clear hS hS3 HY2 hy cb ca)
            go_roundw
            case rel => exact ⟨j + 1, V', c', us ++ [x], by go_num, by omega, rfl, Lib.hid (HBW.out.app (by omega) (by omega)), HD3.out⟩
            case measure => simp [intOf]; omega
          · obtain rfl : j = n := by omega
            have hjn : ¬ (j : Int) < (j : Int) := by omega
            go_wp2
            obtain ⟨wo2, rfl⟩ : ∃ wo : World, wo = wr := ⟨_, rfl⟩
            go_loopw [12] (fun s wr => ∃ (k : Nat) (ts : List Int), s = .int .i64 k ∧ k ≤ p ∧ Hid ((∀ i, i < p → -16 ≤ ts.getD i 0 ∧ ts.getD i 0 ≤ 12) ∧ ∀ i, k ≤ i → i < p → -1 ≤ ts.getD i 0) ∧ Dr w0 v len B wr (il (.slice U j d) j us :: il (.slice V p e) p ts :: bx w.heap.size 26 [.int .i64 0, .slice none 0 0] :: L)) (fun s _ => p - (intOf s).toNat)
            case atStart => exact ⟨0, zs, rfl, Nat.zero_le _, Lib.hid ⟨fun i hi' => by have := HBZ0.out i (by rw [OwnN.len (HY.out.rest.own (i := 1) rfl)]; exact hi'); omega, fun i _ hi' => (HBZ0.out i (by rw [OwnN.len (HY.out.rest.own (i := 1) rfl)]; exact hi')).1⟩, HY.out⟩
            case round =>
              obtain ⟨k, ts, rfl, hk, HBT, hD⟩ := hrel
              have HZ := Lib.hid hD
              clear hD
              by_cases hlt2 : k < p
              · have hki : (k : Int) < (p : Int) := by omega
                have hk0 : (0 : Int) ≤ (k : Int) := by omega
                go_wp2
                simp only [hsh]
                obtain ⟨wo3, rfl⟩ : ∃ wo : World, wo = wr := ⟨_, rfl⟩
                go_loopw [13] (fun i wr => ∃ (c : Nat) (ts : List Int), i = .int .i64 c ∧ c ≤ j ∧ Hid ((∀ i, i < p → -16 ≤ ts.getD i 0 ∧ ts.getD i 0 ≤ 12) ∧ (∀ i, k + 1 ≤ i → i < p → -1 ≤ ts.getD i 0) ∧ -1 - 3 * (c : Int) ≤ ts.getD k 0) ∧ Dr w0 v len B wr (il (.slice U j d) j us :: il (.slice V p e) p ts :: bx w.heap.size 26 [.int .i64 0, .slice none 0 0] :: L)) (fun i _ => j - (intOf i).toNat)
                case atStart => exact ⟨0, ts, rfl, Nat.zero_le _, Lib.hid ⟨HBT.out.1, fun i a b => HBT.out.2 i (by omega) b, by have := HBT.out.2 k (Nat.le_refl _) hlt2; omega⟩, HZ.out⟩
                case round =>
                  obtain ⟨c, ts, rfl, hc, HBC, hD⟩ := hrel
                  have HQ := Lib.hid hD
                  by_cases hlt3 : c < j
                  · have hci : (c : Int) < (j : Int) := by omega
                    have hc0 : (0 : Int) ≤ (c : Int) := by omega
                    obtain ⟨b1, o1, hA1, -, g1⟩ := (hD.rest.ints (i := 0) rfl).at_ (k := c) (by rw [OwnN.len (hD.rest.own (i := 0) rfl)]; exact hlt3)
                    have hlv : ts.length = p := OwnN.len (hD.rest.own (i := 1) rfl)
                    obtain ⟨g, cap, hV, -⟩ := World.ownsRow.form (hD.rest.own (i := 1) rfl) (by show 0 < p; omega)
                    injection hV with hV1 hV2 hV3
                    subst hA1 hV1 hV3
                    clear hV2
                    obtain ⟨g2, g3⟩ := hD.rest.cellI (i := 1) rfl hlt2
                    obtain ⟨y1a, y1b⟩ := HBW.out c (by rw [OwnN.len (hD.rest.own (i := 0) rfl)]; exact hlt3)
                    generalize us.getD c 0 = y1 at g1 y1a y1b
                    have HXB := Lib.hid (show -16 ≤ ts.getD k 0 ∧ ts.getD k 0 ≤ 12 ∧ -1 - 3 * (c : Int) ≤ ts.getD k 0 from ⟨(HBC.out.1 k hlt2).1, (HBC.out.1 k hlt2).2, HBC.out.2.2⟩)
                    have HNX := Lib.hid (fun (z : Int) (h1 : -16 ≤ z) (h2 : z ≤ 12) (h3 : -1 - 3 * ((c + 1 : Nat) : Int) ≤ z) => show (∀ i, i < p → -16 ≤ (ts.set k z).getD i 0 ∧ (ts.set k z).getD i 0 ≤ 12) ∧ (∀ i, k + 1 ≤ i → i < p → -1 ≤ (ts.set k z).getD i 0) ∧ -1 - 3 * ((c + 1 : Nat) : Int) ≤ (ts.set k z).getD k 0 from by
                      have hkl : k < ts.length := by rw [hlv]; exact hlt2
                      refine ⟨fun i hi' => ?_, fun i a b => ?_, ?_⟩
                      · rw [setD _ _ _ _ hkl]
                        split
                        · exact ⟨h1, h2⟩
                        · exact HBC.out.1 i hi'
                      · rw [setD _ _ _ _ hkl, if_neg (by omega)]
                        exact HBC.out.2.1 i a b
                      · rw [setD _ _ _ _ hkl, if_pos rfl]
                        exact h3)
                    have HNY := Lib.hid (show (∀ i, i < p → -16 ≤ ts.getD i 0 ∧ ts.getD i 0 ≤ 12) ∧ (∀ i, k + 1 ≤ i → i < p → -1 ≤ ts.getD i 0) ∧ -1 - 3 * ((c + 1 : Nat) : Int) ≤ ts.getD k 0 from ⟨HBC.out.1, HBC.out.2.1, by have := HBC.out.2.2; omega⟩)
                    generalize hx1 : ts.getD k 0 = x1 at g2 HXB
                    have hwy : IntKind.i64.wrap (x1 - y1) = x1 - y1 := IntWalk.i64_in _ (by have := HXB.out; omega)
                    have HNX2 := Lib.hid (HNX.out (x1 - y1) (by have := HXB.out; omega) (by have := HXB.out; omega) (by have := HXB.out; omega))
                    clear hD hlv hx1
                    by_cases hz : bits .and .i64 ((k : Int) / 2 ^ c) 1 = 1
                    · go_wp2
                      go_still_tail 11, (by kernel_rfl)
                      change wpList _ _ _ _ _ wr.drew
                      generalize hwd : wr.drew = wd
                      have c0 : wd.cell? ⟨g, k, none⟩ = some (.int .i64 x1) := by rw [← hwd]; exact g2
                      have c1 : wd.frozen? ⟨g, k, none⟩ = false := by rw [← hwd]; exact g3
                      have HQ2 := Lib.hid (show Dr w0 v len B wd _ from hwd ▸ HQ.out.drew)
                      clear hwd
                      go_wp2
                      go_roundw
                      case rel => exact ⟨c + 1, ts.set k (x1 - y1), by go_num, by omega, HNX2, HQ2.out.map fun c hS => hS.setI (i := 2) rfl k _⟩
                      case measure => simp [intOf]; omega
                    · have hz : (bits .and .i64 ((k : Int) / 2 ^ c) 1 == 1) = false := by simpa using hz
                      go_wp2
                      go_roundw
                      case rel => exact ⟨c + 1, ts, by go_num, by omega, HNY, HQ.out⟩
                      case measure => simp [intOf]; omega
                  · obtain rfl : c = j := by omega
                    have hcq : ¬ (c : Int) < (c : Int) := by omega
                    clear hD
                    go_wp2
                    go_roundw
                    case rel => exact ⟨k + 1, ts, by go_num, by omega, Lib.hid ⟨HBC.out.1, HBC.out.2.1⟩, HQ.out⟩
                    case measure => simp [intOf]; omega
              · obtain rfl : k = p := by omega
                have hkp : ¬ (k : Int) < (k : Int) := by omega
                obtain ⟨r1, rf⟩ := HZ.out.rest.box (i := 2) rfl
                have r10 := r1 0 _ rfl
                have r11 := r1 1 _ rfl
                have rf0 := rf 0
                have rf1 := rf 1
                clear r1 rf
                go_wp2
                obtain ⟨hy, ci, cx, ca, cb, hS⟩ := HZ.out
                have hZ := (hS.store (i := 3) rfl 0 (.int .i64 j)).store (i := 3) rfl 1 (.slice V k e)
                have hl : ts.length = k := OwnN.len (hZ.own (i := 2) rfl)
                exact bodyPost_ret (v := .agg #[.int .i64 j, .slice V k e]) (by simp [results, Tryz.results99, go_sem, r10, r11, rf0, rf1]) rfl ⟨j, V, e, ts, by rw [hl], ⟨j, rfl, by omega, by rw [hl]; exact HP.out, fun i hi' => HBT.out.1 i (by rw [← hl]; exact hi')⟩, by rw [hl]; exact ⟨hy, ci, cx, ca, cb, (hZ.drop 3).drop 1⟩⟩

set_option maxRecDepth 100000 in
set_option maxHeartbeats 4000000 in
theorem any_tm (h : Hid (Dr w0 v len B w L)) :
    Calls Tryz.prog 71 #[.pointer (some ⟨B, 0, none⟩)] w (DrF w0 v len B L (fun _ xs => 1 ≤ xs.length ∧ xs.length ≤ 32 ∧ ∀ i, 1 ≤ i → i < xs.length → -16 ≤ xs.getD i 0 ∧ xs.getD i 0 ≤ 12)) := by
  obtain ⟨i0, hi, hz0, hz1, hz2⟩ := info_parts info_int
  go_enter Tryz.func71, Tryz.ntmps71
  go_wp2_with fail
  refine (draw_tm 4 (Lib.hid (h.out.alloc [.int .i64 0, .slice none 0 0] 26)) (by omega)).mono ?_
  rintro e w1 ⟨_, V, cc, xs, rfl, ⟨n, rfl, hn, hl, hbd⟩, hd⟩
  obtain ⟨p1, p2⟩ := p2_nat hn
  rw [← hl] at p1 p2
  have HP := Lib.hid (show 1 ≤ xs.length ∧ xs.length ≤ 32 ∧ ∀ i, 1 ≤ i → i < xs.length → -16 ≤ xs.getD i 0 ∧ xs.getD i 0 ≤ 12 from ⟨p1, p2, fun i _ h => hbd i h⟩)
  clear hbd
  clear hl
  obtain ⟨p, hp⟩ : ∃ p, xs.length = p := ⟨_, rfl⟩
  rw [hp] at p1 p2 hd ⊢
  obtain ⟨g, cap, hV, -⟩ := World.ownsRow.form (hd.rest.own (i := 0) rfl) (by show 0 < p; omega)
  injection hV with hV1 hV2 hV3
  subst hV1 hV3
  clear hV2
  have hgl : g < w1.heap.size := hd.lt_of (i := 0) rfl rfl
  have hg1 : ¬ g = w1.heap.size := by omega
  have hg2 : ¬ w1.heap.size = g := by omega
  have hp0 : 0 < p := by omega
  have hp0i : (0 : Int) < (p : Int) := by omega
  have HL := Lib.hid hp
  have HD := Lib.hid (hd.alloc [.int .i64 n, .slice (some ⟨g, 0, none⟩) p cc] 26)
  have hzw := hd.lt.2
  have hzr : w.heap.size < w1.heap.size := hd.lt_of (i := 1) rfl rfl
  clear hd hp
  go_wp2_with fail
  refine (below_dr 16 HD (by omega) (by omega)).mono ?_
  rintro e w2 ⟨t, rfl, ⟨t0, t1⟩, hd⟩
  have HD2 := Lib.hid hd
  clear HD
  by_cases e0 : t = 0
  · subst e0
    clear hd
    go_wp2_with fail
    refine (pick_dr w2.heap.size 5 5 [-1, 6, 5, 0, 9223372036854775807] (Lib.hid (HD2.out.lits 5 [-1, 6, 5, 0, 9223372036854775807] rfl (by omega))) (by omega) (by omega)).mono ?_
    rintro e w3 ⟨x, rfl, hx, hd⟩
    obtain ⟨b0, f0⟩ := hd.rest.box (i := 0) rfl
    have b00 := b0 0 _ rfl
    have b01 := b0 1 _ rfl
    have f00 := f0 0
    have f01 := f0 1
    obtain ⟨r1, rf⟩ := hd.rest.box (i := 2) rfl
    have r10 := r1 0 _ rfl
    have r11 := r1 1 _ rfl
    have rf0 := rf 0
    have rf1 := rf 1
    have HD3 := Lib.hid hd
    have hne : ¬ w.heap.size = w1.heap.size := by omega
    have hne2 : ¬ w1.heap.size = w.heap.size := by omega
    clear b0 f0 r1 rf hd hx
    go_wp2
    obtain ⟨hy, ci, cx, ca, cb, hS⟩ := HD3.out
    have hZ := ((hS.store (i := 1) rfl 0 (.int .i64 x)).store (i := 3) rfl 0 (.int .i64 x)).store (i := 3) rfl 1 (.slice (some ⟨g, 0, none⟩) p cc)
    exact bodyPost_ret (v := .agg #[.int .i64 x, .slice (some ⟨g, 0, none⟩) p cc]) (by simp [results, Tryz.results71, go_sem, r10, r11, rf0, rf1, hne, hne2]) rfl ⟨x, _, cc, xs, by rw [HL.out], HP.out, by rw [HL.out]; exact ⟨hy, ci, cx, ca, cb, (hZ.drop 3).drop 1⟩⟩
  · have f0 : (t == 0) = false := by simpa using e0
    by_cases e1 : t = 1
    · subst e1
      clear e0 f0
      obtain ⟨b0, f0⟩ := hd.rest.box (i := 0) rfl
      have b01 := b0 1 _ rfl
      clear b0 f0 hd
      go_wp2
      go_region_held3 (fun w' => w'.cell? ⟨w1.heap.size, 1, none⟩ = some (.slice (some ⟨g, 0, none⟩) p cc)) (first | assumption | go_keep) ((go_at_call 77; refine (pick_dr w2.heap.size 5 5 [1, -1, 1001, -9223372036854775808, 1000] (Lib.hid (HD2.out.drew.lits 5 [1, -1, 1001, -9223372036854775808, 1000] rfl (by omega))) (by omega) (by omega)).mono ?_; rintro e w3 ⟨x, rfl, hx, hd⟩; obtain ⟨b0', -⟩ := hd.rest.box (i := 0) rfl; have b01' := b0' 1 _ rfl; obtain ⟨c1, c2⟩ := hd.rest.cellI (i := 1) rfl (j := 0) (by omega); have HD3 := Lib.hid hd; clear hd b0' b01 hx))
      have HD4 := Lib.hid (HD3.out.map fun c hS => hS.setI (i := 2) rfl 0 x)
      clear HD3 c1 c2 b01'
      rename_i hHeld
      clear hHeld
      generalize w3.setCell ⟨g, 0, none⟩ (.int .i64 x) = w4 at HD4 ⊢
      obtain ⟨b0, f0⟩ := HD4.out.rest.box (i := 0) rfl
      have b00 := b0 0 _ rfl
      have b01 := b0 1 _ rfl
      have f00 := f0 0
      have f01 := f0 1
      obtain ⟨r1, rf⟩ := HD4.out.rest.box (i := 2) rfl
      have r10 := r1 0 _ rfl
      have r11 := r1 1 _ rfl
      have rf0 := rf 0
      have rf1 := rf 1
      have hne : ¬ w.heap.size = w1.heap.size := by omega
      have hne2 : ¬ w1.heap.size = w.heap.size := by omega
      clear b0 f0 r1 rf 
      go_wp2
      obtain ⟨hy, ci, cx, ca, cb, hS⟩ := HD4.out
      have hZ := (hS.store (i := 3) rfl 0 (.int .i64 n)).store (i := 3) rfl 1 (.slice (some ⟨g, 0, none⟩) p cc)
      have hl : (xs.set 0 x).length = p := OwnN.len (hZ.own (i := 2) rfl)
      exact bodyPost_ret (v := .agg #[.int .i64 n, .slice (some ⟨g, 0, none⟩) p cc]) (by simp [results, Tryz.results71, go_sem, r10, r11, rf0, rf1, hne, hne2]) rfl ⟨n, _, cc, xs.set 0 x, by rw [hl], (show 1 ≤ (xs.set 0 x).length ∧ (xs.set 0 x).length ≤ 32 ∧ ∀ i, 1 ≤ i → i < (xs.set 0 x).length → -16 ≤ (xs.set 0 x).getD i 0 ∧ (xs.set 0 x).getD i 0 ≤ 12 from by rw [List.length_set]; exact ⟨HP.out.1, HP.out.2.1, fun i a b => by rw [setD _ _ _ _ (by omega), if_neg (by omega)]; exact HP.out.2.2 i a b⟩), by rw [hl]; exact ⟨hy, ci, cx, ca, cb, (hZ.drop 3).drop 1⟩⟩
    · have f1 : (t == 1) = false := by simpa using e1
      clear e0 e1
      obtain ⟨b0, f0⟩ := HD2.out.rest.box (i := 0) rfl
      have b00 := b0 0 _ rfl
      have b01 := b0 1 _ rfl
      have f00 := f0 0
      have f01 := f0 1
      obtain ⟨r1, rf⟩ := HD2.out.rest.box (i := 2) rfl
      have r10 := r1 0 _ rfl
      have r11 := r1 1 _ rfl
      have rf0 := rf 0
      have rf1 := rf 1
      have hne : ¬ w.heap.size = w1.heap.size := by omega
      have hne2 : ¬ w1.heap.size = w.heap.size := by omega
      clear b0 f0 r1 rf hd
      go_wp2
      obtain ⟨hy, ci, cx, ca, cb, hS⟩ := HD2.out
      have hZ := (hS.store (i := 3) rfl 0 (.int .i64 n)).store (i := 3) rfl 1 (.slice (some ⟨g, 0, none⟩) p cc)
      have hl : (xs).length = p := OwnN.len (hZ.own (i := 2) rfl)
      exact bodyPost_ret (v := .agg #[.int .i64 n, .slice (some ⟨g, 0, none⟩) p cc]) (by simp [results, Tryz.results71, go_sem, r10, r11, rf0, rf1, hne, hne2]) rfl ⟨n, _, cc, xs, by rw [hl], HP.out, by rw [hl]; exact ⟨hy, ci, cx, ca, cb, (hZ.drop 3).drop 1⟩⟩

end


end Go.Proofs.YtffbiflgmlabaaaGreatDoor.C

namespace Go.Proofs.YtffbiflgmlabaaaGreatDoor.C
open Go.RowKit M K
set_option linter.unusedVariables false
set_option linter.unusedSimpArgs false

/-- Numbers that an int can hold. -/
def In64 (us : List Int) : Prop := ∀ x ∈ us, -9223372036854775808 ≤ x ∧ x ≤ 9223372036854775807


section

variable {w0 : World} {v : Value} {len B : Nat} {L : List Cel} {w : World}
set_option maxRecDepth 100000 in
set_option maxHeartbeats 4000000 in
theorem vec_drW (n : Nat) (h : Hid (Dr w0 v len B w L)) (hn : n ≤ 100) :
    Calls Tryz.prog 75 #[.pointer (some ⟨B, 0, none⟩), .int .i64 n] w (DrL w0 v len B L (fun xs => xs.length = n ∧ In64 xs)) := by
  obtain ⟨i0, hi, hz0, hz1, hz2⟩ := info_parts info_int
  go_enter Tryz.func75, Tryz.ntmps75
  have HD := Lib.hid h.out.empty
  go_wp2
  go_loopw [5, 6] (fun a i wr => ∃ (j : Nat) (U : Option Addr) (d : Nat) (us : List Int), i = .int .i64 j ∧ j ≤ n ∧ a = .slice U j d ∧ Hid (In64 us) ∧ Dr w0 v len B wr (il (.slice U j d) j us :: L)) (fun _ i _ => n - (intOf i).toNat)
  case atStart => exact ⟨0, _, _, [], rfl, Nat.zero_le _, rfl, Lib.hid (fun _ h => by cases h), HD.out⟩
  case round =>
    obtain ⟨j, U, d, us, rfl, hj, rfl, HI, hD⟩ := hrel
    have HY := Lib.hid hD
    clear hD HD
    by_cases hlt : j < n
    · have hlti : (j : Int) < (n : Int) := by omega
      go_wp2_with fail
      refine (below_dr 9 HY (by omega) (by omega)).mono ?_
      rintro e' w6 ⟨x, rfl, ⟨y0, y1⟩, hd⟩
      have HY2 := Lib.hid hd
      have hx4 : IntKind.i64.wrap (x - 4) = x - 4 := IntWalk.i64_in _ (by omega)
      have HI2 := Lib.hid (show In64 (us ++ [x - 4]) from fun z hz => by
        rcases List.mem_append.1 hz with hz | hz
        · exact HI.out z hz
        · rw [List.mem_singleton.1 hz]; omega)
      clear hd HY
      go_wp2_with (at_builtin; obtain ⟨hy, ci, cx, ca, cb, hS⟩ := HY2.out; refine wpList_app1 rfl (.tmp 13) (.tmp 17) 24 rfl (x - 4) Tryz.underlying24 hi hz0 hz1 hz2 ((hS.alloc _ _).drop 0) (i := 1) rfl rfl rfl (by simp [hx4]) (by omega) ?_; intro V' c' w3 hS3; have HD3 := Lib.hid (show Dr w0 v len B w3 _ from ⟨hy, ci, cx, ca, cb, hS3⟩); clear hS hS3 HY2 hy cb ca)
      go_roundw
      case rel => exact ⟨j + 1, V', c', us ++ [x - 4], by go_num, by omega, rfl, HI2, HD3.out⟩
      case measure => simp [intOf]; omega
    · obtain rfl : j = n := by omega
      have hlti : ¬ (j : Int) < (j : Int) := by omega
      by_cases h0 : 0 < j
      · have h0i : (0 : Int) < (j : Int) := by omega
        obtain ⟨g, cap, hV, -⟩ := World.ownsRow.form (HY.out.rest.own (i := 0) rfl) (by show 0 < j; omega)
        injection hV with hV1 hV2 hV3
        subst hV1 hV3
        clear hV2
        go_wp2_with fail
        refine (once_dr 12 HY (by omega) (by omega)).mono ?_
        rintro e' w6 ⟨t, rfl, hd⟩
        have HY2 := Lib.hid hd
        clear hd HY
        cases t
        · go_wp2
          go_ret
          have hl : us.length = j := OwnN.len (HY2.out.rest.own (i := 0) rfl)
          exact ⟨some ⟨g, 0, none⟩, d, us, by rw [hl]; rfl, ⟨hl, HI.out⟩, by rw [hl]; exact HY2.out⟩
        · go_wp2_with fail
          refine (pick_dr w6.heap.size 4 4 [1000, 1001, 101, -9223372036854775808] (Lib.hid (HY2.out.lits 4 [1000, 1001, 101, -9223372036854775808] rfl (by omega))) (by omega) (by omega)).mono ?_
          rintro e w7 ⟨y, rfl, hy, hd⟩
          have HI2 := Lib.hid (show In64 (us.set 0 y) from fun z hz => by
            rcases List.mem_or_eq_of_mem_set hz with hz | hz
            · exact HI.out z hz
            · rw [hz]; simp at hy; omega)
          obtain ⟨c1, c2⟩ := hd.rest.cellI (i := 0) rfl h0
          have HY3 := Lib.hid hd
          clear hd HY2
          go_wp2
          go_ret
          have hl : us.length = j := OwnN.len (HY3.out.rest.own (i := 0) rfl)
          have hl2 : (us.set 0 y).length = j := by rw [List.length_set]; exact hl
          have hZ := HY3.out.map fun c hS => hS.setI (i := 1) rfl 0 y
          exact ⟨some ⟨g, 0, none⟩, d, us.set 0 y, by rw [hl2]; rfl, ⟨hl2, HI2.out⟩, by rw [hl2]; exact hZ⟩
      · have h0i : ¬ (0 : Int) < (j : Int) := by omega
        go_wp2
        go_ret
        have hl : us.length = j := OwnN.len (HY.out.rest.own (i := 0) rfl)
        exact ⟨U, d, us, by rw [hl]; rfl, ⟨hl, HI.out⟩, by rw [hl]; exact HY.out⟩

theorem vec_dr (n : Nat) (h : Hid (Dr w0 v len B w L)) (hn : n ≤ 100) :
    Calls Tryz.prog 75 #[.pointer (some ⟨B, 0, none⟩), .int .i64 n] w (DrL w0 v len B L (fun xs => xs.length = n)) :=
  (vec_drW n h hn).mono fun _ _ ⟨A, c, xs, h1, h2, h3⟩ => ⟨A, c, xs, h1, h2.1, h3⟩

end


/-- A function and two vectors of one length, all new. -/
def GotFLL (w : World) (e : Ending) (w' : World) : Prop := ∃ v n xs A c us D d ws, e = .returned (.tuple #[v, .slice A us.length c, .slice D ws.length d]) ∧ us.length ≤ 5 ∧ ws.length = us.length ∧ IsF w w' v n xs ∧ Own w' w.heap.size (.slice A us.length c) us ∧ Own w' w.heap.size (.slice D ws.length d) ws ∧ Below w.heap.size w w'


section

end


end Go.Proofs.YtffbiflgmlabaaaGreatDoor.C

namespace Go.Proofs.YtffbiflgmlabaaaGreatDoor.C
open Go.RowKit M K
set_option linter.unusedVariables false
set_option linter.unusedSimpArgs false


section

variable {w0 : World} {v : Value} {len B : Nat} {L : List Cel} {w : World}

set_option maxRecDepth 100000 in
set_option maxHeartbeats 8000000 in
theorem order_dr (n : Nat) (h : Hid (Dr w0 v len B w L)) (hn : n ≤ 5) :
    Calls Tryz.prog 74 #[.pointer (some ⟨B, 0, none⟩), .int .i64 n] w (DrL w0 v len B L (fun xs => xs.length = n)) := by
  obtain ⟨i0, hi, hz0, hz1, hz2⟩ := info_parts info_int
  have HD := Lib.hid h.out.empty
  go_enter Tryz.func74, Tryz.ntmps74
  go_wp2
  go_loopw [5, 6] (fun a i wr => ∃ (j g d : Nat) (us : List Int), i = .int .i64 j ∧ j ≤ n ∧ a = .slice (some ⟨g, 0, none⟩) j d ∧ Dr w0 v len B wr (il (.slice (some ⟨g, 0, none⟩) j d) j us :: L)) (fun _ i _ => n - (intOf i).toNat)
  case atStart => exact ⟨0, _, _, [], rfl, Nat.zero_le _, rfl, HD.out⟩
  case round =>
    obtain ⟨j, g, d, us, rfl, hj, rfl, hD⟩ := hrel
    have HY := Lib.hid hD
    clear hD HD
    by_cases hlt : j < n
    · have hji : (j : Int) < (n : Int) := by omega
      go_wp2_with fail
      refine (below_dr ((j : Int) + 1) HY (by omega) (by omega)).mono ?_
      rintro e' w6 ⟨x, rfl, ⟨y0, y1⟩, hd⟩
      obtain ⟨k, rfl⟩ := Int.eq_ofNat_of_zero_le y0
      have hk : k ≤ j := by omega
      have hlu : us.length = j := OwnN.len (hd.rest.own (i := 0) rfl)
      obtain ⟨hy, ci, cx, ca, cb, hS⟩ := hd
      have hkc : k ≤ d := Nat.le_trans hk (hS.capI (i := 1) rfl)
      obtain ⟨o2, hif, ho2⟩ : ∃ o2 : Nat, (if d = k then some (⟨g, 0, none⟩ : Addr) else some ⟨g, k, none⟩) = some ⟨g, o2, none⟩ ∧ (d = k ∨ o2 = k) := by
        by_cases e : d = k
        · exact ⟨0, by rw [if_pos e], .inl e⟩
        · exact ⟨k, by rw [if_neg e], .inr rfl⟩
      have HO2 := Lib.hid ho2
      have HT := Lib.hid (show (us.take k).length = k by rw [List.length_take, hlu]; omega)
      have HD := Lib.hid (show (us.drop k).length = j - k by rw [List.length_drop, hlu])
      have HQ := Lib.hid hS
      have HC := Lib.hid (show Bytes w0.heap.size w0 v len ∧ ci ≤ len ∧ Fits cx from ⟨hy, ca, cb⟩)
      clear ho2 hS hy ca cb HY y0 y1 hlu
      go_wp2
      go_region_law (first
        | (refine step_appN (by rfl) (.tmp 19) (.tmp 22) 24 (by rfl) (us.take k) Tryz.underlying24 hi hz0 hz1 hz2 (HQ.out.drewN _).empty (i := 0) (by rfl) HT.out (by rfl) (by rfl) ((HQ.out.drewN _).empty.cellsTake (i := 2) rfl hk) (by simp) (by omega) (by omega) (N := k) (by omega) ?_; intro g1 c1 w1 hS1; (try simp only [World.size_alloc] at hS1); have HA := Lib.hid hS1; clear hS1)
        | (refine step_appN (by rfl) (.tmp 19) (.tmp 22) 24 (by rfl) (us.take k) Tryz.underlying24 hi hz0 hz1 hz2 ((HQ.out.drewN _).empty.alloc _ _) (i := 1) (by rfl) HT.out (by rfl) (by rfl) (((HQ.out.drewN _).empty.alloc _ _).cellsTake (i := 3) rfl hk) (by simp) (by omega) (by omega) (N := k) (by omega) ?_; intro g1 c1 w1 hS1; (try simp only [World.size_alloc] at hS1); have HA := Lib.hid hS1; clear hS1)
        | (refine step_appN (by rfl) (.tmp 19) (.tmp 22) 24 (by rfl) (us.take k) Tryz.underlying24 hi hz0 hz1 hz2 (by have hz := ((HQ.out.drewN 1).alloc [.int .i64 j] 3).empty; simp only [World.size_alloc] at hz; exact hz) (i := 0) (by rfl) HT.out (by rfl) (by rfl) (((HQ.out.drewN _).alloc _ _).empty.cellsTake (i := 3) rfl hk) (by simp) (by omega) (by omega) (N := k) (by omega) ?_; intro g1 c1 w1 hS1; (try simp only [World.size_alloc] at hS1); have HA := Lib.hid hS1; clear hS1)
        | (refine step_app1 (by rfl) (.tmp 23) (.tmp 25) 24 (by rfl) (j : Int) Tryz.underlying24 hi hz0 hz1 hz2 ((HA.out.alloc _ _).drop 0) (i := 0) (by rfl) (by rfl) (by rfl) (by simp) (by omega) ?_; intro A2 c2 w2 hS2; have HB := Lib.hid hS2; clear hS2)
        | (refine step_app1 (by rfl) (.tmp 23) (.tmp 25) 24 (by rfl) (j : Int) Tryz.underlying24 hi hz0 hz1 hz2 HA.out (i := 1) (by rfl) (by rfl) (by rfl) ((HA.out.box (i := 0) rfl).1 0 _ rfl) (by omega) ?_; intro A2 c2 w2 hS2; have HB := Lib.hid (hS2.drop 0); clear hS2)
        | (refine step_app1 (by rfl) (.tmp 23) (.tmp 25) 24 (by rfl) (j : Int) Tryz.underlying24 hi hz0 hz1 hz2 HA.out (i := 0) (by rfl) (by rfl) (by rfl) ((HA.out.box (i := 1) rfl).1 0 _ rfl) (by omega) ?_; intro A2 c2 w2 hS2; have HB := Lib.hid (hS2.drop 1); clear hS2)
        | (refine step_appN (by rfl) (.tmp 26) (.tmp 29) 24 (by rfl) (us.drop k) Tryz.underlying24 hi hz0 hz1 hz2 HB.out (i := 0) (by rfl) HD.out (by rfl) (by rfl) (HB.out.cellsRest (i := 2) rfl hk HO2.out) (by simp) (by omega) (by omega) (N := j + 1) (by omega) ?_; intro g3 c3 w3 hS3; have HE := Lib.hid (St.swap (hS3.drop 2)); clear hS3))
      all_goals
        go_wp2
        go_roundw
        case rel => exact ⟨j + 1, g3, c3, _, by go_num, by omega, rfl, HC.out.1, ci, cx, HC.out.2.1, HC.out.2.2, HE.out⟩
        case measure => simp [intOf]; omega
    · obtain rfl : j = n := by omega
      have hji : ¬ (j : Int) < (j : Int) := by omega
      by_cases h1 : 1 < j
      · have h1i : (1 : Int) < (j : Int) := by omega
        go_wp2_with fail
        refine (once_dr 14 HY (by omega) (by omega)).mono ?_
        rintro e' w6 ⟨t, rfl, hd⟩
        cases t
        · have HY2 := Lib.hid hd
          clear hd HY
          go_wp2
          go_ret
          have hl : us.length = j := OwnN.len (HY2.out.rest.own (i := 0) rfl)
          exact ⟨some ⟨g, 0, none⟩, d, us, by rw [hl]; rfl, hl, by rw [hl]; exact HY2.out⟩
        · obtain ⟨c1, c2⟩ := hd.rest.cellI (i := 0) rfl (j := 0) (by omega)
          obtain ⟨d1, d2⟩ := hd.rest.cellI (i := 0) rfl (j := 1) (by omega)
          have HY2 := Lib.hid hd
          generalize us.getD 1 0 = y at d1
          clear hd HY
          go_wp2
          go_ret
          have hl : us.length = j := OwnN.len (HY2.out.rest.own (i := 0) rfl)
          have hl2 : (us.set 0 y).length = j := by rw [List.length_set]; exact hl
          have hZ := HY2.out.map fun c hS => hS.setI (i := 1) rfl 0 y
          exact ⟨some ⟨g, 0, none⟩, d, us.set 0 y, by rw [hl2]; rfl, hl2, by rw [hl2]; exact hZ⟩
      · have h1i : ¬ (1 : Int) < (j : Int) := by omega
        go_wp2
        go_ret
        have hl : us.length = j := OwnN.len (HY.out.rest.own (i := 0) rfl)
        exact ⟨some ⟨g, 0, none⟩, d, us, by rw [hl]; rfl, hl, by rw [hl]; exact HY.out⟩

end


end Go.Proofs.YtffbiflgmlabaaaGreatDoor.C

namespace Go.Proofs.YtffbiflgmlabaaaGreatDoor.C
open Go.RowKit M K
set_option linter.unusedVariables false
set_option linter.unusedSimpArgs false

/-- What a draw of a function and a list leaves. -/
def DrFL (w0 : World) (v : Value) (len B : Nat) (L : List Cel) (P : Int → List Int → List Int → Prop) (e : Ending) (w' : World) : Prop := ∃ (n : Int) (A : Option Addr) (c : Nat) (xs : List Int) (D : Option Addr) (d : Nat) (us : List Int), e = .returned (.tuple #[.agg #[.int .i64 n, .slice A xs.length c], .slice D us.length d]) ∧ P n xs us ∧ Dr w0 v len B w' (il (.slice D us.length d) us.length us :: il (.slice A xs.length c) xs.length xs :: L)
theorem cornerOf_le5 (n : Int) (xs p : List Int) : (cornerOf n xs p).1.length ≤ 5 := by
  unfold cornerOf
  split
  · rename_i h
    obtain ⟨-, h5, -⟩ := isFn_yes (ground_fn h.1)
    rw [cornerTo_len]
    omega
  · exact Nat.zero_le _


section

variable {w0 : World} {v : Value} {len B : Nat} {L : List Cel} {w : World}

set_option maxRecDepth 100000 in
set_option maxHeartbeats 40000000 in
theorem base_dr (h : Hid (Dr w0 v len B w L)) :
    Calls Tryz.prog 53 #[.pointer (some ⟨B, 0, none⟩)] w (DrFL w0 v len B L (fun n xs us => 1 ≤ xs.length ∧ xs.length ≤ 32 ∧ Tm xs ∧ us.length ≤ 5)) := by
  go_enter Tryz.func53, Tryz.ntmps53
  go_wp2_with fail
  refine (any_tm (Lib.hid (h.out.alloc [.int .i64 0, .slice none 0 0] 26))).mono ?_
  rintro e w1 ⟨n, A, c, xs, rfl, ⟨x1, x2, x3⟩, hd⟩
  have htm := base_tm (n := n) (tm_near x3)
  unfold baseF at htm
  have hf := Lib.hid (fun W h1 => lowerS_any n A xs c W h1)
  have HX := Lib.hid (show 1 ≤ xs.length ∧ xs.length ≤ 32 ∧ Tm xs from ⟨x1, x2, tm_near x3⟩)
  have hz0 : w.heap.size < w1.heap.size := hd.lt_of (i := 1) rfl rfl
  have HD2 := Lib.hid (hd.alloc [.int .i64 n, .slice A xs.length c] 26)
  clear hd x1 x2 x3
  cases hb : (lowerFn n xs).2.2
  · clear htm
    have HF := hf
    clear hf
    rw [hb] at HF
    clear hb
    go_wp2_with fail
    refine (HF.out _ (Lib.hid (HD2.out.rest.ints (i := 1) rfl))).mono ?_
    rintro e w3 ⟨A2, c2, rfl, ho, hb⟩
    have HD3 := Lib.hid ((HD2.out.newI hb ho).alloc [.int .i64 (lowerFn n xs).1, .slice A2 (lowerFn n xs).2.1.length c2] 26)
    obtain ⟨p, hp⟩ : ∃ p, xs.length = p := ⟨_, rfl⟩
    have HP := Lib.hid hp
    rw [hp] at HD3 ⊢
    have HD5 := Lib.hid (show Dr w0 v len B _ (bx w1.heap.size 26 [.int .i64 n, .slice A p c] :: il (.slice A p c) p xs :: bx w.heap.size 26 [.int .i64 0, .slice none 0 0] :: L) from HD3.out.map fun c hS => (hS.drop 2).drop 1)
    clear HD3 ho hb HD2 hp HF
    go_wp2
    generalize World.alloc _ _ = w5 at HD5 ⊢
    generalize (lowerFn n xs).1 = n2 at *
    generalize (lowerFn n xs).2.1 = gs at *
    obtain ⟨nn, rfl⟩ : ∃ nn, nn = n := ⟨_, rfl⟩
    obtain ⟨ys, rfl⟩ : ∃ ys, ys = xs := ⟨_, rfl⟩
    obtain ⟨V, rfl⟩ : ∃ V, V = A := ⟨_, rfl⟩
    obtain ⟨d, rfl⟩ : ∃ d, d = c := ⟨_, rfl⟩
    have HT := HX
    have HCO := Lib.hid (fun (m : Int) O (os : List Int) od W h1 h2 h3 => cornerS_any m V ys d O os od W h1 h2 h3)
    rw [HP.out] at HCO
    obtain ⟨q0, qf⟩ := HD5.out.rest.box (i := 0) rfl
    have B0 := q0 0 _ rfl
    have B1 := q0 1 _ rfl
    have Bf0 := qf 0
    have Bf1 := qf 1
    clear q0 qf
    obtain ⟨q, hq5, hm⟩ : ∃ q : Nat, q ≤ 5 ∧ (if (0 : Int) < if nn < 5 then nn else 5 then if nn < 5 then nn else 5 else 0) = (q : Int) := by
      by_cases c1 : nn < 5
      · by_cases c2 : 0 < nn
        · exact ⟨nn.toNat, by omega, by rw [if_pos c1, if_pos c2]; omega⟩
        · exact ⟨0, by omega, by rw [if_pos c1, if_neg c2]; rfl⟩
      · exact ⟨5, by omega, by rw [if_neg c1]; rfl⟩
    have hn1 : ¬ w.heap.size = w1.heap.size := by omega
    have hn2 : ¬ w1.heap.size = w.heap.size := by omega
    have HM := Lib.hid hm
    obtain ⟨r, hr⟩ : ∃ r, (if nn < 5 then nn else 5) = r := ⟨_, rfl⟩
    have HN := Lib.hid hr
    clear hr
    clear hm
    go_region_held3 (fun w' => w'.cell? ⟨w1.heap.size, 0, none⟩ = some (.int .i64 nn) ∧ w'.cell? ⟨w1.heap.size, 1, none⟩ = some (.slice V p d)) (first | (refine ⟨?_, ?_⟩ <;> assumption) | assumption | go_keep) (first
      | (go_at_call 74; rw [HM.out]; (try rw [HN.out]); refine (order_dr q (by first | exact Lib.hid HD5.out.drew | exact HD5 | exact Lib.hid (HD5.out.drewN _)) (by omega)).mono ?_; rintro e w6 ⟨O, od, os, rfl, hlo, hd⟩; obtain ⟨q0, qf⟩ := hd.rest.box (i := 1) rfl; have B0' := q0 0 _ rfl; have B1' := q0 1 _ rfl; have Bf0' := qf 0; have Bf1' := qf 1; clear q0 qf; have HD6 := Lib.hid hd; have HO := Lib.hid hlo; clear hd hlo B0 B1 Bf0 Bf1)
      | (go_at_call 73; refine (HCO.out nn O os od _ (by first | exact Lib.hid (HD6.out.rest.ints (i := 2) rfl) | exact Lib.hid (HD6.out.drew.rest.ints (i := 2) rfl) | exact Lib.hid ((HD6.out.drewN _).rest.ints (i := 2) rfl)) (by first | exact Lib.hid (HD6.out.rest.ints (i := 0) rfl) | exact Lib.hid (HD6.out.drew.rest.ints (i := 0) rfl) | exact Lib.hid ((HD6.out.drewN _).rest.ints (i := 0) rfl)) (by have := HO.out; omega)).mono ?_; rintro e w7 ⟨U, ud, rfl, ho, hb⟩; have hd := (show Dr w0 v len B w7 _ from by first | exact HD6.out.newI hb ho | exact HD6.out.drew.newI hb ho | exact (HD6.out.drewN _).newI hb ho); clear ho hb; have hle := cornerOf_le5 nn ys os; generalize (cornerOf nn ys os).1 = us at hd hle ⊢; generalize (cornerOf nn ys os).2 = fine at hd ⊢; clear B0' B1' Bf0' Bf1'; obtain ⟨q0, qf⟩ := hd.rest.box (i := 2) rfl; have B0' := q0 0 _ rfl; have B1' := q0 1 _ rfl; have Bf0' := qf 0; have Bf1' := qf 1; clear q0 qf; obtain ⟨q0, qf⟩ := hd.rest.box (i := 4) rfl; have R0' := q0 0 _ rfl; have R1' := q0 1 _ rfl; have Rf0' := qf 0; have Rf1' := qf 1; clear q0 qf; have HD7 := Lib.hid hd; have HU := Lib.hid hle; clear hd hle))
    all_goals
      clear HD5 HD6
      cases fine
      · go_wp2
        go_region_held3 (fun w' => w'.cell? ⟨w1.heap.size, 0, none⟩ = some (.int .i64 nn) ∧ w'.cell? ⟨w1.heap.size, 1, none⟩ = some (.slice V p d)) (first | (refine ⟨?_, ?_⟩ <;> assumption) | assumption | go_keep) ((go_at_call 75; rw [HM.out]; (try rw [HN.out]); refine (vec_dr q (by first | exact Lib.hid HD7.out.drew | exact HD7 | exact Lib.hid (HD7.out.drewN _)) (by omega)).mono ?_; rintro e w8 ⟨U2, d2, us2, rfl, hlu2, hd⟩; obtain ⟨q0, qf⟩ := hd.rest.box (i := 3) rfl; have B0'' := q0 0 _ rfl; have B1'' := q0 1 _ rfl; have Bf0'' := qf 0; have Bf1'' := qf 1; clear q0 qf; obtain ⟨q0, qf⟩ := hd.rest.box (i := 5) rfl; have R0'' := q0 0 _ rfl; have R1'' := q0 1 _ rfl; have Rf0'' := qf 0; have Rf1'' := qf 1; clear q0 qf; have HD8 := Lib.hid hd; have HU2 := Lib.hid hlu2; clear hd hlu2 B0' B1' Bf0' Bf1' R0' R1' Rf0' Rf1'; rw [HU2.out]))
        all_goals
          go_wp2
          obtain ⟨hy, ci, cx, ca, cb, hS⟩ := HD8.out
          have hZ := (hS.store (i := 6) rfl 0 (.int .i64 nn)).store (i := 6) rfl 1 (.slice V p d)
          exact bodyPost_ret (v := .tuple #[.agg #[.int .i64 nn, .slice V p d], .slice U2 q d2]) (by simp [results, Tryz.results53, go_sem, R0'', R1'', Rf0'', Rf1'']) rfl ⟨nn, V, d, ys, U2, d2, us2, by rw [HP.out, HU2.out], ⟨HT.out.1, HT.out.2.1, HT.out.2.2, by rw [HU2.out]; omega⟩, by rw [HP.out]; exact ⟨hy, ci, cx, ca, cb, (((hZ.drop 6).drop 4).drop 3).drop 2⟩⟩
      · by_cases h0 : 0 < us.length
        · have h0i : (0 : Int) < (us.length : Int) := by omega
          go_wp2_with fail
          refine (once_dr 2 HD7 (by omega) (by omega)).mono ?_
          rintro e' w8 ⟨t, rfl, hd⟩
          clear B0' B1' Bf0' Bf1' R0' R1' Rf0' Rf1' HD7; obtain ⟨q0, qf⟩ := hd.rest.box (i := 2) rfl; have B0' := q0 0 _ rfl; have B1' := q0 1 _ rfl; have Bf0' := qf 0; have Bf1' := qf 1; clear q0 qf; obtain ⟨q0, qf⟩ := hd.rest.box (i := 4) rfl; have R0' := q0 0 _ rfl; have R1' := q0 1 _ rfl; have Rf0' := qf 0; have Rf1' := qf 1; clear q0 qf
          have HD8 := Lib.hid hd
          clear hd
          cases t
          · go_wp2
            obtain ⟨hy, ci, cx, ca, cb, hS⟩ := HD8.out
            have hZ := (hS.store (i := 5) rfl 0 (.int .i64 nn)).store (i := 5) rfl 1 (.slice V p d)
            exact bodyPost_ret (v := .tuple #[.agg #[.int .i64 nn, .slice V p d], .slice U us.length ud]) (by simp [results, Tryz.results53, go_sem, R0', R1', Rf0', Rf1']) rfl ⟨nn, V, d, ys, U, ud, us, by rw [HP.out], ⟨HT.out.1, HT.out.2.1, HT.out.2.2, by exact HU.out⟩, by rw [HP.out]; exact ⟨hy, ci, cx, ca, cb, ((hZ.drop 5).drop 3).drop 2⟩⟩
          · go_wp2_with fail
            refine (below_dr (us.length : Int) HD8 (by omega) (by have := HU.out; omega)).mono ?_
            rintro e' w9 ⟨x, rfl, ⟨y0, y1⟩, hd⟩
            obtain ⟨k, rfl⟩ := Int.eq_ofNat_of_zero_le y0
            have hk : k < us.length := by omega
            have HD9 := Lib.hid hd
            clear hd HD8 y0 y1
            go_wp2_with fail
            refine (pick_dr w9.heap.size 6 6 [0, 1, -1, -3, 5001, -9223372036854775808] (Lib.hid (HD9.out.lits 6 [0, 1, -1, -3, 5001, -9223372036854775808] rfl (by omega))) (by omega) (by omega)).mono ?_
            rintro e w10 ⟨y, rfl, hy, hd⟩
            obtain ⟨g, cap, hV, -⟩ := World.ownsRow.form (hd.rest.own (i := 0) rfl) (by show 0 < us.length; omega)
            injection hV with hV1 hV2 hV3
            subst hV1 hV3
            clear hV2
            obtain ⟨c1, c2⟩ := hd.rest.cellI (i := 0) rfl (j := k) hk
            clear B0' B1' Bf0' Bf1' R0' R1' Rf0' Rf1'
            have HDA := Lib.hid ((show Dr _ _ _ _ _ _ from hd).map fun c hS => hS.setI (i := 1) rfl k y)
            have hk0 : (0 : Int) ≤ (k : Int) := by omega
            have hki : (k : Int) < (us.length : Int) := by omega
            clear hd hy HD9
            go_upto_region 10 with (fail)
            generalize World.setCell _ _ _ = wE at HDA ⊢
            obtain ⟨q0, qf⟩ := HDA.out.rest.box (i := 2) rfl; have B0' := q0 0 _ rfl; have B1' := q0 1 _ rfl; have Bf0' := qf 0; have Bf1' := qf 1; clear q0 qf; obtain ⟨q0, qf⟩ := HDA.out.rest.box (i := 4) rfl; have R0' := q0 0 _ rfl; have R1' := q0 1 _ rfl; have Rf0' := qf 0; have Rf1' := qf 1; clear q0 qf
            go_wp2
            obtain ⟨hy, ci, cx, ca, cb, hS⟩ := HDA.out
            have hZ := (hS.store (i := 5) rfl 0 (.int .i64 nn)).store (i := 5) rfl 1 (.slice V p d)
            exact bodyPost_ret (v := .tuple #[.agg #[.int .i64 nn, .slice V p d], .slice (some ⟨g, 0, none⟩) us.length ud]) (by simp [results, Tryz.results53, go_sem, R0', R1', Rf0', Rf1']) rfl ⟨nn, V, d, ys, some ⟨g, 0, none⟩, ud, us.set k y, by rw [HP.out, List.length_set], ⟨HT.out.1, HT.out.2.1, HT.out.2.2, by rw [List.length_set]; exact HU.out⟩, by rw [HP.out, List.length_set]; exact ⟨hy, ci, cx, ca, cb, ((hZ.drop 5).drop 3).drop 2⟩⟩
        · have h0i : ¬ (0 : Int) < (us.length : Int) := by omega
          go_wp2
          obtain ⟨hy, ci, cx, ca, cb, hS⟩ := HD7.out
          have hZ := (hS.store (i := 5) rfl 0 (.int .i64 nn)).store (i := 5) rfl 1 (.slice V p d)
          exact bodyPost_ret (v := .tuple #[.agg #[.int .i64 nn, .slice V p d], .slice U us.length ud]) (by simp [results, Tryz.results53, go_sem, R0', R1', Rf0', Rf1']) rfl ⟨nn, V, d, ys, U, ud, us, by rw [HP.out], ⟨HT.out.1, HT.out.2.1, HT.out.2.2, by exact HU.out⟩, by rw [HP.out]; exact ⟨hy, ci, cx, ca, cb, ((hZ.drop 5).drop 3).drop 2⟩⟩
  · have HF := hf
    clear hf
    rw [if_pos hb] at htm
    obtain ⟨hl1, hl2⟩ := lower_yes hb
    rw [hb, hl1] at HF
    rw [hl1] at htm
    clear hl1 hl2 hb
    generalize (lowerFn n xs).2.1 = gs at *
    have HT := Lib.hid (show 1 ≤ gs.length ∧ gs.length ≤ 32 ∧ Tm gs from ⟨by rw [htm.2]; exact HX.out.1, by rw [htm.2]; exact HX.out.2.1, htm.1⟩)
    clear htm HX
    go_wp2_with fail
    refine (HF.out _ (Lib.hid (HD2.out.rest.ints (i := 1) rfl))).mono ?_
    rintro e w3 ⟨A2, c2, rfl, ho, hb⟩
    obtain ⟨p, hp⟩ : ∃ p, gs.length = p := ⟨_, rfl⟩
    have HP := Lib.hid hp
    rw [hp] at ⊢
    have hz1 : w1.heap.size < w3.heap.size := by have := (HD2.out.newI hb ho).lt_of (i := 1) rfl rfl; exact this
    have hne : ¬ w1.heap.size = w3.heap.size := by omega
    have HD3 := Lib.hid (HD2.out.newI hb ho)
    rw [hp] at HD3
    obtain ⟨q0, qf⟩ := HD3.out.rest.box (i := 1) rfl
    have B0 := q0 0 _ rfl
    have B1 := q0 1 _ rfl
    have Bf0 := qf 0
    have Bf1 := qf 1
    clear q0 qf ho hb HD2 hp
    go_wp2
    have HD5 := Lib.hid (show Dr w0 v len B _ (il (.slice A2 p c2) p gs :: bx w1.heap.size 26 [.int .i64 n, .slice A2 p c2] :: bx w.heap.size 26 [.int .i64 0, .slice none 0 0] :: L) from ((HD3.out.map fun c hS => ((hS.store (i := 2) rfl 0 (.int .i64 n)).store (i := 2) rfl 1 (.slice A2 p c2)).drop 3).alloc [.int .i64 n, .slice A2 p c2] 26).map fun c hS => hS.drop 1)
    clear HD3 B0 B1 Bf0 Bf1 HF
    generalize World.alloc _ _ = w5 at HD5 ⊢
    obtain ⟨nn, rfl⟩ : ∃ nn, nn = n := ⟨_, rfl⟩
    obtain ⟨ys, rfl⟩ : ∃ ys, ys = gs := ⟨_, rfl⟩
    obtain ⟨V, rfl⟩ : ∃ V, V = A2 := ⟨_, rfl⟩
    obtain ⟨d, rfl⟩ : ∃ d, d = c2 := ⟨_, rfl⟩
    have HCO := Lib.hid (fun (m : Int) O (os : List Int) od W h1 h2 h3 => cornerS_any m V ys d O os od W h1 h2 h3)
    rw [HP.out] at HCO
    obtain ⟨q0, qf⟩ := HD5.out.rest.box (i := 1) rfl
    have B0 := q0 0 _ rfl
    have B1 := q0 1 _ rfl
    have Bf0 := qf 0
    have Bf1 := qf 1
    clear q0 qf
    obtain ⟨q, hq5, hm⟩ : ∃ q : Nat, q ≤ 5 ∧ (if (0 : Int) < if nn < 5 then nn else 5 then if nn < 5 then nn else 5 else 0) = (q : Int) := by
      by_cases c1 : nn < 5
      · by_cases c2 : 0 < nn
        · exact ⟨nn.toNat, by omega, by rw [if_pos c1, if_pos c2]; omega⟩
        · exact ⟨0, by omega, by rw [if_pos c1, if_neg c2]; rfl⟩
      · exact ⟨5, by omega, by rw [if_neg c1]; rfl⟩
    have hn1 : ¬ w.heap.size = w1.heap.size := by omega
    have hn2 : ¬ w1.heap.size = w.heap.size := by omega
    have HM := Lib.hid hm
    obtain ⟨r, hr⟩ : ∃ r, (if nn < 5 then nn else 5) = r := ⟨_, rfl⟩
    have HN := Lib.hid hr
    clear hr
    clear hm
    go_region_held3 (fun w' => w'.cell? ⟨w1.heap.size, 0, none⟩ = some (.int .i64 nn) ∧ w'.cell? ⟨w1.heap.size, 1, none⟩ = some (.slice V p d)) (first | (refine ⟨?_, ?_⟩ <;> assumption) | assumption | go_keep) (first
      | (go_at_call 74; rw [HM.out]; (try rw [HN.out]); refine (order_dr q (by first | exact Lib.hid HD5.out.drew | exact HD5 | exact Lib.hid (HD5.out.drewN _)) (by omega)).mono ?_; rintro e w6 ⟨O, od, os, rfl, hlo, hd⟩; obtain ⟨q0, qf⟩ := hd.rest.box (i := 2) rfl; have B0' := q0 0 _ rfl; have B1' := q0 1 _ rfl; have Bf0' := qf 0; have Bf1' := qf 1; clear q0 qf; have HD6 := Lib.hid hd; have HO := Lib.hid hlo; clear hd hlo B0 B1 Bf0 Bf1)
      | (go_at_call 73; refine (HCO.out nn O os od _ (by first | exact Lib.hid (HD6.out.rest.ints (i := 1) rfl) | exact Lib.hid (HD6.out.drew.rest.ints (i := 1) rfl) | exact Lib.hid ((HD6.out.drewN _).rest.ints (i := 1) rfl)) (by first | exact Lib.hid (HD6.out.rest.ints (i := 0) rfl) | exact Lib.hid (HD6.out.drew.rest.ints (i := 0) rfl) | exact Lib.hid ((HD6.out.drewN _).rest.ints (i := 0) rfl)) (by have := HO.out; omega)).mono ?_; rintro e w7 ⟨U, ud, rfl, ho, hb⟩; have hd := (show Dr w0 v len B w7 _ from by first | exact HD6.out.newI hb ho | exact HD6.out.drew.newI hb ho | exact (HD6.out.drewN _).newI hb ho); clear ho hb; have hle := cornerOf_le5 nn ys os; generalize (cornerOf nn ys os).1 = us at hd hle ⊢; generalize (cornerOf nn ys os).2 = fine at hd ⊢; clear B0' B1' Bf0' Bf1'; obtain ⟨q0, qf⟩ := hd.rest.box (i := 3) rfl; have B0' := q0 0 _ rfl; have B1' := q0 1 _ rfl; have Bf0' := qf 0; have Bf1' := qf 1; clear q0 qf; obtain ⟨q0, qf⟩ := hd.rest.box (i := 4) rfl; have R0' := q0 0 _ rfl; have R1' := q0 1 _ rfl; have Rf0' := qf 0; have Rf1' := qf 1; clear q0 qf; have HD7 := Lib.hid hd; have HU := Lib.hid hle; clear hd hle))
    all_goals
      clear HD5 HD6
      cases fine
      · go_wp2
        go_region_held3 (fun w' => w'.cell? ⟨w1.heap.size, 0, none⟩ = some (.int .i64 nn) ∧ w'.cell? ⟨w1.heap.size, 1, none⟩ = some (.slice V p d)) (first | (refine ⟨?_, ?_⟩ <;> assumption) | assumption | go_keep) ((go_at_call 75; rw [HM.out]; (try rw [HN.out]); refine (vec_dr q (by first | exact Lib.hid HD7.out.drew | exact HD7 | exact Lib.hid (HD7.out.drewN _)) (by omega)).mono ?_; rintro e w8 ⟨U2, d2, us2, rfl, hlu2, hd⟩; obtain ⟨q0, qf⟩ := hd.rest.box (i := 4) rfl; have B0'' := q0 0 _ rfl; have B1'' := q0 1 _ rfl; have Bf0'' := qf 0; have Bf1'' := qf 1; clear q0 qf; obtain ⟨q0, qf⟩ := hd.rest.box (i := 5) rfl; have R0'' := q0 0 _ rfl; have R1'' := q0 1 _ rfl; have Rf0'' := qf 0; have Rf1'' := qf 1; clear q0 qf; have HD8 := Lib.hid hd; have HU2 := Lib.hid hlu2; clear hd hlu2 B0' B1' Bf0' Bf1' R0' R1' Rf0' Rf1'; rw [HU2.out]))
        all_goals
          go_wp2
          obtain ⟨hy, ci, cx, ca, cb, hS⟩ := HD8.out
          have hZ := (hS.store (i := 6) rfl 0 (.int .i64 nn)).store (i := 6) rfl 1 (.slice V p d)
          exact bodyPost_ret (v := .tuple #[.agg #[.int .i64 nn, .slice V p d], .slice U2 q d2]) (by simp [results, Tryz.results53, go_sem, R0'', R1'', Rf0'', Rf1'']) rfl ⟨nn, V, d, ys, U2, d2, us2, by rw [HP.out, HU2.out], ⟨HT.out.1, HT.out.2.1, HT.out.2.2, by rw [HU2.out]; omega⟩, by rw [HP.out]; exact ⟨hy, ci, cx, ca, cb, (((hZ.drop 6).drop 5).drop 3).drop 2⟩⟩
      · by_cases h0 : 0 < us.length
        · have h0i : (0 : Int) < (us.length : Int) := by omega
          go_wp2_with fail
          refine (once_dr 2 HD7 (by omega) (by omega)).mono ?_
          rintro e' w8 ⟨t, rfl, hd⟩
          clear B0' B1' Bf0' Bf1' R0' R1' Rf0' Rf1' HD7; obtain ⟨q0, qf⟩ := hd.rest.box (i := 3) rfl; have B0' := q0 0 _ rfl; have B1' := q0 1 _ rfl; have Bf0' := qf 0; have Bf1' := qf 1; clear q0 qf; obtain ⟨q0, qf⟩ := hd.rest.box (i := 4) rfl; have R0' := q0 0 _ rfl; have R1' := q0 1 _ rfl; have Rf0' := qf 0; have Rf1' := qf 1; clear q0 qf
          have HD8 := Lib.hid hd
          clear hd
          cases t
          · go_wp2
            obtain ⟨hy, ci, cx, ca, cb, hS⟩ := HD8.out
            have hZ := (hS.store (i := 5) rfl 0 (.int .i64 nn)).store (i := 5) rfl 1 (.slice V p d)
            exact bodyPost_ret (v := .tuple #[.agg #[.int .i64 nn, .slice V p d], .slice U us.length ud]) (by simp [results, Tryz.results53, go_sem, R0', R1', Rf0', Rf1']) rfl ⟨nn, V, d, ys, U, ud, us, by rw [HP.out], ⟨HT.out.1, HT.out.2.1, HT.out.2.2, by exact HU.out⟩, by rw [HP.out]; exact ⟨hy, ci, cx, ca, cb, ((hZ.drop 5).drop 4).drop 2⟩⟩
          · go_wp2_with fail
            refine (below_dr (us.length : Int) HD8 (by omega) (by have := HU.out; omega)).mono ?_
            rintro e' w9 ⟨x, rfl, ⟨y0, y1⟩, hd⟩
            obtain ⟨k, rfl⟩ := Int.eq_ofNat_of_zero_le y0
            have hk : k < us.length := by omega
            have HD9 := Lib.hid hd
            clear hd HD8 y0 y1
            go_wp2_with fail
            refine (pick_dr w9.heap.size 6 6 [0, 1, -1, -3, 5001, -9223372036854775808] (Lib.hid (HD9.out.lits 6 [0, 1, -1, -3, 5001, -9223372036854775808] rfl (by omega))) (by omega) (by omega)).mono ?_
            rintro e w10 ⟨y, rfl, hy, hd⟩
            obtain ⟨g, cap, hV, -⟩ := World.ownsRow.form (hd.rest.own (i := 0) rfl) (by show 0 < us.length; omega)
            injection hV with hV1 hV2 hV3
            subst hV1 hV3
            clear hV2
            obtain ⟨c1, c2⟩ := hd.rest.cellI (i := 0) rfl (j := k) hk
            clear B0' B1' Bf0' Bf1' R0' R1' Rf0' Rf1'
            have HDA := Lib.hid ((show Dr _ _ _ _ _ _ from hd).map fun c hS => hS.setI (i := 1) rfl k y)
            have hk0 : (0 : Int) ≤ (k : Int) := by omega
            have hki : (k : Int) < (us.length : Int) := by omega
            clear hd hy HD9
            go_upto_region 10 with (fail)
            generalize World.setCell _ _ _ = wE at HDA ⊢
            obtain ⟨q0, qf⟩ := HDA.out.rest.box (i := 3) rfl; have B0' := q0 0 _ rfl; have B1' := q0 1 _ rfl; have Bf0' := qf 0; have Bf1' := qf 1; clear q0 qf; obtain ⟨q0, qf⟩ := HDA.out.rest.box (i := 4) rfl; have R0' := q0 0 _ rfl; have R1' := q0 1 _ rfl; have Rf0' := qf 0; have Rf1' := qf 1; clear q0 qf
            go_wp2
            obtain ⟨hy, ci, cx, ca, cb, hS⟩ := HDA.out
            have hZ := (hS.store (i := 5) rfl 0 (.int .i64 nn)).store (i := 5) rfl 1 (.slice V p d)
            exact bodyPost_ret (v := .tuple #[.agg #[.int .i64 nn, .slice V p d], .slice (some ⟨g, 0, none⟩) us.length ud]) (by simp [results, Tryz.results53, go_sem, R0', R1', Rf0', Rf1']) rfl ⟨nn, V, d, ys, some ⟨g, 0, none⟩, ud, us.set k y, by rw [HP.out, List.length_set], ⟨HT.out.1, HT.out.2.1, HT.out.2.2, by rw [List.length_set]; exact HU.out⟩, by rw [HP.out, List.length_set]; exact ⟨hy, ci, cx, ca, cb, ((hZ.drop 5).drop 4).drop 2⟩⟩
        · have h0i : ¬ (0 : Int) < (us.length : Int) := by omega
          go_wp2
          obtain ⟨hy, ci, cx, ca, cb, hS⟩ := HD7.out
          have hZ := (hS.store (i := 5) rfl 0 (.int .i64 nn)).store (i := 5) rfl 1 (.slice V p d)
          exact bodyPost_ret (v := .tuple #[.agg #[.int .i64 nn, .slice V p d], .slice U us.length ud]) (by simp [results, Tryz.results53, go_sem, R0', R1', Rf0', Rf1']) rfl ⟨nn, V, d, ys, U, ud, us, by rw [HP.out], ⟨HT.out.1, HT.out.2.1, HT.out.2.2, by exact HU.out⟩, by rw [HP.out]; exact ⟨hy, ci, cx, ca, cb, ((hZ.drop 5).drop 4).drop 2⟩⟩

end


end Go.Proofs.YtffbiflgmlabaaaGreatDoor.C

namespace Go.Proofs.YtffbiflgmlabaaaGreatDoor.C
open Go.RowKit M K
set_option linter.unusedVariables false
set_option linter.unusedSimpArgs false

/-- A function whose values but that of nothing lie close together, and a list, all new. -/
def GotTL (w : World) (e : Ending) (w' : World) : Prop := ∃ v n xs A c ys, e = .returned (.tuple #[v, .slice A (List.length ys) c]) ∧ ys.length ≤ 5 ∧ Tm xs ∧ IsF w w' v n xs ∧ Own w' w.heap.size (.slice A (List.length ys) c) ys ∧ Below w.heap.size w w'

/-- The same, and the list has numbers that an int can hold. -/
def GotTLW (w : World) (e : Ending) (w' : World) : Prop := ∃ v n xs A c ys, e = .returned (.tuple #[v, .slice A (List.length ys) c]) ∧ ys.length ≤ 5 ∧ In64 ys ∧ Tm xs ∧ IsF w w' v n xs ∧ Own w' w.heap.size (.slice A (List.length ys) c) ys ∧ Below w.heap.size w w'


section

end


end Go.Proofs.YtffbiflgmlabaaaGreatDoor.C

namespace Go.Proofs.YtffbiflgmlabaaaGreatDoor.C
open Go.RowKit M K
set_option linter.unusedVariables false
set_option linter.unusedSimpArgs false

/-- Two new lists. -/
def GotLL (w : World) (e : Ending) (w' : World) : Prop := ∃ A c us D d ws, e = .returned (.tuple #[.slice A (List.length us) c, .slice D (List.length ws) d]) ∧ us.length ≤ 6 ∧ ws.length ≤ 6 ∧ Own w' w.heap.size (.slice A (List.length us) c) us ∧ Own w' w.heap.size (.slice D (List.length ws) d) ws ∧ Below w.heap.size w w'
/-- A new list. -/
def GotL6 (w : World) (e : Ending) (w' : World) : Prop := ∃ A c us, e = .returned (.slice A (List.length us) c) ∧ us.length ≤ 6 ∧ Own w' w.heap.size (.slice A (List.length us) c) us ∧ Below w.heap.size w w'


section

end


end Go.Proofs.YtffbiflgmlabaaaGreatDoor.C
