/-
  The contracts of the draws of chapter 2: a coverage function, a function.
-/
import Derived.Test.YtfpoiiennlhphaaDoorCurs
import Derived.Test.YtfpoiiennlhphaaDoorIsFnS
import Derived.Deep.RegionHeld3
import Derived.StillTailTactics
namespace Go.Proofs.YtfpoiiennlhphaaDoor.C
open Go.RowKit M K
set_option linter.unusedVariables false
set_option linter.unusedSimpArgs false

/-- A list that was drawn. -/
def DrL (w0 : World) (v : Value) (len B : Nat) (L : List Cel) (P : List Int → Prop) (e : Ending) (w' : World) : Prop := ∃ (A : Option Addr) (c : Nat) (xs : List Int), e = .returned (.slice A xs.length c) ∧ P xs ∧ Dr w0 v len B w' (il (.slice A xs.length c) xs.length xs :: L)
/-- A function that was drawn. -/
def DrF (w0 : World) (v : Value) (len B : Nat) (L : List Cel) (P : Int → List Int → Prop) (e : Ending) (w' : World) : Prop := ∃ (n : Int) (A : Option Addr) (c : Nat) (xs : List Int), e = .returned (.agg #[.int .i64 n, .slice A xs.length c]) ∧ P n xs ∧ Dr w0 v len B w' (il (.slice A xs.length c) xs.length xs :: L)

theorem p2_nat {n : Nat} (h : n ≤ 5) : 1 ≤ 2 ^ n ∧ 2 ^ n ≤ 32 := ⟨Nat.one_le_two_pow, Nat.le_trans (Nat.pow_le_pow_right (by decide) h) (by decide)⟩


section

variable {w0 : World} {v : Value} {len B : Nat} {L : List Cel} {w : World}

set_option maxRecDepth 100000 in
set_option maxHeartbeats 1600000 in
theorem size_dr (S : Nat) (w : World) (hS : S ≤ 1048576) : Calls Tryd.prog 73 #[.int .i64 S] w fun e w' => ∃ x : Int, e = .returned (.int .i64 x) ∧ ∃ q, w.drewN q = w' := by
  go_enter Tryd.func73, Tryd.ntmps73
  go_wp2
  go_loopw [3, 4] (fun n x wr => ∃ (c : Int) (X : Nat), n = .int .i64 c ∧ x = .int .i64 X ∧ X ≤ 1048576 ∧ ∃ q, w.drewN q = wr) (fun _ x _ => (intOf x).toNat)
  case atStart => exact ⟨0, S, rfl, rfl, hS, 0, rfl⟩
  case round =>
    obtain ⟨c, X, rfl, rfl, hX, q, rfl⟩ := hrel
    by_cases h0 : 0 < X
    · have h0i : (0 : Int) < (X : Int) := by omega
      have hdiv : ((X / 2 : Nat) : Int) = (X : Int) / 2 := by omega
      have HD := Lib.hid hdiv
      clear hdiv
      go_wp2
      go_roundw
      case rel => exact ⟨_, X / 2, rfl, by rw [HD.out], by omega, _, rfl⟩
      case measure => simp [intOf]; omega
    · obtain rfl : X = 0 := by omega
      go_wp2
      go_ret
      exact ⟨c, rfl, q, rfl⟩

set_option maxRecDepth 100000 in
set_option maxHeartbeats 4000000 in
theorem cover_dr (n : Nat) (h : Hid (Dr w0 v len B w L)) (hn : n ≤ 5) :
    Calls Tryd.prog 109 #[.pointer (some ⟨B, 0, none⟩), .int .i64 n] w (DrL w0 v len B L (fun xs => xs.length = 2 ^ n)) := by
  obtain ⟨p, hp⟩ : ∃ p, p = 2 ^ n := ⟨_, rfl⟩
  have hp32 := p2_nat hn
  have hsh := shl_one (n := (n : Int)) (m := p) (by omega) (by omega) (by rw [Int.toNat_natCast]; exact hp)
  rw [Int.toNat_natCast] at hsh
  rw [← hp] at hp32 ⊢
  obtain ⟨hp1, hp2⟩ := hp32
  clear hp
  obtain ⟨i0, hi, hz0, hz1, hz2⟩ := info_parts info_int
  go_enter Tryd.func109, Tryd.ntmps109
  go_wp2_with fail
  refine (below_dr 5 (Lib.hid (h.out.empty.empty)) (by omega) (by omega)).mono ?_
  rintro e w1 ⟨k, rfl, ⟨k0, k1⟩, hd⟩
  obtain ⟨K, rfl⟩ := Int.eq_ofNat_of_zero_le k0
  have HD := Lib.hid hd
  clear hd
  simp only [World.size_alloc] at HD
  go_wp2
  go_loopw [5, 6, 7] (fun a b c wr => ∃ (k q : Nat) (A A2 : Option Addr) (d d2 : Nat) (xs ys : List Int), c = .int .i64 k ∧ a = .slice A q d ∧ b = .slice A2 q d2 ∧ q + k ≤ 4 ∧ Dr w0 v len B wr (il (.slice A2 q d2) q ys :: il (.slice A q d) q xs :: L)) (fun _ _ c _ => (intOf c).toNat)
  case atStart => exact ⟨K, 0, _, _, _, _, [], [], rfl, rfl, rfl, by omega, HD.out⟩
  case round =>
    obtain ⟨k, q, A, A2, d, d2, xs, ys, rfl, rfl, rfl, hq, hD⟩ := hrel
    have HD := Lib.hid hD
    clear hD
    by_cases hk : 0 < k
    · have hki : (0 : Int) < (k : Int) := by omega
      go_wp2_with fail
      refine (below_dr 3 HD (by omega) (by omega)).mono ?_
      rintro e w2 ⟨x, rfl, ⟨x0, x1⟩, hd⟩
      have HD2 := Lib.hid hd
      clear hd HD
      go_wp2_with (at_builtin; obtain ⟨hy, ci, cx, ca, cb, hS⟩ := HD2.out; refine wpList_app1 rfl (.tmp 20) (.tmp 24) 24 rfl (1 + x) Tryd.underlying24 hi hz0 hz1 hz2 ((hS.alloc _ _).drop 0) (i := 2) rfl rfl rfl (by simp) (by omega) ?_; intro V' c' w3 hS3; have HD3 := Lib.hid (show Dr w0 v len B w3 _ from ⟨hy, ci, cx, ca, cb, hS3⟩); clear hS hS3 HD2 hy cb ca)
      go_wp2_with fail
      refine (below_dr (p : Int) HD3 (by omega) (by omega)).mono ?_
      rintro e w4 ⟨y, rfl, ⟨y0, y1⟩, hd⟩
      have HD4 := Lib.hid hd
      clear hd HD3
      go_wp2_with (at_builtin; obtain ⟨hy, ci, cx, ca, cb, hS⟩ := HD4.out; refine wpList_app1 rfl (.tmp 26) (.tmp 31) 24 rfl y Tryd.underlying24 hi hz0 hz1 hz2 ((hS.alloc _ _).drop 0) (i := 1) rfl rfl rfl (by simp) (by omega) ?_; intro V2 c2 w5 hS5; have HD5 := Lib.hid (show Dr w0 v len B w5 _ from ⟨hy, ci, cx, ca, cb, hS5⟩); clear hS hS5 HD4 hy cb ca)
      go_roundw
      case rel => exact ⟨k - 1, q + 1, V', V2, c', c2, xs ++ [1 + x], ys ++ [y], by go_num, rfl, rfl, by omega, HD5.out⟩
      case measure => simp [intOf]; omega
    · obtain rfl : k = 0 := by omega
      have hk : ¬ (0 : Int) < ((0 : Nat) : Int) := by omega
      go_wp2
      obtain ⟨wo, rfl⟩ : ∃ wo : World, wo = wr := ⟨_, rfl⟩
      go_loopw [8, 9] (fun a s wr => ∃ (j : Nat) (V : Option Addr) (e : Nat) (zs : List Int), s = .int .i64 j ∧ j ≤ p ∧ a = .slice V j e ∧ Dr w0 v len B wr (il (.slice V j e) j zs :: il (.slice A2 q d2) q ys :: il (.slice A q d) q xs :: L)) (fun _ s _ => p - (intOf s).toNat)
      case atStart => exact ⟨0, _, _, [], rfl, Nat.zero_le _, rfl, HD.out.empty⟩
      case round =>
        obtain ⟨j, V, e, zs, rfl, hj, rfl, hD⟩ := hrel
        have HE := Lib.hid hD
        clear hD
        by_cases hlt : j < p
        · have hji : (j : Int) < (p : Int) := by omega
          go_wp2
          obtain ⟨wo2, rfl⟩ : ∃ wo : World, wo = wr := ⟨_, rfl⟩
          go_loopw [10, 11] (fun x i wr => ∃ (X : Int) (c : Nat), x = .int .i64 X ∧ i = .int .i64 c ∧ c ≤ q ∧ Dr w0 v len B wr (il (.slice V j e) j zs :: il (.slice A2 q d2) q ys :: il (.slice A q d) q xs :: L)) (fun _ i _ => q - (intOf i).toNat)
          case atStart => exact ⟨0, 0, rfl, rfl, Nat.zero_le _, HE.out⟩
          case round =>
            obtain ⟨X, c, rfl, rfl, hc, hD⟩ := hrel
            have HF := Lib.hid hD
            by_cases hlt2 : c < q
            · have hci : (c : Int) < (q : Int) := by omega
              have hc0 : (0 : Int) ≤ (c : Int) := by omega
              obtain ⟨b1, o1, hA1, -, g1⟩ := (hD.rest.ints (i := 1) rfl).at_ (k := c) (by rw [OwnN.len (hD.rest.own (i := 1) rfl)]; exact hlt2)
              obtain ⟨b2, o2, hA2, -, g2⟩ := (hD.rest.ints (i := 2) rfl).at_ (k := c) (by rw [OwnN.len (hD.rest.own (i := 2) rfl)]; exact hlt2)
              subst hA1 hA2
              generalize ys.getD c 0 = y1 at g1
              generalize xs.getD c 0 = x1 at g2
              clear hD
              by_cases hz : (bits .and .i64 y1 (j : Int) != 0) = true
              · go_wp2
                go_roundw
                case rel => exact ⟨_, c + 1, rfl, by go_num, by omega, HF.out⟩
                case measure => simp [intOf]; omega
              · have hz : (bits .and .i64 y1 (j : Int) != 0) = false := by simpa using hz
                go_wp2
                go_roundw
                case rel => exact ⟨X, c + 1, rfl, by go_num, by omega, HF.out⟩
                case measure => simp [intOf]; omega
            · obtain rfl : c = q := by omega
              have hcq : ¬ (c : Int) < (c : Int) := by omega
              clear hD
              go_wp2_with (at_builtin; obtain ⟨hy, ci, cx, ca, cb, hS⟩ := HF.out; refine wpList_app1 rfl (.tmp 59) (.tmp 61) 24 rfl X Tryd.underlying24 hi hz0 hz1 hz2 ((hS.alloc _ _).drop 0) (i := 1) rfl rfl rfl (by simp) (by omega) ?_; intro V' c' w3 hS3; have HD3 := Lib.hid (show Dr w0 v len B w3 _ from ⟨hy, ci, cx, ca, cb, hS3⟩); clear hS hS3 HF hy cb ca)
              go_roundw
              case rel => exact ⟨j + 1, V', c', zs ++ [X], by go_num, by omega, rfl, HD3.out⟩
              case measure => simp [intOf]; omega
        · obtain rfl : j = p := by omega
          have hjp : ¬ (j : Int) < (j : Int) := by omega
          go_wp2
          go_ret
          have hl : zs.length = j := OwnN.len (HE.out.rest.own (i := 0) rfl)
          refine ⟨V, e, zs, by rw [hl]; rfl, hl, ?_⟩
          rw [hl]
          exact HE.out.map fun c hS => (hS.drop 2).drop 2

set_option maxRecDepth 100000 in
set_option maxHeartbeats 8000000 in
theorem draw_dr (most : Nat) (h : Hid (Dr w0 v len B w L)) (hm : most ≤ 5) :
    Calls Tryd.prog 117 #[.pointer (some ⟨B, 0, none⟩), .int .i64 most] w (DrF w0 v len B L (fun m xs => ∃ n : Nat, m = (n : Int) ∧ n ≤ 5 ∧ xs.length = 2 ^ n)) := by
  obtain ⟨i0, hi, hz0, hz1, hz2⟩ := info_parts info_int
  go_enter Tryd.func117, Tryd.ntmps117
  go_wp2_with fail
  refine (below_dr ((most : Int) + 1) (Lib.hid (h.out.alloc [.int .i64 0, .slice none 0 0] 26)) (by omega) (by omega)).mono ?_
  rintro e w1 ⟨x, rfl, ⟨x0, x1⟩, hd⟩
  obtain ⟨n, rfl⟩ := Int.eq_ofNat_of_zero_le x0
  have hn : n ≤ 5 := by omega
  obtain ⟨p, hp⟩ : ∃ p, p = 2 ^ n := ⟨_, rfl⟩
  obtain ⟨hp1, hp2⟩ := p2_nat hn
  have hsh := shl_one (n := (n : Int)) (m := p) (by omega) (by omega) (by rw [Int.toNat_natCast]; exact hp)
  rw [Int.toNat_natCast] at hsh
  rw [← hp] at hp1 hp2
  have HP := Lib.hid hp
  clear hp
  have HD := Lib.hid hd
  clear hd
  go_wp2_with fail
  refine (below_dr 5 (Lib.hid HD.out.empty) (by omega) (by omega)).mono ?_
  rintro e w2 ⟨t, rfl, ⟨t0, t1⟩, hd⟩
  have HD2 := Lib.hid hd
  clear hd
  by_cases e0 : t = 0
  · subst e0
    go_wp2
    go_loopw [6, 7] (fun a i wr => ∃ (j : Nat) (U : Option Addr) (d : Nat) (us : List Int), i = .int .i64 j ∧ j ≤ p ∧ a = .slice U j d ∧ Dr w0 v len B wr (il (.slice U j d) j us :: bx w.heap.size 26 [.int .i64 0, .slice none 0 0] :: L)) (fun _ i _ => p - (intOf i).toNat)
    case atStart => exact ⟨0, _, _, [], rfl, Nat.zero_le _, rfl, HD2.out⟩
    case round =>
      obtain ⟨j, U, d, us, rfl, hj, rfl, hD⟩ := hrel
      have HY := Lib.hid hD
      clear hD
      by_cases hlt : j < p
      · have hji : (j : Int) < (p : Int) := by omega
        go_wp2_with fail
        refine (below_dr 6 HY (by omega) (by omega)).mono ?_
        rintro e' w6 ⟨x, rfl, ⟨y0, y1⟩, hd⟩
        have HY2 := Lib.hid hd
        clear hd HY
        go_wp2_with (at_builtin; obtain ⟨hy, ci, cx, ca, cb, hS⟩ := HY2.out; refine wpList_app1 rfl (.tmp 32) (.tmp 36) 24 rfl (x - 1) Tryd.underlying24 hi hz0 hz1 hz2 ((hS.alloc _ _).drop 0) (i := 1) rfl rfl rfl (by simp) (by omega) ?_; intro V' c' w3 hS3; have HD3 := Lib.hid (show Dr w0 v len B w3 _ from ⟨hy, ci, cx, ca, cb, hS3⟩); clear hS hS3 HY2 hy cb ca)
        go_roundw
        case rel => exact ⟨j + 1, V', c', us ++ [x - 1], by go_num, by omega, rfl, HD3.out⟩
        case measure => simp [intOf]; omega
      · obtain rfl : j = p := by omega
        have hjp : ¬ (j : Int) < (j : Int) := by omega
        obtain ⟨r1, rf⟩ := HY.out.rest.box (i := 1) rfl
        have r10 := r1 0 _ rfl
        have r11 := r1 1 _ rfl
        have rf0 := rf 0
        have rf1 := rf 1
        clear r1 rf
        go_wp2
        have hp := HP.out
        obtain ⟨hy, ci, cx, ca, cb, hS⟩ := HY.out
        have hZ := (hS.store (i := 2) rfl 0 (.int .i64 n)).store (i := 2) rfl 1 (.slice U j d)
        have hl : us.length = j := OwnN.len (hZ.own (i := 1) rfl)
        exact bodyPost_ret (v := .agg #[.int .i64 n, .slice U j d]) (by simp [results, Tryd.results117, go_sem, r10, r11, rf0, rf1]) rfl ⟨n, U, d, us, by rw [hl], ⟨n, rfl, by omega, by rw [hl]; exact HP.out⟩, by rw [hl]; exact ⟨hy, ci, cx, ca, cb, hZ.drop 2⟩⟩
  · have f0 : (t == 0) = false := by simpa using e0
    by_cases e1 : t = 1
    · subst e1
      clear e0 f0
      go_wp2_with fail
      refine (below_dr ((n : Int) + 1) HD2 (by omega) (by omega)).mono ?_
      rintro e w3 ⟨top, rfl, ⟨top0, top1⟩, hd⟩
      have HD3 := Lib.hid hd
      clear hd HD2
      go_wp2
      go_loopw [6, 9] (fun a i wr => ∃ (j : Nat) (U : Option Addr) (d : Nat) (us : List Int), i = .int .i64 j ∧ j ≤ p ∧ a = .slice U j d ∧ Dr w0 v len B wr (il (.slice U j d) j us :: bx w.heap.size 26 [.int .i64 0, .slice none 0 0] :: L)) (fun _ i _ => p - (intOf i).toNat)
      case atStart => exact ⟨0, _, _, [], rfl, Nat.zero_le _, rfl, HD3.out⟩
      case round =>
        obtain ⟨j, U, d, us, rfl, hj, rfl, hD⟩ := hrel
        have HY := Lib.hid hD
        clear hD
        by_cases hlt : j < p
        · have hji : (j : Int) < (p : Int) := by omega
          go_wp2_with fail
          refine (size_dr j _ (by omega)).mono ?_
          rintro e' w6 ⟨x, rfl, hq⟩
          have HY2 := Lib.hid (show Dr w0 v len B w6 _ from by obtain ⟨q, rfl⟩ := hq; exact HY.out.drewN q)
          clear hq HY
          obtain ⟨m, hm2⟩ : ∃ m, (if x < top then x else top) = m := ⟨_, rfl⟩
          go_wp2_with (at_builtin; obtain ⟨hy, ci, cx, ca, cb, hS⟩ := HY2.out; refine wpList_app1 rfl (.tmp 53) (.tmp 58) 24 rfl m Tryd.underlying24 hi hz0 hz1 hz2 ((hS.alloc _ _).drop 0) (i := 1) rfl rfl rfl (by simp [← hm2]) (by omega) ?_; intro V' c' w3 hS3; have HD3 := Lib.hid (show Dr w0 v len B w3 _ from ⟨hy, ci, cx, ca, cb, hS3⟩); clear hS hS3 HY2 hy cb ca)
          go_roundw
          case rel => exact ⟨j + 1, V', c', us ++ [m], by go_num, by omega, rfl, HD3.out⟩
          case measure => simp [intOf]; omega
        · obtain rfl : j = p := by omega
          have hjp : ¬ (j : Int) < (j : Int) := by omega
          obtain ⟨p, hpj⟩ : ∃ p, p = j := ⟨_, rfl⟩
          subst hpj
          obtain ⟨V, e, zs, he⟩ : ∃ V e zs, (V, e, zs) = (U, d, us) := ⟨_, _, _, rfl⟩
          injection he with he1 he2
          injection he2 with he2 he3
          subst he1 he2 he3
          go_wp2_with fail
          refine (once_dr 2 HY (by omega) (by omega)).mono ?_
          rintro e' w5 ⟨b, rfl, hd⟩
          have HX := Lib.hid hd
          clear hd
          cases b
          · obtain ⟨r1, rf⟩ := HX.out.rest.box (i := 1) rfl
            have r10 := r1 0 _ rfl
            have r11 := r1 1 _ rfl
            have rf0 := rf 0
            have rf1 := rf 1
            clear r1 rf
            go_wp2
            obtain ⟨hy, ci, cx, ca, cb, hS⟩ := HX.out
            have hZ := (hS.store (i := 2) rfl 0 (.int .i64 n)).store (i := 2) rfl 1 (.slice V p e)
            have hl : zs.length = p := OwnN.len (hZ.own (i := 1) rfl)
            exact bodyPost_ret (v := .agg #[.int .i64 n, .slice V p e]) (by simp [results, Tryd.results117, go_sem, r10, r11, rf0, rf1]) rfl ⟨n, V, e, zs, by rw [hl], ⟨n, rfl, by omega, by rw [hl]; exact HP.out⟩, by rw [hl]; exact ⟨hy, ci, cx, ca, cb, hZ.drop 2⟩⟩
          · go_wp2
            obtain ⟨wo, rfl⟩ : ∃ wo : World, wo = w5 := ⟨_, rfl⟩
            go_loopw [10, 11] (fun a i wr => ∃ (j : Nat) (U : Option Addr) (d : Nat) (us : List Int), i = .int .i64 j ∧ j ≤ n ∧ a = .slice U j d ∧ Dr w0 v len B wr (il (.slice U j d) j us :: il (.slice V p e) p zs :: bx w.heap.size 26 [.int .i64 0, .slice none 0 0] :: L)) (fun _ i _ => n - (intOf i).toNat)
            case atStart => exact ⟨0, _, _, [], rfl, Nat.zero_le _, rfl, HX.out.empty⟩
            case round =>
              obtain ⟨j, U, d, us, rfl, hj, rfl, hD⟩ := hrel
              have HY := Lib.hid hD
              clear hD
              by_cases hlt : j < n
              · have hji : (j : Int) < (n : Int) := by omega
                go_wp2_with fail
                refine (below_dr 4 HY (by omega) (by omega)).mono ?_
                rintro e' w6 ⟨x, rfl, ⟨x0, x1⟩, hd⟩
                have HY2 := Lib.hid hd
                clear hd HY
                go_wp2_with (at_builtin; obtain ⟨hy, ci, cx, ca, cb, hS⟩ := HY2.out; refine wpList_app1 rfl (.tmp 68) (.tmp 71) 24 rfl x Tryd.underlying24 hi hz0 hz1 hz2 ((hS.alloc _ _).drop 0) (i := 1) rfl rfl rfl (by simp) (by omega) ?_; intro V' c' w3 hS3; have HD3 := Lib.hid (show Dr w0 v len B w3 _ from ⟨hy, ci, cx, ca, cb, hS3⟩); clear hS hS3 HY2 hy cb ca)
                go_roundw
                case rel => exact ⟨j + 1, V', c', us ++ [x], by go_num, by omega, rfl, HD3.out⟩
                case measure => simp [intOf]; omega
              · obtain rfl : j = n := by omega
                have hjn : ¬ (j : Int) < (j : Int) := by omega
                go_wp2
                obtain ⟨wo2, rfl⟩ : ∃ wo : World, wo = wr := ⟨_, rfl⟩
                go_loopw [12] (fun s wr => ∃ (k : Nat) (ts : List Int), s = .int .i64 k ∧ k ≤ p ∧ Dr w0 v len B wr (il (.slice U j d) j us :: il (.slice V p e) p ts :: bx w.heap.size 26 [.int .i64 0, .slice none 0 0] :: L)) (fun s _ => p - (intOf s).toNat)
                case atStart => exact ⟨0, zs, rfl, Nat.zero_le _, HY.out⟩
                case round =>
                  obtain ⟨k, ts, rfl, hk, hD⟩ := hrel
                  have HZ := Lib.hid hD
                  clear hD
                  by_cases hlt2 : k < p
                  · have hki : (k : Int) < (p : Int) := by omega
                    have hk0 : (0 : Int) ≤ (k : Int) := by omega
                    go_wp2
                    simp only [hsh]
                    obtain ⟨wo3, rfl⟩ : ∃ wo : World, wo = wr := ⟨_, rfl⟩
                    go_loopw [13] (fun i wr => ∃ (c : Nat) (ts : List Int), i = .int .i64 c ∧ c ≤ j ∧ Dr w0 v len B wr (il (.slice U j d) j us :: il (.slice V p e) p ts :: bx w.heap.size 26 [.int .i64 0, .slice none 0 0] :: L)) (fun i _ => j - (intOf i).toNat)
                    case atStart => exact ⟨0, ts, rfl, Nat.zero_le _, HZ.out⟩
                    case round =>
                      obtain ⟨c, ts, rfl, hc, hD⟩ := hrel
                      have HQ := Lib.hid hD
                      by_cases hlt3 : c < j
                      · have hci : (c : Int) < (j : Int) := by omega
                        have hc0 : (0 : Int) ≤ (c : Int) := by omega
                        obtain ⟨b1, o1, hA1, -, g1⟩ := (hD.rest.ints (i := 0) rfl).at_ (k := c) (by rw [OwnN.len (hD.rest.own (i := 0) rfl)]; exact hlt3)
                        have hlv : ts.length = p := OwnN.len (hD.rest.own (i := 1) rfl)
                        obtain ⟨g, cap, hV, -⟩ := World.ownsRow.form (hD.rest.own (i := 1) rfl) (by show 0 < p; omega)
                        injection hV with hV1 hV2 hV3
                        subst hA1 hV1 hV3
                        clear hV2
                        obtain ⟨g2, g3⟩ := hD.rest.cellI (i := 1) rfl hlt2
                        generalize us.getD c 0 = y1 at g1
                        generalize hx1 : ts.getD k 0 = x1 at g2
                        clear hD hlv hx1
                        by_cases hz : bits .and .i64 ((k : Int) / 2 ^ c) 1 = 1
                        · go_wp2
                          go_still_tail 11, (by kernel_rfl)
                          change wpList _ _ _ _ _ wr.drew
                          generalize hwd : wr.drew = wd
                          have c0 : wd.cell? ⟨g, k, none⟩ = some (.int .i64 x1) := by rw [← hwd]; exact g2
                          have c1 : wd.frozen? ⟨g, k, none⟩ = false := by rw [← hwd]; exact g3
                          have HQ2 := Lib.hid (show Dr w0 v len B wd _ from hwd ▸ HQ.out.drew)
                          clear hwd
                          go_wp2
                          go_roundw
                          case rel => exact ⟨c + 1, ts.set k _, by go_num, by omega, HQ2.out.map fun c hS => hS.setI (i := 2) rfl k _⟩
                          case measure => simp [intOf]; omega
                        · have hz : (bits .and .i64 ((k : Int) / 2 ^ c) 1 == 1) = false := by simpa using hz
                          go_wp2
                          go_roundw
                          case rel => exact ⟨c + 1, ts, by go_num, by omega, HQ.out⟩
                          case measure => simp [intOf]; omega
                      · obtain rfl : c = j := by omega
                        have hcq : ¬ (c : Int) < (c : Int) := by omega
                        clear hD
                        go_wp2
                        go_roundw
                        case rel => exact ⟨k + 1, ts, by go_num, by omega, HQ.out⟩
                        case measure => simp [intOf]; omega
                  · obtain rfl : k = p := by omega
                    have hkp : ¬ (k : Int) < (k : Int) := by omega
                    obtain ⟨r1, rf⟩ := HZ.out.rest.box (i := 2) rfl
                    have r10 := r1 0 _ rfl
                    have r11 := r1 1 _ rfl
                    have rf0 := rf 0
                    have rf1 := rf 1
                    clear r1 rf
                    go_wp2
                    obtain ⟨hy, ci, cx, ca, cb, hS⟩ := HZ.out
                    have hZ := (hS.store (i := 3) rfl 0 (.int .i64 j)).store (i := 3) rfl 1 (.slice V k e)
                    have hl : ts.length = k := OwnN.len (hZ.own (i := 2) rfl)
                    exact bodyPost_ret (v := .agg #[.int .i64 j, .slice V k e]) (by simp [results, Tryd.results117, go_sem, r10, r11, rf0, rf1]) rfl ⟨j, V, e, ts, by rw [hl], ⟨j, rfl, by omega, by rw [hl]; exact HP.out⟩, by rw [hl]; exact ⟨hy, ci, cx, ca, cb, (hZ.drop 3).drop 1⟩⟩

    · have f1 : (t == 1) = false := by simpa using e1
      clear e0 e1
      go_wp2_with fail
      refine (cover_dr n HD2 hn).mono ?_
      rintro e w3 ⟨V, e, zs, rfl, hlz, hd⟩
      have hl0 : zs.length = p := by rw [hlz, HP.out]
      rw [hl0] at hd
      have HV := Lib.hid (hd.map fun c hS => hS.drop 2)
      clear hd hlz
      rw [hl0]
      go_wp2_with fail
      refine (once_dr 2 HV (by omega) (by omega)).mono ?_
      rintro e' w5 ⟨b, rfl, hd⟩
      have HX := Lib.hid hd
      clear hd
      cases b
      · obtain ⟨r1, rf⟩ := HX.out.rest.box (i := 1) rfl
        have r10 := r1 0 _ rfl
        have r11 := r1 1 _ rfl
        have rf0 := rf 0
        have rf1 := rf 1
        clear r1 rf
        go_wp2
        obtain ⟨hy, ci, cx, ca, cb, hS⟩ := HX.out
        have hZ := (hS.store (i := 2) rfl 0 (.int .i64 n)).store (i := 2) rfl 1 (.slice V p e)
        have hl : zs.length = p := OwnN.len (hZ.own (i := 1) rfl)
        exact bodyPost_ret (v := .agg #[.int .i64 n, .slice V p e]) (by simp [results, Tryd.results117, go_sem, r10, r11, rf0, rf1]) rfl ⟨n, V, e, zs, by rw [hl], ⟨n, rfl, by omega, by rw [hl]; exact HP.out⟩, by rw [hl]; exact ⟨hy, ci, cx, ca, cb, hZ.drop 2⟩⟩
      · go_wp2
        obtain ⟨wo, rfl⟩ : ∃ wo : World, wo = w5 := ⟨_, rfl⟩
        go_loopw [10, 11] (fun a i wr => ∃ (j : Nat) (U : Option Addr) (d : Nat) (us : List Int), i = .int .i64 j ∧ j ≤ n ∧ a = .slice U j d ∧ Dr w0 v len B wr (il (.slice U j d) j us :: il (.slice V p e) p zs :: bx w.heap.size 26 [.int .i64 0, .slice none 0 0] :: L)) (fun _ i _ => n - (intOf i).toNat)
        case atStart => exact ⟨0, _, _, [], rfl, Nat.zero_le _, rfl, HX.out.empty⟩
        case round =>
          obtain ⟨j, U, d, us, rfl, hj, rfl, hD⟩ := hrel
          have HY := Lib.hid hD
          clear hD
          by_cases hlt : j < n
          · have hji : (j : Int) < (n : Int) := by omega
            go_wp2_with fail
            refine (below_dr 4 HY (by omega) (by omega)).mono ?_
            rintro e' w6 ⟨x, rfl, ⟨x0, x1⟩, hd⟩
            have HY2 := Lib.hid hd
            clear hd HY
            go_wp2_with (at_builtin; obtain ⟨hy, ci, cx, ca, cb, hS⟩ := HY2.out; refine wpList_app1 rfl (.tmp 68) (.tmp 71) 24 rfl x Tryd.underlying24 hi hz0 hz1 hz2 ((hS.alloc _ _).drop 0) (i := 1) rfl rfl rfl (by simp) (by omega) ?_; intro V' c' w3 hS3; have HD3 := Lib.hid (show Dr w0 v len B w3 _ from ⟨hy, ci, cx, ca, cb, hS3⟩); clear hS hS3 HY2 hy cb ca)
            go_roundw
            case rel => exact ⟨j + 1, V', c', us ++ [x], by go_num, by omega, rfl, HD3.out⟩
            case measure => simp [intOf]; omega
          · obtain rfl : j = n := by omega
            have hjn : ¬ (j : Int) < (j : Int) := by omega
            go_wp2
            obtain ⟨wo2, rfl⟩ : ∃ wo : World, wo = wr := ⟨_, rfl⟩
            go_loopw [12] (fun s wr => ∃ (k : Nat) (ts : List Int), s = .int .i64 k ∧ k ≤ p ∧ Dr w0 v len B wr (il (.slice U j d) j us :: il (.slice V p e) p ts :: bx w.heap.size 26 [.int .i64 0, .slice none 0 0] :: L)) (fun s _ => p - (intOf s).toNat)
            case atStart => exact ⟨0, zs, rfl, Nat.zero_le _, HY.out⟩
            case round =>
              obtain ⟨k, ts, rfl, hk, hD⟩ := hrel
              have HZ := Lib.hid hD
              clear hD
              by_cases hlt2 : k < p
              · have hki : (k : Int) < (p : Int) := by omega
                have hk0 : (0 : Int) ≤ (k : Int) := by omega
                go_wp2
                simp only [hsh]
                obtain ⟨wo3, rfl⟩ : ∃ wo : World, wo = wr := ⟨_, rfl⟩
                go_loopw [13] (fun i wr => ∃ (c : Nat) (ts : List Int), i = .int .i64 c ∧ c ≤ j ∧ Dr w0 v len B wr (il (.slice U j d) j us :: il (.slice V p e) p ts :: bx w.heap.size 26 [.int .i64 0, .slice none 0 0] :: L)) (fun i _ => j - (intOf i).toNat)
                case atStart => exact ⟨0, ts, rfl, Nat.zero_le _, HZ.out⟩
                case round =>
                  obtain ⟨c, ts, rfl, hc, hD⟩ := hrel
                  have HQ := Lib.hid hD
                  by_cases hlt3 : c < j
                  · have hci : (c : Int) < (j : Int) := by omega
                    have hc0 : (0 : Int) ≤ (c : Int) := by omega
                    obtain ⟨b1, o1, hA1, -, g1⟩ := (hD.rest.ints (i := 0) rfl).at_ (k := c) (by rw [OwnN.len (hD.rest.own (i := 0) rfl)]; exact hlt3)
                    have hlv : ts.length = p := OwnN.len (hD.rest.own (i := 1) rfl)
                    obtain ⟨g, cap, hV, -⟩ := World.ownsRow.form (hD.rest.own (i := 1) rfl) (by show 0 < p; omega)
                    injection hV with hV1 hV2 hV3
                    subst hA1 hV1 hV3
                    clear hV2
                    obtain ⟨g2, g3⟩ := hD.rest.cellI (i := 1) rfl hlt2
                    generalize us.getD c 0 = y1 at g1
                    generalize hx1 : ts.getD k 0 = x1 at g2
                    clear hD hlv hx1
                    by_cases hz : bits .and .i64 ((k : Int) / 2 ^ c) 1 = 1
                    · go_wp2
                      go_still_tail 11, (by kernel_rfl)
                      change wpList _ _ _ _ _ wr.drew
                      generalize hwd : wr.drew = wd
                      have c0 : wd.cell? ⟨g, k, none⟩ = some (.int .i64 x1) := by rw [← hwd]; exact g2
                      have c1 : wd.frozen? ⟨g, k, none⟩ = false := by rw [← hwd]; exact g3
                      have HQ2 := Lib.hid (show Dr w0 v len B wd _ from hwd ▸ HQ.out.drew)
                      clear hwd
                      go_wp2
                      go_roundw
                      case rel => exact ⟨c + 1, ts.set k _, by go_num, by omega, HQ2.out.map fun c hS => hS.setI (i := 2) rfl k _⟩
                      case measure => simp [intOf]; omega
                    · have hz : (bits .and .i64 ((k : Int) / 2 ^ c) 1 == 1) = false := by simpa using hz
                      go_wp2
                      go_roundw
                      case rel => exact ⟨c + 1, ts, by go_num, by omega, HQ.out⟩
                      case measure => simp [intOf]; omega
                  · obtain rfl : c = j := by omega
                    have hcq : ¬ (c : Int) < (c : Int) := by omega
                    clear hD
                    go_wp2
                    go_roundw
                    case rel => exact ⟨k + 1, ts, by go_num, by omega, HQ.out⟩
                    case measure => simp [intOf]; omega
              · obtain rfl : k = p := by omega
                have hkp : ¬ (k : Int) < (k : Int) := by omega
                obtain ⟨r1, rf⟩ := HZ.out.rest.box (i := 2) rfl
                have r10 := r1 0 _ rfl
                have r11 := r1 1 _ rfl
                have rf0 := rf 0
                have rf1 := rf 1
                clear r1 rf
                go_wp2
                obtain ⟨hy, ci, cx, ca, cb, hS⟩ := HZ.out
                have hZ := (hS.store (i := 3) rfl 0 (.int .i64 j)).store (i := 3) rfl 1 (.slice V k e)
                have hl : ts.length = k := OwnN.len (hZ.own (i := 2) rfl)
                exact bodyPost_ret (v := .agg #[.int .i64 j, .slice V k e]) (by simp [results, Tryd.results117, go_sem, r10, r11, rf0, rf1]) rfl ⟨j, V, e, ts, by rw [hl], ⟨j, rfl, by omega, by rw [hl]; exact HP.out⟩, by rw [hl]; exact ⟨hy, ci, cx, ca, cb, (hZ.drop 3).drop 1⟩⟩


end


end Go.Proofs.YtfpoiiennlhphaaDoor.C
