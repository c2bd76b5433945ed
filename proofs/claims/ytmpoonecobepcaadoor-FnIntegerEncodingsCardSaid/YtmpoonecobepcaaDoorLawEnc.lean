/-
  The law: an encoded number is decoded again, whatever follows, and no other string is accepted.
-/
import Derived.Test.YtmpoonecobepcaaDoorMathL
import Derived.Test.YtmpoonecobepcaaDoorDrawN
import Derived.Test.YtmpoonecobepcaaDoorDecVarI
import Derived.Test.YtmpoonecobepcaaDoorHexDI
import Derived.Test.YtmpoonecobepcaaDoorParI
namespace Go.Proofs.YtmpoonecobepcaaDoor.C
open Go.RowKit M K
open Go.Lib (decDigits itoa nDigits)
set_option linter.unusedVariables false

theorem app_data (A l : List UInt8) : ((⟨A.toArray⟩ : ByteArray) ++ ⟨l.toArray⟩).data.toList = A ++ l := by simp
theorem app_size (A l : List UInt8) : ((⟨A.toArray⟩ : ByteArray) ++ ⟨l.toArray⟩).size = A.length + l.length := by
  have : ((⟨A.toArray⟩ : ByteArray) ++ ⟨l.toArray⟩).data.toList.length = A.length + l.length := by rw [app_data]; simp
  exact this

theorem idv_app (n : Int) (l : List UInt8) (w : World) (h0 : 0 ≤ n) (h1 : n ≤ 562949953421311) (hl : l.length ≤ 40) :
    Calls Tryd.prog 10 #[.string ((⟨(encV 6 n).toArray⟩ : ByteArray) ++ ⟨l.toArray⟩)] w fun e w' => e = .returned (.tuple #[.int .i64 n, .int .i64 ((encV 6 n).length : Nat)]) ∧ Below w.heap.size w w' := by
  obtain ⟨ok, le⟩ := var_ok n h0 h1 l
  have hs := app_size (encV 6 n) l
  have hn := encV_len 6 n
  have := idv_yes _ (encV 6 n).length w hn.1 hn.2 (by rw [hs]; omega) (by rw [hs]; omega) (Lib.hid (by rw [app_data]; exact ok))
  rw [app_data, le] at this
  exact this
theorem idv_some (s : ByteArray) (w : World) (h4 : s.size ≤ 9223372036854775807) :
    Calls Tryd.prog 10 #[.string s] w fun e w' => ∃ a b : Int, e = .returned (.tuple #[.int .i64 a, .int .i64 b]) ∧ Below w.heap.size w w' := by
  by_cases h : ∃ k, 1 ≤ k ∧ k ≤ 7 ∧ k ≤ s.size ∧ OkAt s.data.toList k
  · obtain ⟨k, h1, h2, h3, hok⟩ := h
    exact (idv_yes _ k _ h1 h2 h3 h4 (Lib.hid hok)).mono fun e w' ⟨he, hb⟩ => ⟨_, _, he, hb⟩
  · exact (idv_no _ _ h4 (Lib.hid (fun k a b c d => h ⟨k, a, b, c, d⟩))).mono fun e w' ⟨he, hb⟩ => ⟨_, _, he, hb⟩
theorem idf_app (n : Int) (m : Nat) (l : List UInt8) (w : World) (h1 : 1 ≤ m) (h7 : m ≤ 7) (h0 : 0 ≤ n) (hq : n / 256 ^ m = 0) (hl : l.length ≤ 40) :
    Calls Tryd.prog 13 #[.string ((⟨(beL n m).toArray⟩ : ByteArray) ++ ⟨l.toArray⟩), .int .i64 m] w fun e w' => e = .returned (.tuple #[.int .i64 n, .bool true]) ∧ w = w' := by
  have hs := app_size (beL n m) l
  rw [beL_length] at hs
  have := idf_yes ((⟨(beL n m).toArray⟩ : ByteArray) ++ ⟨l.toArray⟩) m w h1 h7 (by rw [hs]; omega) (by rw [hs]; omega)
  rw [app_data, fix_ok n m h0 hq] at this
  exact this
theorem idf_some (s : ByteArray) (n : Int) (w : World) (h4 : s.size ≤ 9223372036854775807) :
    Calls Tryd.prog 13 #[.string s, .int .i64 n] w fun e w' => ∃ (a : Int) (b : Bool), e = .returned (.tuple #[.int .i64 a, .bool b]) ∧ w = w' := by
  by_cases h : 1 ≤ n ∧ n ≤ 7 ∧ n ≤ s.size
  · obtain ⟨m, rfl⟩ := Int.eq_ofNat_of_zero_le (show 0 ≤ n by omega)
    exact (idf_yes s m w (by omega) (by omega) (by omega) h4).mono fun e w' ⟨he, hb⟩ => ⟨_, _, he, hb⟩
  · exact (idf_no s n w h).mono fun e w' ⟨he, hb⟩ => ⟨_, _, he, hb⟩

/-- EncodeFixed, by what it gives. -/
theorem fixed_good (n : Int) (m : Nat) (hq : n / 256 ^ m = 0) : efL n m = beL n m := by unfold efL; rw [if_pos hq]
theorem fixed_bad (n : Int) (m : Nat) (hq : ¬ n / 256 ^ m = 0) : efL n m = [] := by unfold efL; rw [if_neg hq]

theorem below3 {w w1 w2 : World} (h1 : Below w.heap.size w w1) (h2 : Below w1.heap.size w1 w2) : Below w.heap.size w w2 := below_two h1 h2

theorem ieh_list (l : List UInt8) (w : World) (h : l.length ≤ 40) : Calls Tryd.prog 15 #[.string ⟨l.toArray⟩] w fun e w' => e = .returned (.string ⟨(hexL l).toArray⟩) ∧ Below w.heap.size w w' := by
  have := ieh_any ⟨l.toArray⟩ w (by show l.toArray.size ≤ 1048576; simp; omega)
  simpa using this
theorem idh_list (l : List UInt8) (w : World) (h : l.length ≤ 40) : Calls Tryd.prog 16 #[.string ⟨(hexL l).toArray⟩] w fun e w' => e = .returned (.tuple #[.string ⟨l.toArray⟩, .bool true]) ∧ Below w.heap.size w w' := by
  have := idh_any ⟨(hexL l).toArray⟩ w (by show (hexL l).toArray.size ≤ 1048576; rw [List.size_toArray, hexL_length]; omega)
  rw [(hex_back l).1, (hex_back l).2] at this
  exact this
theorem itoa_len (x : Int) (h0 : -9223372036854775808 ≤ x) (h1 : x ≤ 9223372036854775807) : (itoa x).length ≤ 21 := Lib.itoa_length_le x h0 h1
theorem ipi_in (x : Int) (w : World) (h0 : -9223372036854775808 ≤ x) (h1 : x ≤ 9223372036854775807) (hr : -1000000000 < x ∧ x < 1000000000) (HT : Hid (Tab w)) :
    Calls Tryd.prog 18 #[.string ⟨(itoa x).toArray⟩] w fun e w' => e = .returned (.tuple #[.int .i64 x, .bool true]) ∧ Below w.heap.size w w' := by
  have hl := itoa_len x h0 h1
  have := ipi_any ⟨(itoa x).toArray⟩ w (by show (itoa x).toArray.size ≤ 1048576; rw [List.size_toArray]; omega) HT
  have hb : piB (itoa x) = true := by rw [(pi_itoa x).1]; exact decide_eq_true hr
  have e : (⟨(itoa x).toArray⟩ : ByteArray).data.toList = itoa x := by simp
  rw [e, (pi_itoa x).2 hb, hb] at this
  exact this
theorem ipi_out (x : Int) (w : World) (h0 : -9223372036854775808 ≤ x) (h1 : x ≤ 9223372036854775807) (hr : ¬ (-1000000000 < x ∧ x < 1000000000)) (HT : Hid (Tab w)) :
    Calls Tryd.prog 18 #[.string ⟨(itoa x).toArray⟩] w fun e w' => e = .returned (.tuple #[.int .i64 0, .bool false]) ∧ Below w.heap.size w w' := by
  have hl := itoa_len x h0 h1
  have := ipi_any ⟨(itoa x).toArray⟩ w (by show (itoa x).toArray.size ≤ 1048576; rw [List.size_toArray]; omega) HT
  have hb : piB (itoa x) = false := by rw [(pi_itoa x).1]; exact decide_eq_false hr
  have hz : piR (itoa x) = 0 := by unfold piR; rw [hb]; rfl
  have e : (⟨(itoa x).toArray⟩ : ByteArray).data.toList = itoa x := by simp
  rw [e, hz, hb] at this
  exact this

theorem big_any (a : Option Addr) (len cap : Nat) (w : World) (hlen : len ≤ 9223372036854775807) : Calls Tryd.prog 6 #[.slice a len cap] w fun e w' => e = .returned (.bool (decide (1048576 < (len : Int)))) ∧ w = w' := by
  go_enter Tryd.func6, Tryd.ntmps6
  go_wp2
  go_ret
  exact ⟨rfl, rfl⟩

theorem Bytes.up {b b' : Nat} {w : World} {v : Value} {len : Nat} (h : Bytes b w v len) (hb : b ≤ b') : Bytes b' w v len := by
  rcases h with h | ⟨x, off, cap, zs, hv, h1, h2, h3, h4, h5, h6⟩
  · exact .inl h
  · exact .inr ⟨x, off, cap, zs, hv, h1, h2, h3, Nat.lt_of_lt_of_le h4 hb, h5, h6⟩
theorem bytes_at {w w1 : World} {v : Value} {len : Nat} (h : Hid (Bytes w.heap.size w v len)) (hb : Below w.heap.size w w1) : Hid (Bytes w1.heap.size w1 v len) :=
  Lib.hid ((h.out.below hb).up hb.size)

set_option maxRecDepth 100000 in
set_option maxHeartbeats 6400000 in
theorem law_enc (a : Option Addr) (len cap : Nat) (w : World) (hlen : len ≤ 9223372036854775807) (hy : Hid (Bytes w.heap.size w (.slice a len cap) len)) (HT : Hid (Tab w)) :
    Calls Tryd.prog 3 #[.slice a len cap] w fun e w' => e = .returned (.bool true) ∧ Below w.heap.size w w' := by
  by_cases hb : (1048576 : Int) < (len : Int)
  · go_enter Tryd.func3, Tryd.ntmps3
    go_wp2_with fail
    refine (big_any _ _ _ _ hlen).mono ?_
    rintro e w' ⟨rfl, rfl⟩
    go_wp2_with fail
    go_ret
    exact ⟨rfl, Below.refl _ _⟩
  · have hl : len ≤ 1048576 := by omega
    have hbd : decide ((1048576 : Int) < (len : Int)) = false := by simp; omega
    go_enter Tryd.func3, Tryd.ntmps3
    go_wp2_with fail
    refine (big_any _ _ _ _ hlen).mono ?_
    rw [hbd]
    rintro e w' ⟨rfl, rfl⟩
    clear hb hbd
    go_wp2_with fail
    refine (draw_varint _ len _ hl hy).mono ?_
    rintro e w1 ⟨n, rfl, ⟨n0, n1⟩, hb1⟩
    have HB1 := Lib.hid hb1
    have HY1 := bytes_at hy hb1
    clear hb1
    go_wp2_with fail
    refine (draw_hex _ len _ hl HY1).mono ?_
    rintro e w2 ⟨l, rfl, hl40, hb2⟩
    have HB2 := Lib.hid (below_two HB1.out hb2)
    clear hb2 HB1 HY1
    by_cases hn : 0 ≤ n ∧ n ≤ 562949953421311
    · obtain ⟨g0, g1⟩ := hn
      go_wp2_with fail
      refine (iev_yes _ _ g0 g1).mono ?_
      rintro e w3 ⟨rfl, hb3⟩
      have HB3 := Lib.hid (below_two HB2.out hb3)
      clear hb3 HB2
      have hne := encV_len 6 n
      have hne1 : 1 ≤ (encV 6 n).length := hne.1
      have hne2 : (encV 6 n).length ≤ 7 := hne.2
      clear hne
      go_wp2_with fail
      refine (idv_app n l _ g0 g1 hl40).mono ?_
      rintro e w3' ⟨rfl, hb3⟩
      have HB3' := Lib.hid (below_two HB3.out hb3)
      clear hb3 HB3
      have hnz : ¬ encV 6 n = [] := fun e => by rw [e] at hne1; simp at hne1
      have hnb : (encV 6 n).isEmpty = false := by cases he : encV 6 n with
        | nil => exact absurd he hnz
        | cons _ _ => rfl
      go_wp2_with fail
      refine (draw_fixed _ len _ hl (bytes_at hy HB3'.out)).mono ?_
      rintro e w4 ⟨x, y, rfl, ⟨x0, x1⟩, y0, y1, hb4⟩
      have HB4 := Lib.hid (below_two HB3'.out hb4)
      clear hb4
      by_cases hgood : 1 ≤ y ∧ y ≤ 7 ∧ 0 ≤ x
      · obtain ⟨m, rfl⟩ := Int.eq_ofNat_of_zero_le (show 0 ≤ y by omega)
        obtain ⟨m1, m7, x2⟩ := hgood
        by_cases hq : x / 256 ^ m = 0
        · have HF := Lib.hid (fixed_good x m hq)
          have HQ := Lib.hid hq
          have HLN := Lib.hid (beL_length x m)
          clear hq
          go_wp2_with fail
          refine (ief_yes _ _ _ (by omega) (by omega) x2 x1).mono ?_
          rw [HF.out]
          rintro e w5 ⟨rfl, hb5⟩
          have HB5 := Lib.hid (below_two HB4.out hb5)
          clear hb5
          have hbl : (beL x m).length ≤ 7 := by rw [HLN.out]; omega
          have hbz : ¬ beL x m = [] := fun e => by have := HLN.out; rw [e] at this; simp at this; omega
          have hbe : (beL x m).isEmpty = false := by cases he : beL x m with
            | nil => exact absurd he hbz
            | cons _ _ => rfl
          have hbq : (((beL x m).length : Int) != (m : Int)) = false := by rw [HLN.out]; simp
          go_wp2_with fail
          refine (idf_app x m l _ (by omega) (by omega) x2 HQ.out hl40).mono ?_
          rintro e w' ⟨rfl, rfl⟩
          go_wp2_with fail
          refine (sef_yes _ _ _ (by omega) (by omega) x2 x1).mono ?_
          rw [HF.out]
          rintro e w6 ⟨rfl, hb6⟩
          have HB6 := Lib.hid (below_two HB5.out hb6)
          clear hb6 HB5
          go_wp2_with fail
          refine (ieh_list l _ hl40).mono ?_
          rintro e w7 ⟨rfl, hb7⟩
          have HB7 := Lib.hid (below_two HB6.out hb7)
          clear hb7
          go_wp2_with fail
          refine (idh_list l _ hl40).mono ?_
          rintro e w8 ⟨rfl, hb8⟩
          have HB8 := Lib.hid (below_two HB7.out hb8)
          clear hb8
          go_wp2_with fail
          refine (ifi_any x _ x0 x1 (Lib.hid (tab_on HT.out HB8.out))).mono ?_
          rintro e w9 ⟨rfl, hb9⟩
          have HB9 := Lib.hid (below_two HB8.out hb9)
          clear hb9
          have hq2 : (((hexL l).length : Int) == 2 * (l.length : Int)) = true := by rw [hexL_length]; simp
          by_cases hr : -1000000000 < x ∧ x < 1000000000
          · go_wp2_with fail
            refine (ipi_in x _ x0 x1 hr (Lib.hid (tab_on HT.out HB9.out))).mono ?_
            rintro e w10 ⟨rfl, hb10⟩
            have HB10 := Lib.hid (below_two HB9.out hb10)
            obtain ⟨r1, r2⟩ := hr
            clear hb10
            go_wp2_with fail
            refine (sfi_any x _ x0 x1).mono ?_
            rintro e w11 ⟨rfl, hb11⟩
            have HB11 := Lib.hid (below_two HB10.out hb11)
            clear hb11
            go_wp2
            go_ret
            exact ⟨rfl, HB11.out⟩
          · go_wp2_with fail
            refine (ipi_out x _ x0 x1 hr (Lib.hid (tab_on HT.out HB9.out))).mono ?_
            rintro e w10 ⟨rfl, hb10⟩
            have HB10 := Lib.hid (below_two HB9.out hb10)
            clear hb10
            by_cases hr1 : -1000000000 < x
            · have hr2 : decide (x < 1000000000) = false := by simp; omega
              clear hr
              go_wp2_with fail
              refine (sfi_any x _ x0 x1).mono ?_
              rintro e w11 ⟨rfl, hb11⟩
              have HB11 := Lib.hid (below_two HB10.out hb11)
              clear hb11
              go_wp2
              go_ret
              exact ⟨rfl, HB11.out⟩
            · first
              | (exfalso; omega)
              | (clear hr
                 go_wp2_with fail
                 refine (sfi_any x _ x0 x1).mono ?_
                 rintro e w11 ⟨rfl, hb11⟩
                 have HB11 := Lib.hid (below_two HB10.out hb11)
                 clear hb11
                 go_wp2
                 go_ret
                 exact ⟨rfl, HB11.out⟩)
        · have HF := Lib.hid (fixed_bad x m hq)
          clear hq
          go_wp2_with fail
          refine (ief_yes _ _ _ (by omega) (by omega) x2 x1).mono ?_
          rw [HF.out]
          rintro e w5 ⟨rfl, hb5⟩
          have HB5 := Lib.hid (below_two HB4.out hb5)
          clear hb5
          go_wp2_with fail
          refine (idf_some _ _ _ (by first | (rw [app_size []]; simp; omega) | (show l.toArray.size ≤ _; simp; omega))).mono ?_
          rintro e w' ⟨a1, b1, rfl, rfl⟩
          go_wp2_with fail
          refine (sef_yes _ _ _ (by omega) (by omega) x2 x1).mono ?_
          rw [HF.out]
          rintro e w6 ⟨rfl, hb6⟩
          have HB6 := Lib.hid (below_two HB5.out hb6)
          clear hb6 HB5
          go_wp2_with fail
          refine (ieh_list l _ hl40).mono ?_
          rintro e w7 ⟨rfl, hb7⟩
          have HB7 := Lib.hid (below_two HB6.out hb7)
          clear hb7
          go_wp2_with fail
          refine (idh_list l _ hl40).mono ?_
          rintro e w8 ⟨rfl, hb8⟩
          have HB8 := Lib.hid (below_two HB7.out hb8)
          clear hb8
          go_wp2_with fail
          refine (ifi_any x _ x0 x1 (Lib.hid (tab_on HT.out HB8.out))).mono ?_
          rintro e w9 ⟨rfl, hb9⟩
          have HB9 := Lib.hid (below_two HB8.out hb9)
          clear hb9
          have hq2 : (((hexL l).length : Int) == 2 * (l.length : Int)) = true := by rw [hexL_length]; simp
          by_cases hr : -1000000000 < x ∧ x < 1000000000
          · go_wp2_with fail
            refine (ipi_in x _ x0 x1 hr (Lib.hid (tab_on HT.out HB9.out))).mono ?_
            rintro e w10 ⟨rfl, hb10⟩
            have HB10 := Lib.hid (below_two HB9.out hb10)
            obtain ⟨r1, r2⟩ := hr
            clear hb10
            go_wp2_with fail
            refine (sfi_any x _ x0 x1).mono ?_
            rintro e w11 ⟨rfl, hb11⟩
            have HB11 := Lib.hid (below_two HB10.out hb11)
            clear hb11
            go_wp2
            go_ret
            exact ⟨rfl, HB11.out⟩
          · go_wp2_with fail
            refine (ipi_out x _ x0 x1 hr (Lib.hid (tab_on HT.out HB9.out))).mono ?_
            rintro e w10 ⟨rfl, hb10⟩
            have HB10 := Lib.hid (below_two HB9.out hb10)
            clear hb10
            by_cases hr1 : -1000000000 < x
            · have hr2 : decide (x < 1000000000) = false := by simp; omega
              clear hr
              go_wp2_with fail
              refine (sfi_any x _ x0 x1).mono ?_
              rintro e w11 ⟨rfl, hb11⟩
              have HB11 := Lib.hid (below_two HB10.out hb11)
              clear hb11
              go_wp2
              go_ret
              exact ⟨rfl, HB11.out⟩
            · first
              | (exfalso; omega)
              | (clear hr
                 go_wp2_with fail
                 refine (sfi_any x _ x0 x1).mono ?_
                 rintro e w11 ⟨rfl, hb11⟩
                 have HB11 := Lib.hid (below_two HB10.out hb11)
                 clear hb11
                 go_wp2
                 go_ret
                 exact ⟨rfl, HB11.out⟩)
      · go_wp2_with fail
        refine (ief_no _ _ _ hgood).mono ?_
        rintro e w' ⟨rfl, rfl⟩
        go_wp2_with fail
        refine (idf_some _ _ _ (by first | (rw [app_size []]; simp; omega) | (show l.toArray.size ≤ _; simp; omega))).mono ?_
        rintro e w' ⟨a1, b1, rfl, rfl⟩
        go_wp2_with fail
        refine (sef_no _ _ _ hgood).mono ?_
        rintro e w' ⟨rfl, rfl⟩
        go_wp2_with fail
        refine (ieh_list l _ hl40).mono ?_
        rintro e w7 ⟨rfl, hb7⟩
        have HB7 := Lib.hid (below_two HB4.out hb7)
        clear hb7
        go_wp2_with fail
        refine (idh_list l _ hl40).mono ?_
        rintro e w8 ⟨rfl, hb8⟩
        have HB8 := Lib.hid (below_two HB7.out hb8)
        clear hb8
        go_wp2_with fail
        refine (ifi_any x _ x0 x1 (Lib.hid (tab_on HT.out HB8.out))).mono ?_
        rintro e w9 ⟨rfl, hb9⟩
        have HB9 := Lib.hid (below_two HB8.out hb9)
        clear hb9
        have hq2 : (((hexL l).length : Int) == 2 * (l.length : Int)) = true := by rw [hexL_length]; simp
        by_cases hr : -1000000000 < x ∧ x < 1000000000
        · go_wp2_with fail
          refine (ipi_in x _ x0 x1 hr (Lib.hid (tab_on HT.out HB9.out))).mono ?_
          rintro e w10 ⟨rfl, hb10⟩
          have HB10 := Lib.hid (below_two HB9.out hb10)
          obtain ⟨r1, r2⟩ := hr
          clear hb10
          go_wp2_with fail
          refine (sfi_any x _ x0 x1).mono ?_
          rintro e w11 ⟨rfl, hb11⟩
          have HB11 := Lib.hid (below_two HB10.out hb11)
          clear hb11
          go_wp2
          go_ret
          exact ⟨rfl, HB11.out⟩
        · go_wp2_with fail
          refine (ipi_out x _ x0 x1 hr (Lib.hid (tab_on HT.out HB9.out))).mono ?_
          rintro e w10 ⟨rfl, hb10⟩
          have HB10 := Lib.hid (below_two HB9.out hb10)
          clear hb10
          by_cases hr1 : -1000000000 < x
          · have hr2 : decide (x < 1000000000) = false := by simp; omega
            clear hr
            go_wp2_with fail
            refine (sfi_any x _ x0 x1).mono ?_
            rintro e w11 ⟨rfl, hb11⟩
            have HB11 := Lib.hid (below_two HB10.out hb11)
            clear hb11
            go_wp2
            go_ret
            exact ⟨rfl, HB11.out⟩
          · first
            | (exfalso; omega)
            | (clear hr
               go_wp2_with fail
               refine (sfi_any x _ x0 x1).mono ?_
               rintro e w11 ⟨rfl, hb11⟩
               have HB11 := Lib.hid (below_two HB10.out hb11)
               clear hb11
               go_wp2
               go_ret
               exact ⟨rfl, HB11.out⟩)
    · go_wp2_with fail
      refine (iev_no _ _ hn).mono ?_
      rintro e w' ⟨rfl, rfl⟩
      go_wp2_with fail
      refine (idv_some _ _ (by first | (rw [app_size []]; simp; omega) | (show l.toArray.size ≤ _; simp; omega))).mono ?_
      rintro e w3' ⟨a2, b2, rfl, hb3⟩
      have HB3' := Lib.hid (below_two HB2.out hb3)
      clear hb3 HB2
      by_cases g0 : 0 ≤ n
      · have g1 : ¬ n ≤ 562949953421311 := by omega
        clear hn
        go_wp2_with fail
        refine (draw_fixed _ len _ hl (bytes_at hy HB3'.out)).mono ?_
        rintro e w4 ⟨x, y, rfl, ⟨x0, x1⟩, y0, y1, hb4⟩
        have HB4 := Lib.hid (below_two HB3'.out hb4)
        clear hb4
        by_cases hgood : 1 ≤ y ∧ y ≤ 7 ∧ 0 ≤ x
        · obtain ⟨m, rfl⟩ := Int.eq_ofNat_of_zero_le (show 0 ≤ y by omega)
          obtain ⟨m1, m7, x2⟩ := hgood
          by_cases hq : x / 256 ^ m = 0
          · have HF := Lib.hid (fixed_good x m hq)
            have HQ := Lib.hid hq
            have HLN := Lib.hid (beL_length x m)
            clear hq
            go_wp2_with fail
            refine (ief_yes _ _ _ (by omega) (by omega) x2 x1).mono ?_
            rw [HF.out]
            rintro e w5 ⟨rfl, hb5⟩
            have HB5 := Lib.hid (below_two HB4.out hb5)
            clear hb5
            have hbl : (beL x m).length ≤ 7 := by rw [HLN.out]; omega
            have hbz : ¬ beL x m = [] := fun e => by have := HLN.out; rw [e] at this; simp at this; omega
            have hbe : (beL x m).isEmpty = false := by cases he : beL x m with
              | nil => exact absurd he hbz
              | cons _ _ => rfl
            have hbq : (((beL x m).length : Int) != (m : Int)) = false := by rw [HLN.out]; simp
            go_wp2_with fail
            refine (idf_app x m l _ (by omega) (by omega) x2 HQ.out hl40).mono ?_
            rintro e w' ⟨rfl, rfl⟩
            go_wp2_with fail
            refine (sef_yes _ _ _ (by omega) (by omega) x2 x1).mono ?_
            rw [HF.out]
            rintro e w6 ⟨rfl, hb6⟩
            have HB6 := Lib.hid (below_two HB5.out hb6)
            clear hb6 HB5
            go_wp2_with fail
            refine (ieh_list l _ hl40).mono ?_
            rintro e w7 ⟨rfl, hb7⟩
            have HB7 := Lib.hid (below_two HB6.out hb7)
            clear hb7
            go_wp2_with fail
            refine (idh_list l _ hl40).mono ?_
            rintro e w8 ⟨rfl, hb8⟩
            have HB8 := Lib.hid (below_two HB7.out hb8)
            clear hb8
            go_wp2_with fail
            refine (ifi_any x _ x0 x1 (Lib.hid (tab_on HT.out HB8.out))).mono ?_
            rintro e w9 ⟨rfl, hb9⟩
            have HB9 := Lib.hid (below_two HB8.out hb9)
            clear hb9
            have hq2 : (((hexL l).length : Int) == 2 * (l.length : Int)) = true := by rw [hexL_length]; simp
            by_cases hr : -1000000000 < x ∧ x < 1000000000
            · go_wp2_with fail
              refine (ipi_in x _ x0 x1 hr (Lib.hid (tab_on HT.out HB9.out))).mono ?_
              rintro e w10 ⟨rfl, hb10⟩
              have HB10 := Lib.hid (below_two HB9.out hb10)
              obtain ⟨r1, r2⟩ := hr
              clear hb10
              go_wp2_with fail
              refine (sfi_any x _ x0 x1).mono ?_
              rintro e w11 ⟨rfl, hb11⟩
              have HB11 := Lib.hid (below_two HB10.out hb11)
              clear hb11
              go_wp2
              go_ret
              exact ⟨rfl, HB11.out⟩
            · go_wp2_with fail
              refine (ipi_out x _ x0 x1 hr (Lib.hid (tab_on HT.out HB9.out))).mono ?_
              rintro e w10 ⟨rfl, hb10⟩
              have HB10 := Lib.hid (below_two HB9.out hb10)
              clear hb10
              by_cases hr1 : -1000000000 < x
              · have hr2 : decide (x < 1000000000) = false := by simp; omega
                clear hr
                go_wp2_with fail
                refine (sfi_any x _ x0 x1).mono ?_
                rintro e w11 ⟨rfl, hb11⟩
                have HB11 := Lib.hid (below_two HB10.out hb11)
                clear hb11
                go_wp2
                go_ret
                exact ⟨rfl, HB11.out⟩
              · first
                | (exfalso; omega)
                | (clear hr
                   go_wp2_with fail
                   refine (sfi_any x _ x0 x1).mono ?_
                   rintro e w11 ⟨rfl, hb11⟩
                   have HB11 := Lib.hid (below_two HB10.out hb11)
                   clear hb11
                   go_wp2
                   go_ret
                   exact ⟨rfl, HB11.out⟩)
          · have HF := Lib.hid (fixed_bad x m hq)
            clear hq
            go_wp2_with fail
            refine (ief_yes _ _ _ (by omega) (by omega) x2 x1).mono ?_
            rw [HF.out]
            rintro e w5 ⟨rfl, hb5⟩
            have HB5 := Lib.hid (below_two HB4.out hb5)
            clear hb5
            go_wp2_with fail
            refine (idf_some _ _ _ (by first | (rw [app_size []]; simp; omega) | (show l.toArray.size ≤ _; simp; omega))).mono ?_
            rintro e w' ⟨a1, b1, rfl, rfl⟩
            go_wp2_with fail
            refine (sef_yes _ _ _ (by omega) (by omega) x2 x1).mono ?_
            rw [HF.out]
            rintro e w6 ⟨rfl, hb6⟩
            have HB6 := Lib.hid (below_two HB5.out hb6)
            clear hb6 HB5
            go_wp2_with fail
            refine (ieh_list l _ hl40).mono ?_
            rintro e w7 ⟨rfl, hb7⟩
            have HB7 := Lib.hid (below_two HB6.out hb7)
            clear hb7
            go_wp2_with fail
            refine (idh_list l _ hl40).mono ?_
            rintro e w8 ⟨rfl, hb8⟩
            have HB8 := Lib.hid (below_two HB7.out hb8)
            clear hb8
            go_wp2_with fail
            refine (ifi_any x _ x0 x1 (Lib.hid (tab_on HT.out HB8.out))).mono ?_
            rintro e w9 ⟨rfl, hb9⟩
            have HB9 := Lib.hid (below_two HB8.out hb9)
            clear hb9
            have hq2 : (((hexL l).length : Int) == 2 * (l.length : Int)) = true := by rw [hexL_length]; simp
            by_cases hr : -1000000000 < x ∧ x < 1000000000
            · go_wp2_with fail
              refine (ipi_in x _ x0 x1 hr (Lib.hid (tab_on HT.out HB9.out))).mono ?_
              rintro e w10 ⟨rfl, hb10⟩
              have HB10 := Lib.hid (below_two HB9.out hb10)
              obtain ⟨r1, r2⟩ := hr
              clear hb10
              go_wp2_with fail
              refine (sfi_any x _ x0 x1).mono ?_
              rintro e w11 ⟨rfl, hb11⟩
              have HB11 := Lib.hid (below_two HB10.out hb11)
              clear hb11
              go_wp2
              go_ret
              exact ⟨rfl, HB11.out⟩
            · go_wp2_with fail
              refine (ipi_out x _ x0 x1 hr (Lib.hid (tab_on HT.out HB9.out))).mono ?_
              rintro e w10 ⟨rfl, hb10⟩
              have HB10 := Lib.hid (below_two HB9.out hb10)
              clear hb10
              by_cases hr1 : -1000000000 < x
              · have hr2 : decide (x < 1000000000) = false := by simp; omega
                clear hr
                go_wp2_with fail
                refine (sfi_any x _ x0 x1).mono ?_
                rintro e w11 ⟨rfl, hb11⟩
                have HB11 := Lib.hid (below_two HB10.out hb11)
                clear hb11
                go_wp2
                go_ret
                exact ⟨rfl, HB11.out⟩
              · first
                | (exfalso; omega)
                | (clear hr
                   go_wp2_with fail
                   refine (sfi_any x _ x0 x1).mono ?_
                   rintro e w11 ⟨rfl, hb11⟩
                   have HB11 := Lib.hid (below_two HB10.out hb11)
                   clear hb11
                   go_wp2
                   go_ret
                   exact ⟨rfl, HB11.out⟩)
        · go_wp2_with fail
          refine (ief_no _ _ _ hgood).mono ?_
          rintro e w' ⟨rfl, rfl⟩
          go_wp2_with fail
          refine (idf_some _ _ _ (by first | (rw [app_size []]; simp; omega) | (show l.toArray.size ≤ _; simp; omega))).mono ?_
          rintro e w' ⟨a1, b1, rfl, rfl⟩
          go_wp2_with fail
          refine (sef_no _ _ _ hgood).mono ?_
          rintro e w' ⟨rfl, rfl⟩
          go_wp2_with fail
          refine (ieh_list l _ hl40).mono ?_
          rintro e w7 ⟨rfl, hb7⟩
          have HB7 := Lib.hid (below_two HB4.out hb7)
          clear hb7
          go_wp2_with fail
          refine (idh_list l _ hl40).mono ?_
          rintro e w8 ⟨rfl, hb8⟩
          have HB8 := Lib.hid (below_two HB7.out hb8)
          clear hb8
          go_wp2_with fail
          refine (ifi_any x _ x0 x1 (Lib.hid (tab_on HT.out HB8.out))).mono ?_
          rintro e w9 ⟨rfl, hb9⟩
          have HB9 := Lib.hid (below_two HB8.out hb9)
          clear hb9
          have hq2 : (((hexL l).length : Int) == 2 * (l.length : Int)) = true := by rw [hexL_length]; simp
          by_cases hr : -1000000000 < x ∧ x < 1000000000
          · go_wp2_with fail
            refine (ipi_in x _ x0 x1 hr (Lib.hid (tab_on HT.out HB9.out))).mono ?_
            rintro e w10 ⟨rfl, hb10⟩
            have HB10 := Lib.hid (below_two HB9.out hb10)
            obtain ⟨r1, r2⟩ := hr
            clear hb10
            go_wp2_with fail
            refine (sfi_any x _ x0 x1).mono ?_
            rintro e w11 ⟨rfl, hb11⟩
            have HB11 := Lib.hid (below_two HB10.out hb11)
            clear hb11
            go_wp2
            go_ret
            exact ⟨rfl, HB11.out⟩
          · go_wp2_with fail
            refine (ipi_out x _ x0 x1 hr (Lib.hid (tab_on HT.out HB9.out))).mono ?_
            rintro e w10 ⟨rfl, hb10⟩
            have HB10 := Lib.hid (below_two HB9.out hb10)
            clear hb10
            by_cases hr1 : -1000000000 < x
            · have hr2 : decide (x < 1000000000) = false := by simp; omega
              clear hr
              go_wp2_with fail
              refine (sfi_any x _ x0 x1).mono ?_
              rintro e w11 ⟨rfl, hb11⟩
              have HB11 := Lib.hid (below_two HB10.out hb11)
              clear hb11
              go_wp2
              go_ret
              exact ⟨rfl, HB11.out⟩
            · first
              | (exfalso; omega)
              | (clear hr
                 go_wp2_with fail
                 refine (sfi_any x _ x0 x1).mono ?_
                 rintro e w11 ⟨rfl, hb11⟩
                 have HB11 := Lib.hid (below_two HB10.out hb11)
                 clear hb11
                 go_wp2
                 go_ret
                 exact ⟨rfl, HB11.out⟩)
      · clear hn
        go_wp2_with fail
        refine (draw_fixed _ len _ hl (bytes_at hy HB3'.out)).mono ?_
        rintro e w4 ⟨x, y, rfl, ⟨x0, x1⟩, y0, y1, hb4⟩
        have HB4 := Lib.hid (below_two HB3'.out hb4)
        clear hb4
        by_cases hgood : 1 ≤ y ∧ y ≤ 7 ∧ 0 ≤ x
        · obtain ⟨m, rfl⟩ := Int.eq_ofNat_of_zero_le (show 0 ≤ y by omega)
          obtain ⟨m1, m7, x2⟩ := hgood
          by_cases hq : x / 256 ^ m = 0
          · have HF := Lib.hid (fixed_good x m hq)
            have HQ := Lib.hid hq
            have HLN := Lib.hid (beL_length x m)
            clear hq
            go_wp2_with fail
            refine (ief_yes _ _ _ (by omega) (by omega) x2 x1).mono ?_
            rw [HF.out]
            rintro e w5 ⟨rfl, hb5⟩
            have HB5 := Lib.hid (below_two HB4.out hb5)
            clear hb5
            have hbl : (beL x m).length ≤ 7 := by rw [HLN.out]; omega
            have hbz : ¬ beL x m = [] := fun e => by have := HLN.out; rw [e] at this; simp at this; omega
            have hbe : (beL x m).isEmpty = false := by cases he : beL x m with
              | nil => exact absurd he hbz
              | cons _ _ => rfl
            have hbq : (((beL x m).length : Int) != (m : Int)) = false := by rw [HLN.out]; simp
            go_wp2_with fail
            refine (idf_app x m l _ (by omega) (by omega) x2 HQ.out hl40).mono ?_
            rintro e w' ⟨rfl, rfl⟩
            go_wp2_with fail
            refine (sef_yes _ _ _ (by omega) (by omega) x2 x1).mono ?_
            rw [HF.out]
            rintro e w6 ⟨rfl, hb6⟩
            have HB6 := Lib.hid (below_two HB5.out hb6)
            clear hb6 HB5
            go_wp2_with fail
            refine (ieh_list l _ hl40).mono ?_
            rintro e w7 ⟨rfl, hb7⟩
            have HB7 := Lib.hid (below_two HB6.out hb7)
            clear hb7
            go_wp2_with fail
            refine (idh_list l _ hl40).mono ?_
            rintro e w8 ⟨rfl, hb8⟩
            have HB8 := Lib.hid (below_two HB7.out hb8)
            clear hb8
            go_wp2_with fail
            refine (ifi_any x _ x0 x1 (Lib.hid (tab_on HT.out HB8.out))).mono ?_
            rintro e w9 ⟨rfl, hb9⟩
            have HB9 := Lib.hid (below_two HB8.out hb9)
            clear hb9
            have hq2 : (((hexL l).length : Int) == 2 * (l.length : Int)) = true := by rw [hexL_length]; simp
            by_cases hr : -1000000000 < x ∧ x < 1000000000
            · go_wp2_with fail
              refine (ipi_in x _ x0 x1 hr (Lib.hid (tab_on HT.out HB9.out))).mono ?_
              rintro e w10 ⟨rfl, hb10⟩
              have HB10 := Lib.hid (below_two HB9.out hb10)
              obtain ⟨r1, r2⟩ := hr
              clear hb10
              go_wp2_with fail
              refine (sfi_any x _ x0 x1).mono ?_
              rintro e w11 ⟨rfl, hb11⟩
              have HB11 := Lib.hid (below_two HB10.out hb11)
              clear hb11
              go_wp2
              go_ret
              exact ⟨rfl, HB11.out⟩
            · go_wp2_with fail
              refine (ipi_out x _ x0 x1 hr (Lib.hid (tab_on HT.out HB9.out))).mono ?_
              rintro e w10 ⟨rfl, hb10⟩
              have HB10 := Lib.hid (below_two HB9.out hb10)
              clear hb10
              by_cases hr1 : -1000000000 < x
              · have hr2 : decide (x < 1000000000) = false := by simp; omega
                clear hr
                go_wp2_with fail
                refine (sfi_any x _ x0 x1).mono ?_
                rintro e w11 ⟨rfl, hb11⟩
                have HB11 := Lib.hid (below_two HB10.out hb11)
                clear hb11
                go_wp2
                go_ret
                exact ⟨rfl, HB11.out⟩
              · first
                | (exfalso; omega)
                | (clear hr
                   go_wp2_with fail
                   refine (sfi_any x _ x0 x1).mono ?_
                   rintro e w11 ⟨rfl, hb11⟩
                   have HB11 := Lib.hid (below_two HB10.out hb11)
                   clear hb11
                   go_wp2
                   go_ret
                   exact ⟨rfl, HB11.out⟩)
          · have HF := Lib.hid (fixed_bad x m hq)
            clear hq
            go_wp2_with fail
            refine (ief_yes _ _ _ (by omega) (by omega) x2 x1).mono ?_
            rw [HF.out]
            rintro e w5 ⟨rfl, hb5⟩
            have HB5 := Lib.hid (below_two HB4.out hb5)
            clear hb5
            go_wp2_with fail
            refine (idf_some _ _ _ (by first | (rw [app_size []]; simp; omega) | (show l.toArray.size ≤ _; simp; omega))).mono ?_
            rintro e w' ⟨a1, b1, rfl, rfl⟩
            go_wp2_with fail
            refine (sef_yes _ _ _ (by omega) (by omega) x2 x1).mono ?_
            rw [HF.out]
            rintro e w6 ⟨rfl, hb6⟩
            have HB6 := Lib.hid (below_two HB5.out hb6)
            clear hb6 HB5
            go_wp2_with fail
            refine (ieh_list l _ hl40).mono ?_
            rintro e w7 ⟨rfl, hb7⟩
            have HB7 := Lib.hid (below_two HB6.out hb7)
            clear hb7
            go_wp2_with fail
            refine (idh_list l _ hl40).mono ?_
            rintro e w8 ⟨rfl, hb8⟩
            have HB8 := Lib.hid (below_two HB7.out hb8)
            clear hb8
            go_wp2_with fail
            refine (ifi_any x _ x0 x1 (Lib.hid (tab_on HT.out HB8.out))).mono ?_
            rintro e w9 ⟨rfl, hb9⟩
            have HB9 := Lib.hid (below_two HB8.out hb9)
            clear hb9
            have hq2 : (((hexL l).length : Int) == 2 * (l.length : Int)) = true := by rw [hexL_length]; simp
            by_cases hr : -1000000000 < x ∧ x < 1000000000
            · go_wp2_with fail
              refine (ipi_in x _ x0 x1 hr (Lib.hid (tab_on HT.out HB9.out))).mono ?_
              rintro e w10 ⟨rfl, hb10⟩
              have HB10 := Lib.hid (below_two HB9.out hb10)
              obtain ⟨r1, r2⟩ := hr
              clear hb10
              go_wp2_with fail
              refine (sfi_any x _ x0 x1).mono ?_
              rintro e w11 ⟨rfl, hb11⟩
              have HB11 := Lib.hid (below_two HB10.out hb11)
              clear hb11
              go_wp2
              go_ret
              exact ⟨rfl, HB11.out⟩
            · go_wp2_with fail
              refine (ipi_out x _ x0 x1 hr (Lib.hid (tab_on HT.out HB9.out))).mono ?_
              rintro e w10 ⟨rfl, hb10⟩
              have HB10 := Lib.hid (below_two HB9.out hb10)
              clear hb10
              by_cases hr1 : -1000000000 < x
              · have hr2 : decide (x < 1000000000) = false := by simp; omega
                clear hr
                go_wp2_with fail
                refine (sfi_any x _ x0 x1).mono ?_
                rintro e w11 ⟨rfl, hb11⟩
                have HB11 := Lib.hid (below_two HB10.out hb11)
                clear hb11
                go_wp2
                go_ret
                exact ⟨rfl, HB11.out⟩
              · first
                | (exfalso; omega)
                | (clear hr
                   go_wp2_with fail
                   refine (sfi_any x _ x0 x1).mono ?_
                   rintro e w11 ⟨rfl, hb11⟩
                   have HB11 := Lib.hid (below_two HB10.out hb11)
                   clear hb11
                   go_wp2
                   go_ret
                   exact ⟨rfl, HB11.out⟩)
        · go_wp2_with fail
          refine (ief_no _ _ _ hgood).mono ?_
          rintro e w' ⟨rfl, rfl⟩
          go_wp2_with fail
          refine (idf_some _ _ _ (by first | (rw [app_size []]; simp; omega) | (show l.toArray.size ≤ _; simp; omega))).mono ?_
          rintro e w' ⟨a1, b1, rfl, rfl⟩
          go_wp2_with fail
          refine (sef_no _ _ _ hgood).mono ?_
          rintro e w' ⟨rfl, rfl⟩
          go_wp2_with fail
          refine (ieh_list l _ hl40).mono ?_
          rintro e w7 ⟨rfl, hb7⟩
          have HB7 := Lib.hid (below_two HB4.out hb7)
          clear hb7
          go_wp2_with fail
          refine (idh_list l _ hl40).mono ?_
          rintro e w8 ⟨rfl, hb8⟩
          have HB8 := Lib.hid (below_two HB7.out hb8)
          clear hb8
          go_wp2_with fail
          refine (ifi_any x _ x0 x1 (Lib.hid (tab_on HT.out HB8.out))).mono ?_
          rintro e w9 ⟨rfl, hb9⟩
          have HB9 := Lib.hid (below_two HB8.out hb9)
          clear hb9
          have hq2 : (((hexL l).length : Int) == 2 * (l.length : Int)) = true := by rw [hexL_length]; simp
          by_cases hr : -1000000000 < x ∧ x < 1000000000
          · go_wp2_with fail
            refine (ipi_in x _ x0 x1 hr (Lib.hid (tab_on HT.out HB9.out))).mono ?_
            rintro e w10 ⟨rfl, hb10⟩
            have HB10 := Lib.hid (below_two HB9.out hb10)
            obtain ⟨r1, r2⟩ := hr
            clear hb10
            go_wp2_with fail
            refine (sfi_any x _ x0 x1).mono ?_
            rintro e w11 ⟨rfl, hb11⟩
            have HB11 := Lib.hid (below_two HB10.out hb11)
            clear hb11
            go_wp2
            go_ret
            exact ⟨rfl, HB11.out⟩
          · go_wp2_with fail
            refine (ipi_out x _ x0 x1 hr (Lib.hid (tab_on HT.out HB9.out))).mono ?_
            rintro e w10 ⟨rfl, hb10⟩
            have HB10 := Lib.hid (below_two HB9.out hb10)
            clear hb10
            by_cases hr1 : -1000000000 < x
            · have hr2 : decide (x < 1000000000) = false := by simp; omega
              clear hr
              go_wp2_with fail
              refine (sfi_any x _ x0 x1).mono ?_
              rintro e w11 ⟨rfl, hb11⟩
              have HB11 := Lib.hid (below_two HB10.out hb11)
              clear hb11
              go_wp2
              go_ret
              exact ⟨rfl, HB11.out⟩
            · first
              | (exfalso; omega)
              | (clear hr
                 go_wp2_with fail
                 refine (sfi_any x _ x0 x1).mono ?_
                 rintro e w11 ⟨rfl, hb11⟩
                 have HB11 := Lib.hid (below_two HB10.out hb11)
                 clear hb11
                 go_wp2
                 go_ret
                 exact ⟨rfl, HB11.out⟩)

end Go.Proofs.YtmpoonecobepcaaDoor.C
