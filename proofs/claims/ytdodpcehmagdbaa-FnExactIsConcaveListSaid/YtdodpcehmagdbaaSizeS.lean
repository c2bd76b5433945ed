/-
  The contracts of spec.SizeFunction and spec.IsConcaveList and of what they call.
-/
import Derived.Test.YtdodpcehmagdbaaMkM
import Derived.Test.YtdodpcehmagdbaaFunS
import Derived.Test.YtdodpcehmagdbaaSub
namespace Go.Proofs.Ytdodpcehmagdbaa.C
open Go.RowKit K M
set_option linter.unusedVariables false
set_option linter.unusedSimpArgs false

theorem and_one (X : Nat) (hX : X < 4294967296) : bits .and .i64 (X : Int) 1 = ((X % 2 : Nat) : Int) := by
  have h1 : (BitVec.ofInt 64 1).toNat = 2 ^ 1 - 1 := by decide
  have ofI : (BitVec.ofInt 64 (X : Int)).toNat = X := by
    rw [BitVec.ofInt_natCast, BitVec.toNat_ofNat]; exact Nat.mod_eq_of_lt (by omega)
  show IntKind.i64.wrap ((BitVec.ofInt 64 (X : Int) &&& BitVec.ofInt 64 1).toNat : Int) = _
  rw [BitVec.toNat_and, ofI, h1, Nat.and_two_pow_sub_one_eq_mod, IntKind.wrap_i64]
  omega

set_option maxRecDepth 100000 in
theorem sizeS_any (S : Nat) (w : World) (hS : S < 1024) :
    Calls Try.prog 50 #[.int .i64 S] w fun e w' => e = .returned (.int .i64 (ones S)) ∧ w = w' := by
  have ho := onesF_le 10 S
  go_enter Try.func50, Try.ntmps50
  go_wp2
  go_loop [3, 4] (fun n x => ∃ (f X c : Nat), x = .int .i64 X ∧ n = .int .i64 c ∧ X < 1024 ∧ Hid (X < 2 ^ f ∧ c + onesF f X = ones S)) (fun _ x => (intOf x).toNat)
  case atStart => exact ⟨10, S, 0, rfl, rfl, hS, Lib.hid ⟨hS, by rw [Nat.zero_add]; rfl⟩⟩
  case round =>
    obtain ⟨f, X, c, rfl, rfl, hX, hh⟩ := hrel
    by_cases h0 : 0 < X
    · obtain ⟨h1, h2⟩ := hh.out
      cases f with
      | zero => simp at h1; omega
      | succ f =>
        have h3 : X / 2 < 2 ^ f := by rw [Nat.pow_succ] at h1; omega
        have h4 : c + X % 2 + onesF f (X / 2) = ones S := by rw [← h2, show onesF (f + 1) X = X % 2 + onesF f (X / 2) from rfl]; omega
        have hc : c + X % 2 ≤ 10 := by unfold ones at h4; omega
        have HH := Lib.hid (And.intro h3 h4)
        have hand := and_one X (by omega)
        have hdiv : ((X / 2 : Nat) : Int) = (X : Int) / 2 := by omega
        have HD := Lib.hid hdiv
        have h0i : (0 : Int) < (X : Int) := by omega
        generalize hY : X % 2 = Y at hand HH hc
        have hY2 : Y < 2 := by omega
        have hsum : IntKind.i64.wrap ((c : Int) + (Y : Int)) = ((c + Y : Nat) : Int) := by rw [IntWalk.i64_in _ (by omega)]; omega
        clear h1 h2 h3 h4 hdiv hY
        go_wp2
        go_round
        case rel => exact ⟨f, X / 2, c + Y, by rw [HD.out], by go_num, by omega, HH⟩
        case measure => simp [intOf]; omega
    · obtain rfl : X = 0 := by omega
      have h2 := hh.out.2
      rw [onesF_zero, Nat.add_zero] at h2
      subst h2
      go_wp2
      go_ret
      exact ⟨rfl, rfl⟩

set_option maxRecDepth 100000 in
set_option maxHeartbeats 1600000 in
theorem concS_val (A : Option Addr) (v : List Int) (cap : Nat) (w : World) (h : Hid (Ints w w.heap.size A v)) (hm : v.length ≤ 1048576)
    (j : Nat) (hj : j < v.length) (hb : v.getD j 0 < -1000 ∨ 1000 < v.getD j 0) (hv : ∀ k, k < j → -1000 ≤ v.getD k 0 ∧ v.getD k 0 ≤ 1000) :
    Calls Try.prog 30 #[.slice A v.length cap] w (RetV w (.bool false)) := by
  have HW := Lib.hid (St.start w)
  obtain ⟨m, hxm⟩ : ∃ m, v.length = m := ⟨_, rfl⟩
  rw [hxm] at hm hj ⊢
  have HX := Lib.hid hxm
  have HV := Lib.hid hv
  have HB := Lib.hid hb
  clear hv hxm hb
  go_enter Try.func30, Try.ntmps30
  go_wp2
  go_loop [3] (fun i => ∃ k : Nat, k ≤ j ∧ i = .int .i64 k) (fun i => m - (intOf i).toNat)
  case atStart => exact ⟨0, Nat.zero_le _, rfl⟩
  case round =>
    obtain ⟨k, hk, rfl⟩ := hrel
    obtain ⟨b, off, rfl, hbl, hc⟩ := h.out.at_ (k := k) (by rw [HX.out]; omega)
    have hk0 : (0 : Int) ≤ (k : Int) := by omega
    have hkn : (k : Int) < (m : Int) := by omega
    by_cases hlt : k < j
    · obtain ⟨v1, v2⟩ := HV.out k hlt
      generalize v.getD k 0 = x at hc v1 v2
      go_wp2_with (go_at_call 32; refine (in_yes x (-1000) 1000 _ v1 v2).mono ?_; rintro e w' ⟨rfl, rfl⟩)
      go_round
      case rel => exact ⟨k + 1, by omega, by go_num⟩
      case measure => simp [intOf]; omega
    · obtain rfl : k = j := by omega
      have hb := HB.out
      clear HB HV
      generalize v.getD k 0 = x at hc hb
      have HB := Lib.hid hb
      clear hb
      go_wp2_with (go_at_call 32; refine (in_no x (-1000) 1000 _ HB.out).mono ?_; rintro e w' ⟨rfl, rfl⟩)
      go_ret
      exact ⟨rfl, HW.out.base⟩

/-- The second loop, with the values in range. -/
theorem concTo_succ {v : List Int} {c : Nat} (h : concaveTo v c) (hs : v.getD c 0 - v.getD (c - 1) 0 ≤ v.getD (c - 1) 0 - v.getD (c - 2) 0) : concaveTo v (c + 1) := fun i hi h2 => by
  by_cases e : i = c
  · subst e; exact hs
  · exact h i (by omega) h2

set_option maxRecDepth 100000 in
set_option maxHeartbeats 4000000 in
theorem concS_good (A : Option Addr) (v : List Int) (cap : Nat) (w : World) (h : Hid (Ints w w.heap.size A v)) (hm : v.length ≤ 1048576) (hv : ∀ k, k < v.length → -1000 ≤ v.getD k 0 ∧ v.getD k 0 ≤ 1000) :
    Calls Try.prog 30 #[.slice A v.length cap] w (RetV w (.bool (decide (1 ≤ v.length ∧ v.length ≤ 6 ∧ concaveTo v v.length)))) := by
  have HW := Lib.hid (St.start w)
  obtain ⟨m, hxm⟩ : ∃ m, v.length = m := ⟨_, rfl⟩
  rw [hxm] at hm ⊢
  obtain ⟨rb, hrb⟩ : ∃ rb, decide (1 ≤ m ∧ m ≤ 6 ∧ concaveTo v m) = rb := ⟨_, rfl⟩
  rw [hrb]
  have HRB := Lib.hid hrb
  have HX := Lib.hid hxm
  have HV := Lib.hid hv
  clear hv hxm hrb
  go_enter Try.func30, Try.ntmps30
  go_wp2
  go_loop [3] (fun i => ∃ k : Nat, k ≤ m ∧ i = .int .i64 k) (fun i => m - (intOf i).toNat)
  case atStart => exact ⟨0, Nat.zero_le _, rfl⟩
  case round =>
    obtain ⟨k, hk, rfl⟩ := hrel
    by_cases hlt : k < m
    · obtain ⟨b, off, rfl, hbl, hc⟩ := h.out.at_ (k := k) (by rw [HX.out]; omega)
      have hk0 : (0 : Int) ≤ (k : Int) := by omega
      have hkn : (k : Int) < (m : Int) := by omega
      obtain ⟨v1, v2⟩ := HV.out k (by rw [HX.out]; exact hlt)
      generalize v.getD k 0 = x at hc v1 v2
      go_wp2_with (go_at_call 32; refine (in_yes x (-1000) 1000 _ v1 v2).mono ?_; rintro e w' ⟨rfl, rfl⟩)
      go_round
      case rel => exact ⟨k + 1, by omega, by go_num⟩
      case measure => simp [intOf]; omega
    · obtain rfl : k = m := by omega
      have hkn : ¬ (k : Int) < (k : Int) := by omega
      go_wp2
      go_loopw [4] (fun i wr => ∃ j : Nat, i = .int .i64 j ∧ 2 ≤ j ∧ Hid (concaveTo v j) ∧ j ≤ k + 2 ∧ ∃ q, w.drewN q = wr) (fun i _ => k - (intOf i).toNat)
      case atStart => exact ⟨2, rfl, Nat.le_refl _, Lib.hid fun i hi h2 => by omega, by omega, 0, rfl⟩
      case round =>
        obtain ⟨j, rfl, hj2, hcc, hj, q, rfl⟩ := hrel
        by_cases hlt2 : j < k
        · have hjn : (j : Int) < (k : Int) := by omega
          obtain ⟨b, off, rfl, hbl, hc⟩ := h.out.at_ (k := j) (by rw [HX.out]; omega)
          obtain ⟨b', off', e', -, hc1⟩ := h.out.at_ (k := j - 1) (by rw [HX.out]; omega)
          obtain ⟨rfl, rfl⟩ : b = b' ∧ off = off' := by cases e'; exact ⟨rfl, rfl⟩
          obtain ⟨b', off', e'', -, hc2⟩ := h.out.at_ (k := j - 2) (by rw [HX.out]; omega)
          obtain ⟨rfl, rfl⟩ : b = b' ∧ off = off' := by cases e''; exact ⟨rfl, rfl⟩
          obtain ⟨v1, v2⟩ := HV.out j (by rw [HX.out]; omega)
          obtain ⟨u1, u2⟩ := HV.out (j - 1) (by rw [HX.out]; omega)
          obtain ⟨t1, t2⟩ := HV.out (j - 2) (by rw [HX.out]; omega)
          have hs := fun hs => Lib.hid (concTo_succ (v := v) (c := j) hcc.out hs)
          have hno : ¬ (v.getD j 0 - v.getD (j - 1) 0 ≤ v.getD (j - 1) 0 - v.getD (j - 2) 0) → Hid (decide (1 ≤ k ∧ k ≤ 6 ∧ concaveTo v k) = false) := fun hh => Lib.hid (decide_eq_false fun hz => hh (hz.2.2 j hlt2 hj2))
          clear e' e''
          generalize v.getD j 0 = x at hc v1 v2 hs hno
          generalize v.getD (j - 1) 0 = y at hc1 u1 u2 hs hno
          generalize v.getD (j - 2) 0 = z at hc2 t1 t2 hs hno
          have d1 : IntKind.i64.wrap (x - y) = x - y := IntWalk.i64_in _ (by omega)
          have d2 : IntKind.i64.wrap (y - z) = y - z := IntWalk.i64_in _ (by omega)
          have j1 : ((j - 1 : Nat) : Int) = (j : Int) - 1 := by omega
          have j2 : ((j - 2 : Nat) : Int) = (j : Int) - 2 := by omega
          have jn1 : ((j : Int) - 1).toNat = j - 1 := by omega
          have jn2 : ((j : Int) - 2).toNat = j - 2 := by omega
          have i1 : (1 : Int) ≤ (j : Int) := by omega
          have i2 : (2 : Int) ≤ (j : Int) := by omega
          have i3 : (j : Int) - 1 < (k : Int) := by omega
          have i4 : (j : Int) - 2 < (k : Int) := by omega
          by_cases hg : x - y ≤ y - z
          · have HS := hs hg
            have hg' : ¬ (y - z < x - y) := by omega
            clear hs hno
            go_wp2
            go_quiet (fail)
            go_wp2
            go_roundw
            case rel => exact ⟨j + 1, by go_num, by omega, HS, by omega, _, rfl⟩
            case measure => simp [intOf]; omega
          · have HN := hno hg
            have hg' : y - z < x - y := by omega
            clear hs hno
            go_wp2
            go_quiet (fail)
            go_wp2
            go_ret
            exact ⟨by rw [← HRB.out, HN.out]; rfl, by first | exact (HW.out.drewN _).base | exact ((HW.out.drewN _).drewN _).base⟩
        · have hjn : ¬ (j : Int) < (k : Int) := by omega
          have hfin : concaveTo v k := fun i hi h2 => hcc.out i (by omega) h2
          by_cases hl : 1 ≤ k ∧ k ≤ 6
          · have HN := Lib.hid (show decide (1 ≤ k ∧ k ≤ 6 ∧ concaveTo v k) = true from decide_eq_true ⟨hl.1, hl.2, hfin⟩)
            have l1 : (1 : Int) ≤ (k : Int) := by omega
            have l2 : (k : Int) ≤ 6 := by omega
            clear hfin hl
            go_wp2_with (go_at_call 32; refine (in_yes k 1 6 _ l1 l2).mono ?_; rintro e w' ⟨rfl, rfl⟩)
            go_ret
            exact ⟨by rw [← HRB.out, HN.out]; rfl, by first | exact (HW.out.drewN _).base | exact ((HW.out.drewN _).drewN _).base⟩
          · have HN := Lib.hid (show decide (1 ≤ k ∧ k ≤ 6 ∧ concaveTo v k) = false from decide_eq_false fun hh => hl ⟨hh.1, hh.2.1⟩)
            have HL := Lib.hid (show (k : Int) < 1 ∨ 6 < (k : Int) by omega)
            clear hfin hl
            go_wp2_with (go_at_call 32; refine (in_no k 1 6 _ HL.out).mono ?_; rintro e w' ⟨rfl, rfl⟩)
            go_ret
            exact ⟨by rw [← HRB.out, HN.out]; rfl, by first | exact (HW.out.drewN _).base | exact ((HW.out.drewN _).drewN _).base⟩

theorem concS_any (A : Option Addr) (v : List Int) (cap : Nat) (w : World) (h : Hid (Ints w w.heap.size A v)) (hm : v.length ≤ 1048576) :
    Calls Try.prog 30 #[.slice A v.length cap] w (RetV w (.bool (concave v))) := by
  by_cases hv : ∀ k, k < v.length → -1000 ≤ v.getD k 0 ∧ v.getD k 0 ≤ 1000
  · have := concS_good A v cap w h hm hv
    have e : decide (1 ≤ v.length ∧ v.length ≤ 6 ∧ concaveTo v v.length) = concave v := by
      unfold concave
      exact decide_eq_decide.2 ⟨fun hh => ⟨hh.1, hh.2.1, hv, hh.2.2⟩, fun hh => ⟨hh.1, hh.2.1, hh.2.2.2⟩⟩
    rwa [e] at this
  · obtain ⟨j, hj, hb, hk⟩ := first_bad hv
    have := concS_val A v cap w h hm j hj (by omega) hk
    have e : concave v = false := decide_eq_false fun hh => hv hh.2.2.1
    rwa [e]

set_option maxHeartbeats 1600000 in
theorem sizefS_len (A : Option Addr) (m cap : Nat) (w : World) (hm : m < 1 ∨ 6 < m) (hm2 : m ≤ 1048576) :
    Calls Try.prog 25 #[.slice A m cap] w (RetFB w 0 [] false) := by
  have HW := Lib.hid (St.start w)
  have hg : (m : Int) < 1 ∨ (6 : Int) < (m : Int) := by omega
  have HG := Lib.hid hg
  clear hm hg
  go_enter Try.func25, Try.ntmps25
  go_wp2_with (go_at_call 32; refine (in_no m 1 6 _ HG.out).mono ?_; rintro e w' ⟨rfl, rfl⟩)
  have hS := HW.out.alloc [.int .i64 0, .slice none 0 0] 26
  exact bodyPost_ret (v := .tuple #[.agg #[.int .i64 0, .slice none 0 0], .bool false]) (by simp [results, Try.results25, go_sem]) rfl ⟨none, 0, rfl, Own.nil _ _, hS.base⟩

set_option maxRecDepth 100000 in
set_option maxHeartbeats 4000000 in
theorem sizefS_good (A : Option Addr) (v : List Int) (cap n : Nat) (w : World) (h : Hid (Ints w w.heap.size A v)) (hn : v.length = n + 1) (h5 : n ≤ 5) (f : Nat → Int) (hf : ∀ s, v.getD (ones s) 0 = f s) :
    Calls Try.prog 25 #[.slice A (n + 1) cap] w (RetFB w (made (n : Int) (tab (2 ^ n) f)).1 (made (n : Int) (tab (2 ^ n) f)).2.1 (made (n : Int) (tab (2 ^ n) f)).2.2) := by
  have HW := Lib.hid (St.start w)
  obtain ⟨p, hp⟩ : ∃ p, p = 2 ^ n := ⟨_, rfl⟩
  have hp32 : p ≤ 32 := by have h := Nat.pow_le_pow_right (n := 2) (by decide) h5; omega
  have hsh := shl_one (n := (n : Int)) (m := p) (by omega) (by omega) (by rw [Int.toNat_natCast]; exact hp)
  rw [Int.toNat_natCast] at hsh
  have hon := ones_le5 n h5
  rw [← hp] at hon
  rw [← hp]
  obtain ⟨rn, rx, rb, hr⟩ : ∃ rn rx rb, made (n : Int) (tab p f) = (rn, rx, rb) := ⟨_, _, _, rfl⟩
  rw [hr]
  have HR := Lib.hid hr
  have HX := Lib.hid hn
  have HFS := Lib.hid hf
  have HO := Lib.hid hon
  have hl1 : (1 : Int) ≤ (n : Int) + 1 := by omega
  have hl6 : (n : Int) + 1 ≤ 6 := by omega
  have hcast : ((n + 1 : Nat) : Int) = (n : Int) + 1 := by omega
  have hsub : (n : Int) + 1 - 1 = (n : Int) := by omega
  clear hn hf hp hr hon
  obtain ⟨i0, hi, hz0, hz1, hz2⟩ := info_parts info_int
  go_enter Try.func25, Try.ntmps25
  go_wp2_with (go_at_call 32; refine (in_yes _ 1 6 _ hl1 hl6).mono ?_; rintro e w' ⟨rfl, rfl⟩)
  have hS0 := HW.out.alloc [.int .i64 0, .slice none 0 0] 26
  have HS := Lib.hid hS0
  clear hS0
  go_loopw [4, 5] (fun v i wr => ∃ (j : Nat) (V : Option Addr) (c : Nat), i = .int .i64 j ∧ j ≤ p ∧ v = .slice V j c ∧ St w wr [il (.slice V j c) j (tab j f), bx w.heap.size 26 [.int .i64 0, .slice none 0 0]]) (fun _ i _ => p - (intOf i).toNat)
  case atStart => exact ⟨0, _, _, rfl, Nat.zero_le _, rfl, by have e := HS.out.empty; rw [World.size_alloc] at e; exact e⟩
  case round =>
    obtain ⟨j, V, cc, rfl, hj, rfl, hS⟩ := hrel
    obtain ⟨b1, f1⟩ := hS.box (i := 1) rfl
    have b10 := b1 0 _ rfl
    have b11 := b1 1 _ rfl
    have f10 := f1 0
    have f11 := f1 1
    have bl1 := (hS.lt (i := 1) rfl).2
    clear b1 f1
    have HS1 := Lib.hid hS
    by_cases hlt2 : j < p
    · have htab := Lib.hid (tab_succ j f)
      have hjn : (j : Int) < (p : Int) := by omega
      have ho := HO.out j hlt2
      obtain ⟨b, off, rfl, hbl, hc⟩ := (h.out.below hS.base).at_ (k := ones j) (by rw [HX.out]; omega)
      rw [HFS.out] at hc
      have hcall := fun W => sizeS_any j W (by omega)
      generalize ones j = o at ho hc hcall
      generalize f j = x at hc htab
      have ho0 : (0 : Int) ≤ (o : Int) := by omega
      have hon : (o : Int) < (n : Int) + 1 := by omega
      have HC := Lib.hid hcall
      clear hcall hS
      go_wp2_with (first | (go_at_call 50; refine (HC.out _).mono ?_; rintro e w' ⟨rfl, rfl⟩) | (at_builtin; refine wpList_app1 rfl (.tmp 22) (.tmp 28) 24 rfl x Try.underlying24 hi hz0 hz1 hz2 ((HS1.out.alloc _ _).drop 0) (i := 0) rfl rfl rfl (by simp) (by omega) ?_; intro V' c' w2 hS2; have HS3 := Lib.hid hS2; clear hS2))
      go_roundw
      case rel => exact ⟨j + 1, V', c', by go_num, by omega, rfl, by rw [htab.out]; exact HS3.out⟩
      case measure => simp [intOf]; omega
    · obtain rfl : j = p := by omega
      have hjn : ¬ (j : Int) < (j : Int) := by omega
      obtain ⟨B, d, hcall, hend⟩ := made_any (n : Int) V (tab j f) j cc wr (tab_length _ _) (hS.ints (i := 0) rfl)
      rw [HR.out] at hcall hend
      have HC := Lib.hid hcall
      have HE := Lib.hid hend
      clear hcall hend hS
      go_wp2_with (go_at_call 34; refine HC.out.mono ?_; rintro e w2 ⟨rfl, hb⟩; have hS2 := HS1.out.below hb; obtain ⟨p1, q1⟩ := hS2.box (i := 1) rfl; have p10 := p1 0 _ rfl; have p11 := p1 1 _ rfl; have q10 := q1 0; have q11 := q1 1; have pl := (hS2.lt (i := 1) rfl).2; clear p1 q1 hb b10 b11 f10 f11; have HS2 := Lib.hid hS2; clear hS2)
      have hS3 := ((HS2.out.store (i := 1) rfl 0 (.int .i64 rn)).store (i := 1) rfl 1 (.slice B rx.length d)).alloc [.int .i64 rn, .slice B rx.length d] 26
      exact bodyPost_ret (v := .tuple #[.agg #[.int .i64 rn, .slice B rx.length d], .bool rb]) (by simp [results, Try.results25, go_sem, p10, p11, q10, q11, pl]) rfl ⟨B, d, rfl, ends_own hS3 (i := 1) rfl HE.out, hS3.base⟩

theorem sizefS_any (A : Option Addr) (v : List Int) (cap : Nat) (w : World) (h : Hid (Ints w w.heap.size A v)) (hm : v.length ≤ 1048576) :
    Calls Try.prog 25 #[.slice A v.length cap] w (RetFB w (sizeFn v).1 (sizeFn v).2.1 (sizeFn v).2.2) := by
  unfold sizeFn
  split
  · rename_i hh
    obtain ⟨n, hn⟩ : ∃ n, v.length = n + 1 := ⟨v.length - 1, by omega⟩
    rw [hn, Nat.add_sub_cancel]
    exact sizefS_good A v cap n w h hn (by omega) _ fun s => rfl
  · rename_i hh
    exact sizefS_len A _ cap w (by omega) hm

end Go.Proofs.Ytdodpcehmagdbaa.C
