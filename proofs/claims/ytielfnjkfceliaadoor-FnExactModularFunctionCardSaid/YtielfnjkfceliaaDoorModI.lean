/-
  The contract of impl.ModularFunction.
-/
import Derived.Test.YtielfnjkfceliaaDoorMakeMod
import Derived.Test.YtielfnjkfceliaaDoorModS
import Derived.Test.YtielfnjkfceliaaDoorEls
namespace Go.Proofs.YtielfnjkfceliaaDoor.M
set_option linter.unusedVariables false
/-- The weights of listed elements, added up. -/
def wsum (ws : List Int) : List Int → Int
  | [] => 0
  | e :: l => ws.getD e.toNat 0 + wsum ws l
theorem div_pow_succ (S i : Nat) : S / 2 ^ i / 2 = S / 2 ^ (i + 1) := by rw [Nat.div_div_eq_div_mul, Nat.pow_succ]
theorem testBit_div (S i : Nat) : S.testBit i = decide (S / 2 ^ i % 2 = 1) := by rw [Nat.testBit_eq_decide_div_mod_eq]
theorem wsum_els (ws : List Int) (S : Nat) : ∀ f i, f + i = 10 → S < 2 ^ 10 → weigh ws S i + wsum ws (elsF f i (S / 2 ^ i)) = weigh ws S 10
  | 0, i, h, hS => by
    obtain rfl : i = 10 := by omega
    simp [elsF, wsum]
  | f + 1, i, h, hS => by
    have ih := wsum_els ws S f (i + 1) (by omega) hS
    rw [← ih]
    have hb := testBit_div S i
    rw [← div_pow_succ]
    show weigh ws S i + _ = (if S.testBit i = true then weigh ws S i + ws.getD i 0 else weigh ws S i) + _
    by_cases h1 : S / 2 ^ i % 2 = 1
    · rw [elsF_odd h1, hb]
      simp only [h1, decide_true, if_true, wsum, Int.toNat_natCast]
      omega
    · rw [hb]
      simp only [h1, decide_false]
      by_cases h0 : 0 < S / 2 ^ i
      · rw [elsF_even h0 h1]
        simp
      · have e : S / 2 ^ i = 0 := Nat.eq_zero_of_not_pos h0
        rw [e, elsF_zero, show 0 / 2 = 0 from rfl, elsF_zero]
        simp
theorem weigh_up (ws : List Int) (S n : Nat) (hS : S < 2 ^ n) : ∀ c, weigh ws S (n + c) = weigh ws S n
  | 0 => rfl
  | c + 1 => by
    have h1 : S.testBit (n + c) = false := Nat.testBit_lt_two_pow (Nat.lt_of_lt_of_le hS (Nat.pow_le_pow_right (by decide) (by omega)))
    show (if S.testBit (n + c) = true then _ else weigh ws S (n + c)) = _
    rw [h1]
    exact weigh_up ws S n hS c
theorem weigh_els (ws : List Int) (S n : Nat) (hS : S < 2 ^ n) (hn : n ≤ 10) : wsum ws (els S) = weigh ws S n := by
  have h := wsum_els ws S 10 0 rfl (Nat.lt_of_lt_of_le hS (Nat.pow_le_pow_right (by decide) hn))
  rw [Nat.pow_zero, Nat.div_one] at h
  have h2 := weigh_up ws S n hS (10 - n)
  rw [show n + (10 - n) = 10 by omega] at h2
  have h0 : weigh ws S 0 = 0 := rfl
  rw [h0] at h
  unfold els
  omega
theorem elsF_mem : ∀ (f i x n : Nat), x < 2 ^ n → ∀ e ∈ elsF f i x, (i : Int) ≤ e ∧ e < (i : Int) + (n : Int)
  | 0, _, _, _, _, e, he => by simp [elsF] at he
  | f + 1, i, x, 0, hx, e, he => by
    have : x = 0 := by simpa using hx
    subst this
    rw [elsF_zero] at he
    cases he
  | f + 1, i, x, n + 1, hx, e, he => by
    have hx2 : x / 2 < 2 ^ n := by rw [Nat.pow_succ] at hx; omega
    by_cases h1 : x % 2 = 1
    · rw [elsF_odd h1] at he
      rcases List.mem_cons.1 he with rfl | he
      · omega
      · have := elsF_mem f (i + 1) (x / 2) n hx2 e he
        omega
    · by_cases h0 : 0 < x
      · rw [elsF_even h0 h1] at he
        have := elsF_mem f (i + 1) (x / 2) n hx2 e he
        omega
      · obtain rfl : x = 0 := by omega
        rw [elsF_zero] at he
        cases he
theorem els_at (S n : Nat) (hS : S < 2 ^ n) {k : Nat} (hk : k < (els S).length) : 0 ≤ (els S).getD k 0 ∧ (els S).getD k 0 < (n : Int) := by
  have e : (els S).getD k 0 = (els S)[k] := by rw [List.getD_eq_getElem?_getD, List.getElem?_eq_getElem hk]; rfl
  have := elsF_mem 10 0 S n hS (els S)[k] (List.getElem_mem hk)
  rw [e]
  omega
theorem wsum_drop (ws l : List Int) {k : Nat} (hk : k < l.length) : wsum ws (l.drop k) = ws.getD (l.getD k 0).toNat 0 + wsum ws (l.drop (k + 1)) := by
  have e : l.getD k 0 = l[k] := by rw [List.getD_eq_getElem?_getD, List.getElem?_eq_getElem hk]; rfl
  rw [List.drop_eq_getElem_cons hk, e]
  rfl

end Go.Proofs.YtielfnjkfceliaaDoor.M
namespace Go.Proofs.YtielfnjkfceliaaDoor.C
open Go.RowKit K M
set_option linter.unusedVariables false
set_option linter.unusedSimpArgs false

theorem isWeight_yes (z : Int) (w : World) (h1 : -1000 ≤ z) (h2 : z ≤ 1000) : Calls Tryd.prog 15 #[.int .i64 z] w fun e w' => e = .returned (.bool true) ∧ w = w' := by
  go_enter Tryd.func15, Tryd.ntmps15
  go_wp2
  go_ret
  exact ⟨rfl, rfl⟩
theorem isWeight_no (z : Int) (w : World) (h : z < -1000 ∨ 1000 < z) : Calls Tryd.prog 15 #[.int .i64 z] w fun e w' => e = .returned (.bool false) ∧ w = w' := by
  by_cases h0 : z < -1000
  · clear h
    go_enter Tryd.func15, Tryd.ntmps15
    go_wp2
    go_ret
    exact ⟨rfl, rfl⟩
  · have h1 : -1000 ≤ z := by omega
    have h2 : 1000 < z := by omega
    have h3 : decide (z ≤ 1000) = false := by simpa using h2
    clear h
    go_enter Tryd.func15, Tryd.ntmps15
    go_wp2
    go_ret
    exact ⟨rfl, rfl⟩

set_option maxRecDepth 100000 in
set_option maxHeartbeats 1600000 in
theorem weighI_any (A : Option Addr) (ws : List Int) (cap S : Nat) (w : World) (h : Hid (Ints w w.heap.size A ws)) (hv : ∀ k, k < ws.length → -1000 ≤ ws.getD k 0 ∧ ws.getD k 0 ≤ 1000) (hm : ws.length ≤ 5) (hS : S < 2 ^ ws.length) (hb : Hid (Brujn w)) :
    Calls Tryd.prog 18 #[.slice A ws.length cap, .int .i64 S] w (RetV w (.int .i64 (weigh ws S ws.length))) := by
  have hS32 : S < 1024 := Nat.lt_of_lt_of_le hS (Nat.le_trans (Nat.pow_le_pow_right (by decide) hm) (by decide))
  have HT := Lib.hid (weigh_els ws S ws.length hS (by omega))
  have hat := Lib.hid (fun k (hk : k < (els S).length) => els_at S ws.length hS hk)
  have hdr := Lib.hid (fun k (hk : k < (els S).length) => wsum_drop ws (els S) hk)
  have hlen := els_len S
  have HE := Lib.hid (listI_any S w hS32 hb)
  obtain ⟨m, hxm⟩ : ∃ m, ws.length = m := ⟨_, rfl⟩
  rw [hxm] at hm HT hat hS ⊢
  generalize els S = es at *
  obtain ⟨l, hel⟩ : ∃ l, es.length = l := ⟨_, rfl⟩
  have HW := Lib.hid (St.start w)
  have HX := Lib.hid hxm
  have HV := Lib.hid hv
  have HL := Lib.hid hel
  rw [hel] at hlen hat hdr
  clear hv hxm hS hS32
  go_enter Tryd.func18, Tryd.ntmps18
  go_wp2_with fail
  refine HE.out.mono ?_
  rintro e w1 ⟨V, cc, rfl, ho, hb1⟩
  rw [hel]
  rw [hel] at ho
  have HS1 := Lib.hid (HW.out.newI hb1 ho)
  rw [hel] at HS1
  clear ho hb1 hel
  go_wp2
  go_loopw [5, 11] (fun y i wr => ∃ (k : Nat) (t : Int), i = .int .i64 k ∧ k ≤ l ∧ y = .int .i64 t ∧ Hid (-1000 * (k : Int) ≤ t ∧ t ≤ 1000 * (k : Int)) ∧ Hid (t + wsum ws (es.drop k) = weigh ws S m) ∧ St w wr [il (.slice V l cc) l es]) (fun _ i _ => l - (intOf i).toNat)
  case atStart => exact ⟨0, 0, rfl, Nat.zero_le _, rfl, Lib.hid (by omega), Lib.hid (by rw [List.drop_zero, HT.out]; omega), HS1.out⟩
  case round =>
    obtain ⟨k, t, rfl, hk, rfl, hbd, hsum, hS⟩ := hrel
    have HS := Lib.hid hS
    clear hS
    by_cases hlt : k < l
    · obtain ⟨b, off, rfl, hbl, hc0⟩ := (HS.out.ints (i := 0) rfl).at_ (k := k) (by rw [HL.out]; exact hlt)
      obtain ⟨g1, g2⟩ := hat.out k hlt
      have hd := hdr.out k hlt
      obtain ⟨E, hE⟩ : ∃ E : Nat, es.getD k 0 = (E : Int) := ⟨_, (Int.toNat_of_nonneg g1).symm⟩
      rw [hE] at hc0 g1 g2 hd
      rw [Int.toNat_natCast] at hd
      have hEm : E < m := by omega
      obtain ⟨b', off', rfl, hbl', hc'⟩ := h.out.at_ (k := E) (by rw [HX.out]; exact hEm)
      have d1 := (HS.out.base.cell (p := ⟨b', off' + E, none⟩) hbl').trans hc'
      obtain ⟨v1, v2⟩ := HV.out E (by rw [HX.out]; exact hEm)
      obtain ⟨t1, t2⟩ := hbd.out
      have hs := hsum.out
      rw [hd] at hs
      generalize ws.getD E 0 = x at d1 v1 v2 hs
      have hw : IntKind.i64.wrap (t + x) = t + x := IntWalk.i64_in _ (by omega)
      have HB := Lib.hid (show -1000 * ((k + 1 : Nat) : Int) ≤ t + x ∧ t + x ≤ 1000 * ((k + 1 : Nat) : Int) by omega)
      have HU := Lib.hid (show (t + x) + wsum ws (es.drop (k + 1)) = weigh ws S m by omega)
      have hk0 : (0 : Int) ≤ (k : Int) := by omega
      have hkl : (k : Int) < (l : Int) := by omega
      have hE0 : (0 : Int) ≤ (E : Int) := by omega
      have hEi : (E : Int) < (m : Int) := by omega
      clear hc' hs hd t1 t2 hE
      go_wp2
      go_roundw
      case rel => exact ⟨k + 1, t + x, by go_num, by omega, rfl, HB, HU, HS.out⟩
      case measure => simp [intOf]; omega
    · obtain rfl : k = l := by omega
      have hkl : ¬ (k : Int) < (k : Int) := by omega
      have hfin := hsum.out
      rw [List.drop_of_length_le (by rw [HL.out]; exact Nat.le_refl _)] at hfin
      have HF := Lib.hid (show t = weigh ws S m by simpa [wsum] using hfin)
      clear hfin
      go_wp2
      go_ret
      exact ⟨by rw [HF.out]; rfl, HS.out.base⟩

set_option maxRecDepth 100000 in
set_option maxHeartbeats 1600000 in
theorem modC (A : Option Addr) (ws : List Int) (cap S : Nat) (c : Int) (cb wb : Nat) (w : World) (h : Hid (Ints w w.heap.size A ws)) (hv : ∀ k, k < ws.length → -1000 ≤ ws.getD k 0 ∧ ws.getD k 0 ≤ 1000) (hm : ws.length ≤ 5) (hS : S < 2 ^ ws.length) (hb : Hid (Brujn w)) (c1 : -1000 ≤ c) (c2 : c ≤ 1000)
    (hc : w.cell? ⟨cb, 0, none⟩ = some (.int .i64 c)) (hw : w.cell? ⟨wb, 0, none⟩ = some (.slice A ws.length cap)) (lc : cb < w.heap.size) (lw : wb < w.heap.size) :
    Calls Tryd.prog 17 #[.int .i64 S, .pointer (some ⟨cb, 0, none⟩), .pointer (some ⟨wb, 0, none⟩)] w (RetV w (.int .i64 (c + weigh ws S ws.length))) := by
  have HC := Lib.hid (fun W (hW : Ints W W.heap.size A ws) (hB : Brujn W) => weighI_any A ws cap S W (Lib.hid hW) hv hm hS (Lib.hid hB))
  obtain ⟨g1, g2⟩ := weigh_bd hv S ws.length (Nat.le_refl _)
  generalize ws.length = m at *
  generalize weigh ws S m = y at *
  have hy : IntKind.i64.wrap (c + y) = c + y := IntWalk.i64_in _ (by omega)
  have HW := Lib.hid (St.start w)
  clear hv hS
  go_enter Tryd.func17, Tryd.ntmps17
  go_wp2
  go_region_held3 (fun w' => w'.cell? ⟨cb, 0, none⟩ = some (.int .i64 c) ∧ w'.cell? ⟨wb, 0, none⟩ = some (.slice A m cap)) (first | assumption | go_keep) ((go_at_call 18; refine (HC.out _ ?_ ?_).mono ?_; (first | exact h.out | exact h.out.drew); (first | exact hb.out | exact hb.out); rintro e w2 ⟨rfl, hb2⟩; have HB2 := Lib.hid (HW.out.drew.below hb2); have hc' := (hb2.cell (p := ⟨cb, 0, none⟩) lc).trans hc; have hw' := (hb2.cell (p := ⟨wb, 0, none⟩) lw).trans hw; clear hb2))
  go_wp2
  go_ret
  exact ⟨rfl, HB2.out.base⟩

set_option maxHeartbeats 1600000 in
theorem modfnI_len (A : Option Addr) (m cap : Nat) (c : Int) (w : World) (hm : 5 < m) :
    Calls Tryd.prog 6 #[.slice A m cap, .int .i64 c] w (RetFB w 0 [] false) := by
  have HW := Lib.hid (St.start w)
  have hg : (5 : Int) < (m : Int) := by omega
  go_enter Tryd.func6, Tryd.ntmps6
  go_wp2
  have hS := ((HW.out.alloc [.slice A m cap] 22).alloc [.int .i64 c] 3).alloc [.int .i64 0, .slice none 0 0] 24
  exact bodyPost_ret (v := .tuple #[.agg #[.int .i64 0, .slice none 0 0], .bool false]) (by simp [results, Tryd.results6, go_sem]) rfl ⟨none, 0, rfl, Own.nil _ _, hS.base⟩

set_option maxHeartbeats 1600000 in
theorem modfnI_c (A : Option Addr) (m cap : Nat) (c : Int) (w : World) (hm : m ≤ 5) (hc : c < -1000 ∨ 1000 < c) :
    Calls Tryd.prog 6 #[.slice A m cap, .int .i64 c] w (RetFB w 0 [] false) := by
  have HW := Lib.hid (St.start w)
  have HC := Lib.hid hc
  have hg : ¬ (5 : Int) < (m : Int) := by omega
  clear hc
  go_enter Tryd.func6, Tryd.ntmps6
  go_wp2_with (go_at_call 15; refine (isWeight_no c _ HC.out).mono ?_; rintro e w' ⟨rfl, rfl⟩)
  have hS := ((HW.out.alloc [.slice A m cap] 22).alloc [.int .i64 c] 3).alloc [.int .i64 0, .slice none 0 0] 24
  exact bodyPost_ret (v := .tuple #[.agg #[.int .i64 0, .slice none 0 0], .bool false]) (by simp [results, Tryd.results6, go_sem]) rfl ⟨none, 0, rfl, Own.nil _ _, hS.base⟩

set_option maxRecDepth 100000 in
set_option maxHeartbeats 1600000 in
theorem modfnI_val (A : Option Addr) (ws : List Int) (cap : Nat) (c : Int) (w : World) (h : Hid (Ints w w.heap.size A ws)) (hm : ws.length ≤ 5) (c1 : -1000 ≤ c) (c2 : c ≤ 1000)
    (j : Nat) (hj : j < ws.length) (hb : ws.getD j 0 < -1000 ∨ 1000 < ws.getD j 0) (hv : ∀ k, k < j → -1000 ≤ ws.getD k 0 ∧ ws.getD k 0 ≤ 1000) :
    Calls Tryd.prog 6 #[.slice A ws.length cap, .int .i64 c] w (RetFB w 0 [] false) := by
  have HW := Lib.hid (St.start w)
  obtain ⟨m, hxm⟩ : ∃ m, ws.length = m := ⟨_, rfl⟩
  rw [hxm] at hm hj ⊢
  have HX := Lib.hid hxm
  have HV := Lib.hid hv
  have HB := Lib.hid hb
  have hg : ¬ (5 : Int) < (m : Int) := by omega
  clear hv hxm hb
  go_enter Tryd.func6, Tryd.ntmps6
  go_wp2_with (go_at_call 15; refine (isWeight_yes c _ c1 c2).mono ?_; rintro e w' ⟨rfl, rfl⟩)
  have HS := Lib.hid (((HW.out.alloc [.slice A m cap] 22).alloc [.int .i64 c] 3).alloc [.int .i64 0, .slice none 0 0] 24)
  go_loop [7, 19] (fun _ i => ∃ k : Nat, k ≤ j ∧ i = .int .i64 k) (fun _ i => m - (intOf i).toNat)
  case atStart => exact ⟨0, Nat.zero_le _, rfl⟩
  case round =>
    obtain ⟨k, hk, rfl⟩ := hrel
    obtain ⟨b, off, rfl, hbl, hc⟩ := h.out.at_ (k := k) (by rw [HX.out]; omega)
    have d := (HS.out.base.cell (p := ⟨b, off + k, none⟩) hbl).trans hc
    have hk0 : (0 : Int) ≤ (k : Int) := by omega
    have hkn : (k : Int) < (m : Int) := by omega
    clear hc
    by_cases hlt : k < j
    · obtain ⟨v1, v2⟩ := HV.out k hlt
      generalize ws.getD k 0 = x at d v1 v2
      go_wp2_with (go_at_call 15; refine (isWeight_yes x _ v1 v2).mono ?_; rintro e w' ⟨rfl, rfl⟩)
      go_round
      case rel => exact ⟨k + 1, by omega, by go_num⟩
      case measure => simp [intOf]; omega
    · obtain rfl : k = j := by omega
      have hb := HB.out
      clear HB HV
      generalize ws.getD k 0 = x at d hb
      have HB := Lib.hid hb
      clear hb
      go_wp2_with (go_at_call 15; refine (isWeight_no x _ HB.out).mono ?_; rintro e w' ⟨rfl, rfl⟩)
      exact bodyPost_ret (v := .tuple #[.agg #[.int .i64 0, .slice none 0 0], .bool false]) (by simp [results, Tryd.results6, go_sem]) rfl ⟨none, 0, rfl, Own.nil _ _, HS.out.base⟩

set_option maxRecDepth 100000 in
set_option maxHeartbeats 4000000 in
theorem modfnI_good (A : Option Addr) (ws : List Int) (cap : Nat) (c : Int) (w : World) (h : Hid (Ints w w.heap.size A ws)) (hm : ws.length ≤ 5) (c1 : -1000 ≤ c) (c2 : c ≤ 1000) (hv : ∀ k, k < ws.length → -1000 ≤ ws.getD k 0 ∧ ws.getD k 0 ≤ 1000) (hbr : Hid (Brujn w)) :
    Calls Tryd.prog 6 #[.slice A ws.length cap, .int .i64 c] w (RetFB w (made (ws.length : Int) (tab (2 ^ ws.length) fun s => c + weigh ws s ws.length)).1 (made (ws.length : Int) (tab (2 ^ ws.length) fun s => c + weigh ws s ws.length)).2.1 (made (ws.length : Int) (tab (2 ^ ws.length) fun s => c + weigh ws s ws.length)).2.2) := by
  have HW := Lib.hid (St.start w)
  have hC := Lib.hid (fun (W : World) (S cb wb : Nat) (hW : Ints W W.heap.size A ws) (hS : S < 2 ^ ws.length) (hB : Brujn W) => modC A ws cap S c cb wb W (Lib.hid hW) hv hm hS (Lib.hid hB) c1 c2)
  obtain ⟨f, hf⟩ : ∃ f : Nat → Int, f = fun s => c + weigh ws s ws.length := ⟨_, rfl⟩
  have hfs : ∀ s, c + weigh ws s ws.length = f s := fun s => by rw [hf]
  simp only [hfs] at hC
  rw [← hf]
  obtain ⟨rn, rx, rb, hr⟩ : ∃ rn rx rb, made (ws.length : Int) (tab (2 ^ ws.length) f) = (rn, rx, rb) := ⟨_, _, _, rfl⟩
  rw [hr]
  have HR := Lib.hid hr
  obtain ⟨m, hxm⟩ : ∃ m, ws.length = m := ⟨_, rfl⟩
  rw [hxm] at hm hC HR ⊢
  have HX := Lib.hid hxm
  have HV := Lib.hid hv
  have hg : ¬ (5 : Int) < (m : Int) := by omega
  clear hv hxm hf hfs hr
  go_enter Tryd.func6, Tryd.ntmps6
  go_wp2_with (go_at_call 15; refine (isWeight_yes c _ c1 c2).mono ?_; rintro e w' ⟨rfl, rfl⟩)
  have HS := Lib.hid (((HW.out.alloc [.slice A m cap] 22).alloc [.int .i64 c] 3).alloc [.int .i64 0, .slice none 0 0] 24)
  go_loop [7, 19] (fun _ i => ∃ k : Nat, k ≤ m ∧ i = .int .i64 k) (fun _ i => m - (intOf i).toNat)
  case atStart => exact ⟨0, Nat.zero_le _, rfl⟩
  case round =>
    obtain ⟨k, hk, rfl⟩ := hrel
    by_cases hlt : k < m
    · obtain ⟨b, off, rfl, hbl, hc⟩ := h.out.at_ (k := k) (by rw [HX.out]; omega)
      have d := (HS.out.base.cell (p := ⟨b, off + k, none⟩) hbl).trans hc
      have hk0 : (0 : Int) ≤ (k : Int) := by omega
      have hkn : (k : Int) < (m : Int) := by omega
      obtain ⟨v1, v2⟩ := HV.out k (by rw [HX.out]; exact hlt)
      clear hc
      generalize ws.getD k 0 = x at d v1 v2
      go_wp2_with (go_at_call 15; refine (isWeight_yes x _ v1 v2).mono ?_; rintro e w' ⟨rfl, rfl⟩)
      go_round
      case rel => exact ⟨k + 1, by omega, by go_num⟩
      case measure => simp [intOf]; omega
    · obtain rfl : k = m := by omega
      have hkn : ¬ (k : Int) < (k : Int) := by omega
      have HK := Lib.hid (fun (W : World) (hb : Below w.heap.size w W) => make_mod (k : Int) (2 ^ k) f (.pointer (some ⟨w.heap.size + 1, 0, none⟩)) (.pointer (some ⟨w.heap.size, 0, none⟩)) W (by omega) (by omega) (by rw [Int.toNat_natCast]) rn rx rb HR)
      go_wp2_with fail
      refine (HK.out _ HS.out.base (Lib.hid fun j hj W hW => hC.out W j _ _ ((h.out.below (HS.out.base.trans (hW.mono HS.out.size))).mono (Nat.le_trans HS.out.size hW.size)) hj (brujn_on hbr.out (HS.out.base.trans (hW.mono HS.out.size))) ((hW.cell (p := ⟨w.heap.size + 1, 0, none⟩) (by simp)).trans (by simp [go_sem])) ((hW.cell (p := ⟨w.heap.size, 0, none⟩) (by simp; omega)).trans (by simp [go_sem])) (Nat.lt_of_lt_of_le (by simp) hW.size) (Nat.lt_of_lt_of_le (by simp; omega) hW.size))).mono ?_
      rintro e w1 ⟨B, d, rfl, ho, hb⟩
      have hS1 := HS.out.newI hb ho
      obtain ⟨r1, rf⟩ := hS1.box (i := 1) rfl
      have r10 := r1 0 _ rfl
      have r11 := r1 1 _ rfl
      have rf0 := rf 0
      have rf1 := rf 1
      have HS1 := Lib.hid hS1
      clear r1 rf hb ho hS1
      simp only [World.size_alloc] at r10 r11 rf0 rf1 HS1
      go_wp2
      have hZ := (HS1.out.store (i := 1) rfl 0 (.int .i64 rn)).store (i := 1) rfl 1 (.slice B rx.length d)
      exact bodyPost_ret (v := .tuple #[.agg #[.int .i64 rn, .slice B rx.length d], .bool rb]) (by simp [results, Tryd.results6, go_sem, r10, r11, rf0, rf1]) rfl ⟨B, d, rfl, hZ.ownI (i := 0) rfl, hZ.base⟩

theorem modfnI_any (A : Option Addr) (ws : List Int) (cap : Nat) (c : Int) (w : World) (h : Hid (Ints w w.heap.size A ws)) (hbr : Hid (Brujn w)) :
    Calls Tryd.prog 6 #[.slice A ws.length cap, .int .i64 c] w (RetFB w (modFn ws c).1 (modFn ws c).2.1 (modFn ws c).2.2) := by
  unfold modFn
  split
  · rename_i hh
    exact modfnI_good A ws cap c w h hh.1 hh.2.1 hh.2.2.1 (weights_all.1 hh.2.2.2) hbr
  · rename_i hh
    by_cases h1 : ws.length ≤ 5
    · by_cases h2 : -1000 ≤ c ∧ c ≤ 1000
      · obtain ⟨j, hj, hb, hv⟩ := weight_bad (ws := ws) fun g => hh ⟨h1, h2.1, h2.2, weights_all.2 g⟩
        exact modfnI_val A ws cap c w h h1 h2.1 h2.2 j hj hb hv
      · exact modfnI_c A _ cap c w h1 (by omega)
    · exact modfnI_len A _ cap c w (by omega)


end Go.Proofs.YtielfnjkfceliaaDoor.C
