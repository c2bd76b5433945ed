/-
  The contract of impl.IndicatorOf.
  The contracts of impl.combineVectors, of what it is handed, LeastVector and GreatestVector.
  The contract of impl.IsConvexAt.
  The contracts of impl.LeastVector and GreatestVector.
-/
import Derived.Test.YtlbefommcahkeaaGreatDoorImA
import Derived.Test.YtlbefommcahkeaaGreatDoorEls
import Derived.Test.YtlbefommcahkeaaGreatDoorAllM
import Derived.Test.YtlbefommcahkeaaGreatDoorBase
import Derived.Deep.RegionHeld3
import Derived.Shelf.Abstract
namespace Go.Proofs.YtlbefommcahkeaaGreatDoor.C
open Go.RowKit K M
set_option linter.unusedVariables false
set_option linter.unusedSimpArgs false

/-- The places of the first k listed elements are marked. -/
def marks (es : List Int) (m : Nat) : Nat → List Int
  | 0 => List.replicate m 0
  | k + 1 => (marks es m k).set (es.getD k 0).toNat 1
theorem marks_len (es : List Int) (m : Nat) : ∀ k, (marks es m k).length = m
  | 0 => List.length_replicate
  | k + 1 => by rw [marks, List.length_set, marks_len es m k]
theorem marks_all : ∀ m : Nat, m < 6 → ∀ S : Nat, S < 2 ^ m → marks (els S) m (els S).length = tab m fun i => if S.testBit i = true then 1 else 0 := by decide +kernel

theorem isCountN_yes (z : Int) (w : World) (h0 : 0 ≤ z) (h1 : z ≤ 5) : Calls Tryz.prog 43 #[.int .i64 z] w fun e w' => e = .returned (.bool true) ∧ w = w' := by
  go_enter Tryz.func43, Tryz.ntmps43
  go_wp2
  go_ret
  exact ⟨rfl, rfl⟩

theorem isCountN_no (z : Int) (w : World) (h : z < 0 ∨ 5 < z) : Calls Tryz.prog 43 #[.int .i64 z] w fun e w' => e = .returned (.bool false) ∧ w = w' := by
  by_cases h0 : z < 0
  · clear h
    go_enter Tryz.func43, Tryz.ntmps43
    go_wp2
    go_ret
    exact ⟨rfl, rfl⟩
  · have h1 : 0 ≤ z := by omega
    have h2 : 5 < z := by omega
    have h3 : decide (z ≤ 5) = false := by simpa using h2
    clear h
    go_enter Tryz.func43, Tryz.ntmps43
    go_wp2
    go_ret
    exact ⟨rfl, rfl⟩

theorem indI_num (n s : Int) (w : World) (hn : n < 0 ∨ 5 < n) : Calls Tryz.prog 10 #[.int .i64 n, .int .i64 s] w (RetIB w [] false) := by
  have HN := Lib.hid hn
  clear hn
  go_enter Tryz.func10, Tryz.ntmps10
  go_wp2_with (go_at_call 43; refine (isCountN_no n _ HN.out).mono ?_; rintro e w' ⟨rfl, rfl⟩)
  go_ret2
  exact ⟨none, 0, rfl, K.Own.nil _ _, Below.refl _ _⟩

theorem indI_set (n s : Int) (w : World) (h0 : 0 ≤ n) (h5 : n ≤ 5) (hs : isSet n s = false) : Calls Tryz.prog 10 #[.int .i64 n, .int .i64 s] w (RetIB w [] false) := by
  have HN := Lib.hid hs
  clear hs
  go_enter Tryz.func10, Tryz.ntmps10
  go_wp2_with (first | (go_at_call 43; refine (isCountN_yes n _ h0 h5).mono ?_; rintro e w' ⟨rfl, rfl⟩) | (go_at_call 44; refine (isOf_no s n _ h0 (by omega) HN.out).mono ?_; rintro e w' ⟨rfl, rfl⟩))
  go_ret2
  exact ⟨none, 0, rfl, K.Own.nil _ _, Below.refl _ _⟩

set_option maxRecDepth 100000 in
set_option maxHeartbeats 1600000 in
theorem indI_yes (n s : Int) (w : World) (h0 : 0 ≤ n) (h5 : n ≤ 5) (hs : isSet n s = true) (hb : Hid (Brujn w)) : Calls Tryz.prog 10 #[.int .i64 n, .int .i64 s] w (RetIB w (tab n.toNat fun i => if s.toNat.testBit i = true then 1 else 0) true) := by
  obtain ⟨q1, q2⟩ := isSet_yes hs
  have HW := Lib.hid (St.start w)
  have HN := Lib.hid hs
  obtain ⟨m, rfl⟩ := Int.eq_ofNat_of_zero_le h0
  obtain ⟨S, rfl⟩ := Int.eq_ofNat_of_zero_le q1
  rw [Int.toNat_natCast] at q2 ⊢
  rw [Int.toNat_natCast]
  have hm5 : m ≤ 5 := by omega
  have hS : S < 2 ^ m := by
    have e : ((2 ^ m : Nat) : Int) = (2 : Int) ^ m := by simp
    omega
  have hS32 : S < 1024 := Nat.lt_of_lt_of_le hS (Nat.le_trans (Nat.pow_le_pow_right (by decide) hm5) (by decide))
  rw [← marks_all m (by omega) S hS]
  have HE := Lib.hid (fun W hb => listI_any S W hS32 hb)
  have hat := Lib.hid (fun k (hk : k < (els S).length) => els_at S m hS hk)
  have hel := els_len S
  have HML := Lib.hid (fun k => marks_len (els S) m k)
  have HM0 := Lib.hid (show marks (els S) m 0 = List.replicate m 0 from rfl)
  have HMS := Lib.hid (fun k => show marks (els S) m (k + 1) = (marks (els S) m k).set ((els S).getD k 0).toNat 1 from rfl)
  generalize marks (els S) m = G at *
  generalize els S = es at *
  obtain ⟨l, hl⟩ : ∃ l, es.length = l := ⟨_, rfl⟩
  rw [hl] at hat hel ⊢
  have HL := Lib.hid hl
  clear hs hS hl q1 q2
  obtain ⟨i0, hi, hi0, hi1, hi2⟩ := info_parts info_int
  go_enter Tryz.func10, Tryz.ntmps10
  go_wp2_with (first
    | (go_at_call 43; refine (isCountN_yes _ _ h0 h5).mono ?_; rintro e w' ⟨rfl, rfl⟩)
    | (go_at_call 44; refine (isOf_yes _ _ _ h0 (by omega) HN.out).mono ?_; rintro e w' ⟨rfl, rfl⟩)
    | (refine wpList_make_full _ rfl _ _ _ rfl w.heap.size 3 i0 (.int .i64 0) 1 Tryz.underlying24 hi hi0 hi1 .i64 .i64 _ _ m rfl rfl rfl rfl (by rw [hi2]; omega) (by unfold maxLen; omega) (by simp) ?_; intro w1 hown1 hg1))
  rw [zeros] at hown1
  have hS1 : St w w1 [il (.slice (some ⟨w.heap.size, 0, none⟩) m m) m (List.replicate m 0)] := HW.out.new ((Below.refl _ _).grown hg1 (Nat.le_refl _) (by simp)) hown1
  have HS1 := Lib.hid hS1
  clear hown1 hg1 hi hi0 hi1 hi2 hS1
  go_wp2_with fail
  refine (HE.out _ (Lib.hid (brujn_on hb.out HS1.out.base))).mono ?_
  rintro e w2 ⟨V, cc, rfl, ho, hb1⟩
  rw [HL.out] at ho ⊢
  have hS2 := HS1.out.newI hb1 ho
  rw [HL.out] at hS2
  have HS2 := Lib.hid hS2
  clear ho hb1 hS2
  go_wp2
  go_loopw [23] (fun i wr => ∃ k : Nat, i = .int .i64 k ∧ k ≤ l ∧ St w wr [il (.slice V l cc) l es, il (.slice (some ⟨w.heap.size, 0, none⟩) m m) m (G k)]) (fun i _ => l - (intOf i).toNat)
  case atStart => exact ⟨0, rfl, Nat.zero_le _, by rw [HM0.out]; exact HS2.out⟩
  case round =>
    obtain ⟨k, rfl, hk, hS⟩ := hrel
    by_cases hlt : k < l
    · obtain ⟨b, off, rfl, hbl, hc0⟩ := (hS.ints (i := 0) rfl).at_ (k := k) (by rw [HL.out]; exact hlt)
      obtain ⟨g1, g2⟩ := hat.out k hlt
      have hG := HMS.out k
      obtain ⟨E, hE⟩ : ∃ E : Nat, es.getD k 0 = (E : Int) := ⟨_, (Int.toNat_of_nonneg g1).symm⟩
      rw [hE] at hc0 g1 g2 hG
      rw [Int.toNat_natCast] at hG
      have hEm : E < m := by omega
      obtain ⟨c1, c2⟩ := hS.cellI (i := 1) rfl hEm
      have hk0 : (0 : Int) ≤ (k : Int) := by omega
      have hkl : (k : Int) < (l : Int) := by omega
      have hE0 : (0 : Int) ≤ (E : Int) := by omega
      have hEi : (E : Int) < (m : Int) := by omega
      have HG := Lib.hid hG
      have HR := Lib.hid hS
      clear hS hG hE g1 g2
      go_wp2
      have hS2 := HR.out.setI (i := 1) rfl E 1
      have HS3 := Lib.hid hS2
      clear hS2
      go_roundw
      case rel => exact ⟨k + 1, by go_num, by omega, by rw [HG.out]; exact HS3.out⟩
      case measure => simp [intOf]; omega
    · obtain rfl : k = l := by omega
      have hkl : ¬ (k : Int) < (k : Int) := by omega
      have hgl := HML.out k
      have HR := Lib.hid hS
      clear hS
      go_wp2
      go_ret2
      exact ⟨some ⟨w.heap.size, 0, none⟩, m, by rw [hgl]; rfl, by rw [hgl]; exact HR.out.ownI (i := 1) rfl, HR.out.base⟩

theorem indI_any (n s : Int) (w : World) (hb : Hid (Brujn w)) : Calls Tryz.prog 10 #[.int .i64 n, .int .i64 s] w (RetIB w (indOf n s).1 (indOf n s).2) := by
  unfold indOf
  by_cases hn : 0 ≤ n ∧ n ≤ 5
  · cases hs : isSet n s
    · rw [if_neg (fun hh => by simp at hh)]
      exact indI_set n s w hn.1 hn.2 hs
    · rw [if_pos ⟨hn.1, hn.2, rfl⟩]
      exact indI_yes n s w hn.1 hn.2 hs hb
  · rw [if_neg (fun hh => hn ⟨hh.1, hh.2.1⟩)]
    exact indI_num n s w (by omega)

end Go.Proofs.YtlbefommcahkeaaGreatDoor.C

namespace Go.Proofs.YtlbefommcahkeaaGreatDoor.C
open Go.RowKit K M
set_option linter.unusedVariables false
set_option linter.unusedSimpArgs false

theorem lesserI (x y : Int) (w : World) : Calls Tryz.prog 65 #[.int .i64 x, .int .i64 y] w fun e w' => e = .returned (.int .i64 (min x y)) ∧ w = w' := by
  rcases Int.lt_trichotomy x y with hxy | hxy | hxy
  · rw [show min x y = x by omega]
    have h1 : x ≤ y := by omega
    have h2 : ¬ y ≤ x := by omega
    have h3 : ¬ y < x := by omega
    go_enter Tryz.func65, Tryz.ntmps65
    go_wp2
    all_goals go_ret
    all_goals first
      | exact ⟨rfl, rfl⟩
      | exact ⟨congrArg (fun z => Ending.returned (Value.int IntKind.i64 z)) (by omega), rfl⟩
  · subst hxy
    rw [show min x x = x by omega]
    go_enter Tryz.func65, Tryz.ntmps65
    go_wp2
    all_goals go_ret
    all_goals first
      | exact ⟨rfl, rfl⟩
      | exact ⟨congrArg (fun z => Ending.returned (Value.int IntKind.i64 z)) (by omega), rfl⟩
  · rw [show min x y = y by omega]
    have h1 : y ≤ x := by omega
    have h2 : ¬ x ≤ y := by omega
    have h3 : ¬ x < y := by omega
    go_enter Tryz.func65, Tryz.ntmps65
    go_wp2
    all_goals go_ret
    all_goals first
      | exact ⟨rfl, rfl⟩
      | exact ⟨congrArg (fun z => Ending.returned (Value.int IntKind.i64 z)) (by omega), rfl⟩

theorem greaterI (x y : Int) (w : World) : Calls Tryz.prog 66 #[.int .i64 x, .int .i64 y] w fun e w' => e = .returned (.int .i64 (max x y)) ∧ w = w' := by
  rcases Int.lt_trichotomy x y with hxy | hxy | hxy
  · rw [show max x y = y by omega]
    have h1 : x ≤ y := by omega
    have h2 : ¬ y ≤ x := by omega
    have h3 : ¬ y < x := by omega
    go_enter Tryz.func66, Tryz.ntmps66
    go_wp2
    all_goals go_ret
    all_goals first
      | exact ⟨rfl, rfl⟩
      | exact ⟨congrArg (fun z => Ending.returned (Value.int IntKind.i64 z)) (by omega), rfl⟩
  · subst hxy
    rw [show max x x = x by omega]
    go_enter Tryz.func66, Tryz.ntmps66
    go_wp2
    all_goals go_ret
    all_goals first
      | exact ⟨rfl, rfl⟩
      | exact ⟨congrArg (fun z => Ending.returned (Value.int IntKind.i64 z)) (by omega), rfl⟩
  · rw [show max x y = x by omega]
    have h1 : y ≤ x := by omega
    have h2 : ¬ x ≤ y := by omega
    have h3 : ¬ x < y := by omega
    go_enter Tryz.func66, Tryz.ntmps66
    go_wp2
    all_goals go_ret
    all_goals first
      | exact ⟨rfl, rfl⟩
      | exact ⟨congrArg (fun z => Ending.returned (Value.int IntKind.i64 z)) (by omega), rfl⟩

theorem plusI (x y : Int) (w : World) (hx : -1000 ≤ x ∧ x ≤ 1000) (hy : -1000 ≤ y ∧ y ≤ 1000) : Calls Tryz.prog 48 #[.int .i64 x, .int .i64 y] w fun e w' => e = .returned (.int .i64 (x + y)) ∧ w = w' := by
  have hw : IntKind.i64.wrap (x + y) = x + y := IntWalk.i64_in _ (by omega)
  go_enter Tryz.func48, Tryz.ntmps48
  go_wp2
  go_ret
  exact ⟨rfl, rfl⟩


section

variable (A : Option Addr) (xs : List Int) (cap : Nat) (D : Option Addr) (ys : List Int) (dap : Nat) (w : World) (h : Hid (Ints w w.heap.size A xs)) (g : Hid (Ints w w.heap.size D ys)) (hx : xs.length ≤ 1048576) (hy : ys.length ≤ 1048576)
include h g hx hy
theorem combI_no (F : Value) (hf : fitV xs ys = false) : Calls Tryz.prog 47 #[.slice A xs.length cap, .slice D ys.length dap, F] w (RetIB w [] false) := by
  have HA := Lib.hid (areVecI_any A xs cap D ys dap w h g hx hy)
  rw [hf] at HA
  clear hf
  go_enter Tryz.func47, Tryz.ntmps47
  go_wp2_with (go_at_call 56; refine HA.out.mono ?_; rintro e w' ⟨rfl, rfl⟩)
  go_ret2
  exact ⟨none, 0, rfl, K.Own.nil _ _, Below.refl _ _⟩

set_option maxRecDepth 100000 in
set_option maxHeartbeats 4000000 in
theorem combI_yes (k0 : Nat) (eg : ∀ args w, (callFunc k0 args).run Tryz.prog w = .ok (.enter k0 args) w) (f : Nat → Int) (hf : fitV xs ys = true)
    (hc : ∀ k, k < xs.length → ∀ W, Calls Tryz.prog k0 #[.int .i64 (xs.getD k 0), .int .i64 (ys.getD k 0)] W fun e w' => e = .returned (.int .i64 (f k)) ∧ W = w') :
    Calls Tryz.prog 47 #[.slice A xs.length cap, .slice D ys.length dap, .func (.func k0) #[] #[]] w (RetIB w (tab xs.length f) true) := by
  have HW := Lib.hid (St.start w)
  have HA := Lib.hid (areVecI_any A xs cap D ys dap w h g hx hy)
  rw [hf] at HA
  obtain ⟨f1, f2, f3⟩ := fitV_yes hf
  have h5 := (isVec_yes f1).1
  have HC := Lib.hid hc
  have hln := tab_length xs.length f
  obtain ⟨m, hm⟩ : ∃ m, xs.length = m := ⟨_, rfl⟩
  rw [hm] at HA h5 hln HC f3 ⊢
  have hm2 := f3.symm
  rw [hm2] at HA ⊢
  have HX := Lib.hid hm
  have HY := Lib.hid hm2
  have HLN := Lib.hid hln
  clear hf hc f1 f2 f3 hm hm2 hln hx hy
  obtain ⟨i0, hi, hi0, hi1, hi2⟩ := info_parts info_int
  go_enter Tryz.func47, Tryz.ntmps47
  go_wp2_with (first
    | (go_at_call 56; refine HA.out.mono ?_; rintro e w' ⟨rfl, rfl⟩)
    | (refine wpList_make_full _ rfl _ _ _ rfl w.heap.size 3 i0 (.int .i64 0) 1 Tryz.underlying24 hi hi0 hi1 .i64 .i64 _ _ m rfl rfl rfl rfl (by rw [hi2]; omega) (by unfold maxLen; omega) (by simp) ?_; intro w1 hown1 hg1))
  rw [zeros] at hown1
  have HS1 := Lib.hid (show St w _ [il (.slice (some ⟨w.heap.size, 0, none⟩) m m) m (List.replicate m 0)] from (HW.out.new ((Below.refl _ _).grown hg1 (Nat.le_refl _) (by simp)) hown1))
  clear hown1 hg1 hi hi0 hi1 hi2
  go_loopw [20] (fun i wr => ∃ (j : Nat) (zs : List Int), i = .int .i64 j ∧ j ≤ m ∧ zs.length = m ∧ zs.take j = tab j f ∧ St w wr [il (.slice (some ⟨w.heap.size, 0, none⟩) m m) m zs]) (fun i _ => m - (intOf i).toNat)
  case atStart => exact ⟨0, _, rfl, Nat.zero_le _, by simp, by simp [tab], HS1.out⟩
  case round =>
    obtain ⟨j, zs, rfl, hj, hy, ht, hS⟩ := hrel
    have HL := Lib.hid hy
    have HT := Lib.hid ht
    have HR := Lib.hid hS
    by_cases hlt : j < m
    · obtain ⟨c1, c2⟩ := hS.cellI (i := 0) rfl hlt
      obtain ⟨b, off, rfl, hbl, hcx⟩ := (h.out.below hS.base).at_ (k := j) (by rw [HX.out]; exact hlt)
      obtain ⟨b', off', rfl, hbl', hcy⟩ := (g.out.below hS.base).at_ (k := j) (by rw [HY.out]; exact hlt)
      have hcall := Lib.hid (HC.out j hlt)
      have hj0 : (0 : Int) ≤ (j : Int) := by omega
      have hjn : (j : Int) < (m : Int) := by omega
      generalize xs.getD j 0 = x at hcx hcall
      generalize ys.getD j 0 = y at hcy hcall
      generalize hz : f j = z at hcall
      have HZ := Lib.hid hz
      clear hS hy ht hz
      go_wp2_with (go_at_fn k0; refine (hcall.out _).mono ?_; rintro e w' ⟨rfl, rfl⟩)
      have hS2 := HR.out.setI (i := 0) rfl j z
      have HS2 := Lib.hid hS2
      clear hS2
      go_roundw
      case rel => exact ⟨j + 1, zs.set j z, by go_num, by omega, by rw [List.length_set]; exact HL.out, by rw [← HZ.out]; exact tab_set f HL.out HT.out hlt, HS2.out⟩
      case measure => simp [intOf]; omega
    · obtain rfl : j = m := by omega
      have hjn : ¬ (j : Int) < (j : Int) := by omega
      have e1 : zs = tab j f := by rw [← ht, List.take_of_length_le (by omega)]
      subst e1
      clear hS hy ht HL HT
      go_wp2
      go_ret2
      exact ⟨some ⟨w.heap.size, 0, none⟩, j, by rw [HLN.out]; rfl, by rw [HLN.out]; exact HR.out.ownI (i := 0) rfl, HR.out.base⟩

end


end Go.Proofs.YtlbefommcahkeaaGreatDoor.C

namespace Go.Proofs.YtlbefommcahkeaaGreatDoor.C
open Go.RowKit K M
set_option linter.unusedVariables false
set_option linter.unusedSimpArgs false
set_option linter.unusedSectionVars false

theorem small_first {ws : List Int} (h : ¬ ∀ k, k < ws.length → -100 ≤ ws.getD k 0 ∧ ws.getD k 0 ≤ 100) : ∃ j, j < ws.length ∧ (ws.getD j 0 < -100 ∨ 100 < ws.getD j 0) ∧ ∀ k, k < j → -100 ≤ ws.getD k 0 ∧ ws.getD k 0 ≤ 100 := by
  have key : ∀ c, (∀ k, k < c → -100 ≤ ws.getD k 0 ∧ ws.getD k 0 ≤ 100) ∨ ∃ j, j < c ∧ (ws.getD j 0 < -100 ∨ 100 < ws.getD j 0) ∧ ∀ k, k < j → -100 ≤ ws.getD k 0 ∧ ws.getD k 0 ≤ 100 := by
    intro c
    induction c with
    | zero => exact .inl fun k hk => absurd hk (by omega)
    | succ c ih =>
      rcases ih with h1 | ⟨j, hj, hb, hv⟩
      · by_cases hc : -100 ≤ ws.getD c 0 ∧ ws.getD c 0 ≤ 100
        · exact .inl fun k hk => by
            by_cases e : k = c
            · subst e; exact hc
            · exact h1 k (by omega)
        · exact .inr ⟨c, by omega, by omega, h1⟩
      · exact .inr ⟨j, by omega, hb, hv⟩
  rcases key ws.length with h1 | h1
  · exact absurd h1 h
  · exact h1
theorem small_no {ws : List Int} {j : Nat} (hj : j < ws.length) (hb : ws.getD j 0 < -100 ∨ 100 < ws.getD j 0) : small ws = false := by
  cases h : small ws
  · rfl
  · have := small_at h hj
    omega
theorem withinI_small (A : Option Addr) (ws : List Int) (cap : Nat) (w : World) (h : Hid (Ints w w.heap.size A ws)) (hl : ws.length ≤ 1048576) :
    Calls Tryz.prog 46 #[.int .i64 100, .slice A ws.length cap] w fun e w' => e = .returned (.bool (small ws)) ∧ w = w' := by
  by_cases hv : ∀ k, k < ws.length → -100 ≤ ws.getD k 0 ∧ ws.getD k 0 ≤ 100
  · rw [small_mk hv]
    exact withinI_yes 100 A ws cap w h (by decide) (by decide) hl hv
  · obtain ⟨j, hj, hb, hk⟩ := small_first hv
    rw [small_no hj hb]
    exact withinI_no 100 A ws cap w h (by decide) (by decide) hl j hj hb hk


section

variable (n : Int) (F : Option Addr) (fs : List Int) (fap : Nat) (A : Option Addr) (xs : List Int) (cap : Nat) (D : Option Addr) (ys : List Int) (dap : Nat) (w : World) (hf0 : Hid (Ints w w.heap.size F fs)) (h : Hid (Ints w w.heap.size A xs)) (g : Hid (Ints w w.heap.size D ys)) (hx : xs.length ≤ 1048576) (hy : ys.length ≤ 1048576)
include hf0 h g hx hy
set_option maxRecDepth 100000 in
set_option maxHeartbeats 1600000 in
theorem convatI_small (hs : (small xs && small ys) = false) : Calls Tryz.prog 12 #[.agg #[.int .i64 n, .slice F fs.length fap], .slice A xs.length cap, .slice D ys.length dap] w (RetV w (.bool false)) := by
  have HW := Lib.hid (St.start w)
  have HS := Lib.hid (HW.out.alloc [.int .i64 n, .slice F fs.length fap] 26)
  have H1 := Lib.hid (fun W h1 => withinI_small A xs cap W (Lib.hid h1) hx)
  have H2 := Lib.hid (fun W h1 => withinI_small D ys dap W (Lib.hid h1) hy)
  cases e1 : small xs
  · rw [e1] at H1
    clear hs
    go_enter Tryz.func12, Tryz.ntmps12
    go_wp2_with (go_at_call 46; refine (H1.out _ ((h.out.below HS.out.base).mono HS.out.size)).mono ?_; rintro e w' ⟨rfl, rfl⟩)
    go_ret
    exact ⟨rfl, HS.out.base⟩
  · rw [e1] at H1 hs
    rw [Bool.true_and] at hs
    rw [hs] at H2
    clear hs
    go_enter Tryz.func12, Tryz.ntmps12
    go_wp2_with fail
    refine (H1.out _ ((h.out.below HS.out.base).mono HS.out.size)).mono ?_
    rintro e w' ⟨rfl, rfl⟩
    go_wp2_with fail
    refine (H2.out _ ((g.out.below HS.out.base).mono HS.out.size)).mono ?_
    rintro e w' ⟨rfl, rfl⟩
    go_wp2
    go_ret
    exact ⟨rfl, HS.out.base⟩

set_option maxRecDepth 100000 in
set_option maxHeartbeats 1600000 in
theorem convatI_fit (hs : (small xs && small ys) = true) (hf : fitV xs ys = false) : Calls Tryz.prog 12 #[.agg #[.int .i64 n, .slice F fs.length fap], .slice A xs.length cap, .slice D ys.length dap] w (RetV w (.bool false)) := by
  have HW := Lib.hid (St.start w)
  have HS := Lib.hid (HW.out.alloc [.int .i64 n, .slice F fs.length fap] 26)
  have H1 := Lib.hid (fun W h1 => withinI_small A xs cap W (Lib.hid h1) hx)
  have H2 := Lib.hid (fun W h1 => withinI_small D ys dap W (Lib.hid h1) hy)
  have HC := Lib.hid (fun W h1 h2 => combI_no A xs cap D ys dap W (Lib.hid h1) (Lib.hid h2) hx hy (.func (.func 48) #[] #[]) hf)
  obtain ⟨e1, e2⟩ := Bool.and_eq_true_iff.1 hs
  rw [e1] at H1
  rw [e2] at H2
  clear hs hf e1 e2
  go_enter Tryz.func12, Tryz.ntmps12
  go_wp2_with fail
  refine (H1.out _ ((h.out.below HS.out.base).mono HS.out.size)).mono ?_
  rintro e w' ⟨rfl, rfl⟩
  go_wp2_with fail
  refine (H2.out _ ((g.out.below HS.out.base).mono HS.out.size)).mono ?_
  rintro e w' ⟨rfl, rfl⟩
  go_wp2_with ((go_at_call 47; refine (HC.out _ ((h.out.below HS.out.base).mono HS.out.size) ((g.out.below HS.out.base).mono HS.out.size)).mono ?_; rintro e w2 ⟨V, c, rfl, ho, hb⟩; have HS2 := Lib.hid (HS.out.newI hb ho); clear ho hb))
  go_ret
  exact ⟨rfl, HS2.out.base⟩

set_option maxRecDepth 100000 in
set_option maxHeartbeats 6400000 in
theorem convatI_yes (hs : (small xs && small ys) = true) (hf : fitV xs ys = true) : Calls Tryz.prog 12 #[.agg #[.int .i64 n, .slice F fs.length fap], .slice A xs.length cap, .slice D ys.length dap] w (RetV w (.bool (convAt n fs xs ys))) := by
  have HW := Lib.hid (St.start w)
  have HS := Lib.hid (HW.out.alloc [.int .i64 n, .slice F fs.length fap] 26)
  have H1 := Lib.hid (fun W h1 => withinI_small A xs cap W (Lib.hid h1) hx)
  have H2 := Lib.hid (fun W h1 => withinI_small D ys dap W (Lib.hid h1) hy)
  obtain ⟨e1, e2⟩ := Bool.and_eq_true_iff.1 hs
  obtain ⟨f1, f2, f3⟩ := fitV_yes hf
  have v1 := (isVec_yes f1).2
  have v2 := (isVec_yes f2).2
  have hsm : ∀ k, k < xs.length → (-100 ≤ xs.getD k 0 ∧ xs.getD k 0 ≤ 100) ∧ (-100 ≤ ys.getD k 0 ∧ ys.getD k 0 ≤ 100) := fun k hk => ⟨small_at e1 hk, small_at e2 (by omega)⟩
  rw [e1] at H1
  rw [e2] at H2
  have HC := Lib.hid (fun W h1 h2 => combI_yes A xs cap D ys dap W (Lib.hid h1) (Lib.hid h2) hx hy 48 (enters_of Tryz.func48 (by kernel_rfl) rfl) (fun k => xs.getD k 0 + ys.getD k 0) hf fun k hk W => plusI _ _ W (v1 k hk) (v2 k (by omega)))
  have haf : addV xs ys = tab xs.length fun k => xs.getD k 0 + ys.getD k 0 := rfl
  rw [← haf] at HC
  have hal := addV_len xs ys
  have E1 := Lib.hid (fun W h1 h2 => extI_any n F fs fap A xs cap W (Lib.hid h1) (Lib.hid h2) hx)
  have E2 := Lib.hid (fun W h1 h2 => extI_any n F fs fap D ys dap W (Lib.hid h1) (Lib.hid h2) hy)
  have E3 := Lib.hid (fun W E c h1 h2 => extI_any n F fs fap E (addV xs ys) c W (Lib.hid h1) (Lib.hid h2) (by rw [hal]; exact hx))
  have hq := conv_val (n := n) (fs := fs) hf hsm
  obtain ⟨q1, q2⟩ := conv_same (n := n) (fs := fs) hf hsm
  have HFN := Lib.hid (fun hh => extAt_fn (n := n) (fs := fs) (ws := xs) hh)
  have B1 := extAt_bd n fs xs
  have B2 := extAt_bd n fs ys
  have B3 := extAt_bd n fs (addV xs ys)
  obtain ⟨a, one, a1⟩ : ∃ a b, extAt n fs xs = (a, b) := ⟨_, _, rfl⟩
  obtain ⟨b, two, a2⟩ : ∃ a b, extAt n fs ys = (a, b) := ⟨_, _, rfl⟩
  obtain ⟨c, three, a3⟩ : ∃ a b, extAt n fs (addV xs ys) = (a, b) := ⟨_, _, rfl⟩
  rw [a1] at E1 hq q1 q2 HFN B1
  rw [a2] at E2 hq q1 B2
  rw [a3] at E3 hq q2 B3
  dsimp only at E1 E2 E3 hq q1 q2 HFN B1 B2 B3
  rw [hal] at E3
  have HAL := Lib.hid hal
  generalize addV xs ys = zs at *
  subst q1 q2
  generalize convAt n fs xs ys = q at *
  obtain ⟨m, hm⟩ : ∃ m, xs.length = m := ⟨_, rfl⟩
  rw [hm] at H1 HC E1 E3 HAL ⊢
  have HQ0 := Lib.hid hq
  clear hs hf e1 e2 f1 f2 f3 v1 v2 hsm haf hal a1 a2 a3 hm hq
  go_enter Tryz.func12, Tryz.ntmps12
  go_wp2_with fail
  refine (H1.out _ ((h.out.below HS.out.base).mono HS.out.size)).mono ?_
  rintro e w' ⟨rfl, rfl⟩
  go_wp2_with fail
  refine (H2.out _ ((g.out.below HS.out.base).mono HS.out.size)).mono ?_
  rintro e w' ⟨rfl, rfl⟩
  go_wp2_with ((go_at_call 47; refine (HC.out _ ((h.out.below HS.out.base).mono HS.out.size) ((g.out.below HS.out.base).mono HS.out.size)).mono ?_; rintro e w2 ⟨V, cc, rfl, ho, hb⟩; rw [HAL.out] at ho ⊢; have hS2 := HS.out.newI hb ho; rw [HAL.out] at hS2; obtain ⟨b0, -⟩ := hS2.box (i := 1) rfl; have d00 := b0 0 _ rfl; have d01 := b0 1 _ rfl; have HS2 := Lib.hid hS2; clear ho hb hS2 b0))
  refine (E1.out _ ((hf0.out.below HS2.out.base).mono HS2.out.size) ((h.out.below HS2.out.base).mono HS2.out.size)).mono ?_
  rintro e w3 ⟨rfl, hb⟩
  have hS3 := HS2.out.below hb
  obtain ⟨b0, -⟩ := hS3.box (i := 1) rfl
  have f00 := b0 0 _ rfl
  have f01 := b0 1 _ rfl
  have HS3 := Lib.hid hS3
  clear b0 hS3 hb d00 d01
  go_wp2_with fail
  refine (E2.out _ ((hf0.out.below HS3.out.base).mono HS3.out.size) ((g.out.below HS3.out.base).mono HS3.out.size)).mono ?_
  rintro e w4 ⟨rfl, hb⟩
  have hS4 := HS3.out.below hb
  obtain ⟨b0, -⟩ := hS4.box (i := 1) rfl
  have d00 := b0 0 _ rfl
  have d01 := b0 1 _ rfl
  have HS4 := Lib.hid hS4
  clear b0 hS4 hb f00 f01
  go_wp2_with fail
  refine (E3.out _ _ _ ((hf0.out.below HS4.out.base).mono HS4.out.size) (HS4.out.ints (i := 0) rfl)).mono ?_
  rintro e w5 ⟨rfl, hb⟩
  have hS5 := HS4.out.below hb
  obtain ⟨b0, -⟩ := hS5.box (i := 1) rfl
  have f00 := b0 0 _ rfl
  have f01 := b0 1 _ rfl
  have HS5 := Lib.hid hS5
  clear b0 hS5 hb d00 d01
  have hq := HQ0.out
  clear HQ0
  cases three
  · have HQ := Lib.hid (show q = false by rw [hq]; rfl)
    clear hq
    go_wp2
    go_ret
    exact ⟨by rw [HQ.out]; rfl, HS5.out.base⟩
  · have hfl := isFn_len (HFN.out rfl)
    obtain ⟨fb, fo, rfl, hfb, hfc⟩ := hf0.out.at_ (k := 0) (by omega)
    have hf1 : (0 : Int) < (fs.length : Int) := by omega
    have hfv := (isFn_yes (HFN.out rfl)).2.2.2 0 (by omega)
    generalize fs.getD 0 0 = x0 at hfc hfv hq
    have hw1 : IntKind.i64.wrap (c + x0) = c + x0 := IntWalk.i64_in _ (by omega)
    have hw2 : IntKind.i64.wrap (a + b) = a + b := IntWalk.i64_in _ (by omega)
    have hfc' := (HS5.out.base.cell (p := ⟨fb, fo + 0, none⟩) hfb).trans hfc
    rw [Nat.add_zero] at hfc'
    have HQ := Lib.hid hq
    clear hq hfc
    by_cases hle : c + x0 ≤ a + b
    · go_wp2
      go_ret
      exact ⟨by rw [HQ.out, decide_eq_true hle]; rfl, HS5.out.base⟩
    · go_wp2
      go_ret
      exact ⟨by rw [HQ.out]; rfl, HS5.out.base⟩

theorem convatI_any : Calls Tryz.prog 12 #[.agg #[.int .i64 n, .slice F fs.length fap], .slice A xs.length cap, .slice D ys.length dap] w (RetV w (.bool (convAt n fs xs ys))) := by
  cases hs : small xs && small ys
  · have e : convAt n fs xs ys = false := by
      unfold convAt
      cases h1 : small xs
      · simp
      · cases h2 : small ys
        · simp
        · rw [h1, h2] at hs
          cases hs
    rw [e]
    exact convatI_small n F fs fap A xs cap D ys dap w hf0 h g hx hy hs
  · cases hf : fitV xs ys
    · rw [conv_nofit2 hf]
      exact convatI_fit n F fs fap A xs cap D ys dap w hf0 h g hx hy hs hf
    · exact convatI_yes n F fs fap A xs cap D ys dap w hf0 h g hx hy hs hf

end


end Go.Proofs.YtlbefommcahkeaaGreatDoor.C

namespace Go.Proofs.YtlbefommcahkeaaGreatDoor.C
open Go.RowKit K M
set_option linter.unusedVariables false
set_option linter.unusedSimpArgs false


section

variable (A : Option Addr) (xs : List Int) (cap : Nat) (D : Option Addr) (ys : List Int) (dap : Nat) (w : World) (h : Hid (Ints w w.heap.size A xs)) (g : Hid (Ints w w.heap.size D ys)) (hx : xs.length ≤ 1048576) (hy : ys.length ≤ 1048576)
include h g hx hy
theorem leastI_any : Calls Tryz.prog 24 #[.slice A xs.length cap, .slice D ys.length dap] w (RetIB w (leastV xs ys).1 (leastV xs ys).2) := by
  have HC : Hid (Calls Tryz.prog 47 #[.slice A xs.length cap, .slice D ys.length dap, .func (.func 65) #[] #[]] w (RetIB w (leastV xs ys).1 (leastV xs ys).2)) := by
    unfold leastV
    cases hf : fitV xs ys
    · exact combI_no A xs cap D ys dap w h g hx hy _ hf
    · exact combI_yes A xs cap D ys dap w h g hx hy 65 (enters_of Tryz.func65 (by kernel_rfl) rfl) (fun k => min (xs.getD k 0) (ys.getD k 0)) hf fun k _ W => lesserI _ _ W
  generalize (leastV xs ys).1 = zs at HC ⊢
  generalize (leastV xs ys).2 = z at HC ⊢
  go_enter Tryz.func24, Tryz.ntmps24
  go_wp2_with (go_at_call 47; refine HC.out.mono ?_; rintro e w' ⟨V, c, rfl, ho, hb⟩; have HO := Lib.hid ho; have HB := Lib.hid hb; clear ho hb)
  go_ret2
  exact ⟨V, c, rfl, HO.out, HB.out⟩

theorem greatI_any : Calls Tryz.prog 26 #[.slice A xs.length cap, .slice D ys.length dap] w (RetIB w (greatV xs ys).1 (greatV xs ys).2) := by
  have HC : Hid (Calls Tryz.prog 47 #[.slice A xs.length cap, .slice D ys.length dap, .func (.func 66) #[] #[]] w (RetIB w (greatV xs ys).1 (greatV xs ys).2)) := by
    unfold greatV
    cases hf : fitV xs ys
    · exact combI_no A xs cap D ys dap w h g hx hy _ hf
    · exact combI_yes A xs cap D ys dap w h g hx hy 66 (enters_of Tryz.func66 (by kernel_rfl) rfl) (fun k => max (xs.getD k 0) (ys.getD k 0)) hf fun k _ W => greaterI _ _ W
  generalize (greatV xs ys).1 = zs at HC ⊢
  generalize (greatV xs ys).2 = z at HC ⊢
  go_enter Tryz.func26, Tryz.ntmps26
  go_wp2_with (go_at_call 47; refine HC.out.mono ?_; rintro e w' ⟨V, c, rfl, ho, hb⟩; have HO := Lib.hid ho; have HB := Lib.hid hb; clear ho hb)
  go_ret2
  exact ⟨V, c, rfl, HO.out, HB.out⟩

end


end Go.Proofs.YtlbefommcahkeaaGreatDoor.C
