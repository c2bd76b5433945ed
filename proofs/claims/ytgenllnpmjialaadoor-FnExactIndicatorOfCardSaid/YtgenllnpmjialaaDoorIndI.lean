/-
  The contract of impl.IndicatorOf.
-/
import Derived.Test.YtgenllnpmjialaaDoorExLe
import Derived.Test.YtgenllnpmjialaaDoorEls
import Derived.Test.YtgenllnpmjialaaDoorWsM
namespace Go.Proofs.YtgenllnpmjialaaDoor.C
open Go.RowKit K M
set_option linter.unusedVariables false
set_option linter.unusedSimpArgs false

/-- The places of the first k listed elements are marked. -/
def marks (es : List Int) (m : Nat) : Nat → List Int
  | 0 => List.replicate m 0
  | k + 1 => (marks es m k).set (es.getD k 0).toNat 1
theorem marks_len (es : List Int) (m : Nat) : ∀ k, (marks es m k).length = m
  | 0 => List.length_replicate
  | k + 1 => by rw [marks, List.length_set, marks_len es m k]
theorem marks_all : ∀ m : Nat, m < 6 → ∀ S : Nat, S < 2 ^ m → marks (els S) m (els S).length = tab m fun i => if S.testBit i = true then 1 else 0 := by decide +kernel

theorem isCountN_yes (z : Int) (w : World) (h0 : 0 ≤ z) (h1 : z ≤ 5) : Calls Tryd.prog 23 #[.int .i64 z] w fun e w' => e = .returned (.bool true) ∧ w = w' := by
  go_enter Tryd.func23, Tryd.ntmps23
  go_wp2
  go_ret
  exact ⟨rfl, rfl⟩

theorem isCountN_no (z : Int) (w : World) (h : z < 0 ∨ 5 < z) : Calls Tryd.prog 23 #[.int .i64 z] w fun e w' => e = .returned (.bool false) ∧ w = w' := by
  by_cases h0 : z < 0
  · clear h
    go_enter Tryd.func23, Tryd.ntmps23
    go_wp2
    go_ret
    exact ⟨rfl, rfl⟩
  · have h1 : 0 ≤ z := by omega
    have h2 : 5 < z := by omega
    have h3 : decide (z ≤ 5) = false := by simpa using h2
    clear h
    go_enter Tryd.func23, Tryd.ntmps23
    go_wp2
    go_ret
    exact ⟨rfl, rfl⟩

theorem indI_num (n s : Int) (w : World) (hn : n < 0 ∨ 5 < n) : Calls Tryd.prog 7 #[.int .i64 n, .int .i64 s] w (RetIB w [] false) := by
  have HN := Lib.hid hn
  clear hn
  go_enter Tryd.func7, Tryd.ntmps7
  go_wp2_with (go_at_call 23; refine (isCountN_no n _ HN.out).mono ?_; rintro e w' ⟨rfl, rfl⟩)
  go_ret2
  exact ⟨none, 0, rfl, K.Own.nil _ _, Below.refl _ _⟩

theorem indI_set (n s : Int) (w : World) (h0 : 0 ≤ n) (h5 : n ≤ 5) (hs : isSet n s = false) : Calls Tryd.prog 7 #[.int .i64 n, .int .i64 s] w (RetIB w [] false) := by
  have HN := Lib.hid hs
  clear hs
  go_enter Tryd.func7, Tryd.ntmps7
  go_wp2_with (first | (go_at_call 23; refine (isCountN_yes n _ h0 h5).mono ?_; rintro e w' ⟨rfl, rfl⟩) | (go_at_call 24; refine (isOf_no s n _ h0 (by omega) HN.out).mono ?_; rintro e w' ⟨rfl, rfl⟩))
  go_ret2
  exact ⟨none, 0, rfl, K.Own.nil _ _, Below.refl _ _⟩

set_option maxRecDepth 100000 in
set_option maxHeartbeats 1600000 in
theorem indI_yes (n s : Int) (w : World) (h0 : 0 ≤ n) (h5 : n ≤ 5) (hs : isSet n s = true) (hb : Hid (Brujn w)) : Calls Tryd.prog 7 #[.int .i64 n, .int .i64 s] w (RetIB w (tab n.toNat fun i => if s.toNat.testBit i = true then 1 else 0) true) := by
  obtain ⟨q1, q2⟩ := isSet_yes hs
  have HW := Lib.hid (St.start w)
  have HN := Lib.hid hs
  obtain ⟨m, rfl⟩ := Int.eq_ofNat_of_zero_le h0
  obtain ⟨S, rfl⟩ := Int.eq_ofNat_of_zero_le q1
  rw [Int.toNat_natCast] at q2 ⊢
  rw [Int.toNat_natCast]
  have hm5 : m ≤ 5 := by omega
  have hS : S < 2 ^ m := by
    have e : ((2 ^ m : Nat) : Int) = (2 : Int) ^ m := by simp
    omega
  have hS32 : S < 1024 := Nat.lt_of_lt_of_le hS (Nat.le_trans (Nat.pow_le_pow_right (by decide) hm5) (by decide))
  rw [← marks_all m (by omega) S hS]
  have HE := Lib.hid (fun W hb => listI_any S W hS32 hb)
  have hat := Lib.hid (fun k (hk : k < (els S).length) => els_at S m hS hk)
  have hel := els_len S
  have HML := Lib.hid (fun k => marks_len (els S) m k)
  have HM0 := Lib.hid (show marks (els S) m 0 = List.replicate m 0 from rfl)
  have HMS := Lib.hid (fun k => show marks (els S) m (k + 1) = (marks (els S) m k).set ((els S).getD k 0).toNat 1 from rfl)
  generalize marks (els S) m = G at *
  generalize els S = es at *
  obtain ⟨l, hl⟩ : ∃ l, es.length = l := ⟨_, rfl⟩
  rw [hl] at hat hel ⊢
  have HL := Lib.hid hl
  clear hs hS hl q1 q2
  obtain ⟨i0, hi, hi0, hi1, hi2⟩ := info_parts info_int
  go_enter Tryd.func7, Tryd.ntmps7
  go_wp2_with (first
    | (go_at_call 23; refine (isCountN_yes _ _ h0 h5).mono ?_; rintro e w' ⟨rfl, rfl⟩)
    | (go_at_call 24; refine (isOf_yes _ _ _ h0 (by omega) HN.out).mono ?_; rintro e w' ⟨rfl, rfl⟩)
    | (refine wpList_make_full _ rfl _ _ _ rfl w.heap.size 3 i0 (.int .i64 0) 1 Tryd.underlying22 hi hi0 hi1 .i64 .i64 _ _ m rfl rfl rfl rfl (by rw [hi2]; omega) (by unfold maxLen; omega) (by simp) ?_; intro w1 hown1 hg1))
  rw [zeros] at hown1
  have hS1 : St w w1 [il (.slice (some ⟨w.heap.size, 0, none⟩) m m) m (List.replicate m 0)] := HW.out.new ((Below.refl _ _).grown hg1 (Nat.le_refl _) (by simp)) hown1
  have HS1 := Lib.hid hS1
  clear hown1 hg1 hi hi0 hi1 hi2 hS1
  go_wp2_with fail
  refine (HE.out _ (Lib.hid (brujn_on hb.out HS1.out.base))).mono ?_
  rintro e w2 ⟨V, cc, rfl, ho, hb1⟩
  rw [HL.out] at ho ⊢
  have hS2 := HS1.out.newI hb1 ho
  rw [HL.out] at hS2
  have HS2 := Lib.hid hS2
  clear ho hb1 hS2
  go_wp2
  go_loopw [23] (fun i wr => ∃ k : Nat, i = .int .i64 k ∧ k ≤ l ∧ St w wr [il (.slice V l cc) l es, il (.slice (some ⟨w.heap.size, 0, none⟩) m m) m (G k)]) (fun i _ => l - (intOf i).toNat)
  case atStart => exact ⟨0, rfl, Nat.zero_le _, by rw [HM0.out]; exact HS2.out⟩
  case round =>
    obtain ⟨k, rfl, hk, hS⟩ := hrel
    by_cases hlt : k < l
    · obtain ⟨b, off, rfl, hbl, hc0⟩ := (hS.ints (i := 0) rfl).at_ (k := k) (by rw [HL.out]; exact hlt)
      obtain ⟨g1, g2⟩ := hat.out k hlt
      have hG := HMS.out k
      obtain ⟨E, hE⟩ : ∃ E : Nat, es.getD k 0 = (E : Int) := ⟨_, (Int.toNat_of_nonneg g1).symm⟩
      rw [hE] at hc0 g1 g2 hG
      rw [Int.toNat_natCast] at hG
      have hEm : E < m := by omega
      obtain ⟨c1, c2⟩ := hS.cellI (i := 1) rfl hEm
      have hk0 : (0 : Int) ≤ (k : Int) := by omega
      have hkl : (k : Int) < (l : Int) := by omega
      have hE0 : (0 : Int) ≤ (E : Int) := by omega
      have hEi : (E : Int) < (m : Int) := by omega
      have HG := Lib.hid hG
      have HR := Lib.hid hS
      clear hS hG hE g1 g2
      go_wp2
      have hS2 := HR.out.setI (i := 1) rfl E 1
      have HS3 := Lib.hid hS2
      clear hS2
      go_roundw
      case rel => exact ⟨k + 1, by go_num, by omega, by rw [HG.out]; exact HS3.out⟩
      case measure => simp [intOf]; omega
    · obtain rfl : k = l := by omega
      have hkl : ¬ (k : Int) < (k : Int) := by omega
      have hgl := HML.out k
      have HR := Lib.hid hS
      clear hS
      go_wp2
      go_ret2
      exact ⟨some ⟨w.heap.size, 0, none⟩, m, by rw [hgl]; rfl, by rw [hgl]; exact HR.out.ownI (i := 1) rfl, HR.out.base⟩

theorem indI_any (n s : Int) (w : World) (hb : Hid (Brujn w)) : Calls Tryd.prog 7 #[.int .i64 n, .int .i64 s] w (RetIB w (indOf n s).1 (indOf n s).2) := by
  unfold indOf
  by_cases hn : 0 ≤ n ∧ n ≤ 5
  · cases hs : isSet n s
    · rw [if_neg (fun hh => by simp at hh)]
      exact indI_set n s w hn.1 hn.2 hs
    · rw [if_pos ⟨hn.1, hn.2, rfl⟩]
      exact indI_yes n s w hn.1 hn.2 hs hb
  · rw [if_neg (fun hh => hn ⟨hh.1, hh.2.1⟩)]
    exact indI_num n s w (by omega)

end Go.Proofs.YtgenllnpmjialaaDoor.C
