/-
  The contracts of impl.combineVectors, of what it is handed, LeastVector and GreatestVector.
-/
import Derived.Test.YtgenllnpmjialaaVxI
import Derived.Test.YtgenllnpmjialaaSt
import Derived.Deep.RegionHeld3
import Derived.Shelf.Abstract
namespace Go.Proofs.Ytgenllnpmjialaa.C
open Go.RowKit K M
set_option linter.unusedVariables false
set_option linter.unusedSimpArgs false

theorem lesserI (x y : Int) (w : World) : Calls Try.prog 38 #[.int .i64 x, .int .i64 y] w fun e w' => e = .returned (.int .i64 (min x y)) ∧ w = w' := by
  rcases Int.lt_trichotomy x y with hxy | hxy | hxy
  · rw [show min x y = x by omega]
    have h1 : x ≤ y := by omega
    have h2 : ¬ y ≤ x := by omega
    have h3 : ¬ y < x := by omega
    go_enter Try.func38, Try.ntmps38
    go_wp2
    all_goals go_ret
    all_goals exact ⟨rfl, rfl⟩
  · subst hxy
    rw [show min x x = x by omega]
    go_enter Try.func38, Try.ntmps38
    go_wp2
    all_goals go_ret
    all_goals exact ⟨rfl, rfl⟩
  · rw [show min x y = y by omega]
    have h1 : y ≤ x := by omega
    have h2 : ¬ x ≤ y := by omega
    have h3 : ¬ x < y := by omega
    go_enter Try.func38, Try.ntmps38
    go_wp2
    all_goals go_ret
    all_goals exact ⟨rfl, rfl⟩

theorem greaterI (x y : Int) (w : World) : Calls Try.prog 39 #[.int .i64 x, .int .i64 y] w fun e w' => e = .returned (.int .i64 (max x y)) ∧ w = w' := by
  rcases Int.lt_trichotomy x y with hxy | hxy | hxy
  · rw [show max x y = y by omega]
    have h1 : x ≤ y := by omega
    have h2 : ¬ y ≤ x := by omega
    have h3 : ¬ y < x := by omega
    go_enter Try.func39, Try.ntmps39
    go_wp2
    all_goals go_ret
    all_goals exact ⟨rfl, rfl⟩
  · subst hxy
    rw [show max x x = x by omega]
    go_enter Try.func39, Try.ntmps39
    go_wp2
    all_goals go_ret
    all_goals exact ⟨rfl, rfl⟩
  · rw [show max x y = x by omega]
    have h1 : y ≤ x := by omega
    have h2 : ¬ x ≤ y := by omega
    have h3 : ¬ x < y := by omega
    go_enter Try.func39, Try.ntmps39
    go_wp2
    all_goals go_ret
    all_goals exact ⟨rfl, rfl⟩

theorem plusI (x y : Int) (w : World) (hx : -1000 ≤ x ∧ x ≤ 1000) (hy : -1000 ≤ y ∧ y ≤ 1000) : Calls Try.prog 44 #[.int .i64 x, .int .i64 y] w fun e w' => e = .returned (.int .i64 (x + y)) ∧ w = w' := by
  have hw : IntKind.i64.wrap (x + y) = x + y := IntWalk.i64_in _ (by omega)
  go_enter Try.func44, Try.ntmps44
  go_wp2
  go_ret
  exact ⟨rfl, rfl⟩


section

variable (A : Option Addr) (xs : List Int) (cap : Nat) (D : Option Addr) (ys : List Int) (dap : Nat) (w : World) (h : Hid (Ints w w.heap.size A xs)) (g : Hid (Ints w w.heap.size D ys)) (hx : xs.length ≤ 1048576) (hy : ys.length ≤ 1048576)
include h g hx hy
theorem combI_no (F : Value) (hf : fitV xs ys = false) : Calls Try.prog 37 #[.slice A xs.length cap, .slice D ys.length dap, F] w (RetIB w [] false) := by
  have HA := Lib.hid (areVecI_any A xs cap D ys dap w h g hx hy)
  rw [hf] at HA
  clear hf
  go_enter Try.func37, Try.ntmps37
  go_wp2_with (go_at_call 53; refine HA.out.mono ?_; rintro e w' ⟨rfl, rfl⟩)
  go_ret2
  exact ⟨none, 0, rfl, K.Own.nil _ _, Below.refl _ _⟩

set_option maxRecDepth 100000 in
set_option maxHeartbeats 4000000 in
theorem combI_yes (k0 : Nat) (eg : ∀ args w, (callFunc k0 args).run Try.prog w = .ok (.enter k0 args) w) (f : Nat → Int) (hf : fitV xs ys = true)
    (hc : ∀ k, k < xs.length → ∀ W, Calls Try.prog k0 #[.int .i64 (xs.getD k 0), .int .i64 (ys.getD k 0)] W fun e w' => e = .returned (.int .i64 (f k)) ∧ W = w') :
    Calls Try.prog 37 #[.slice A xs.length cap, .slice D ys.length dap, .func (.func k0) #[] #[]] w (RetIB w (tab xs.length f) true) := by
  have HW := Lib.hid (St.start w)
  have HA := Lib.hid (areVecI_any A xs cap D ys dap w h g hx hy)
  rw [hf] at HA
  obtain ⟨f1, f2, f3⟩ := fitV_yes hf
  have h5 := (isVec_yes f1).1
  have HC := Lib.hid hc
  have hln := tab_length xs.length f
  obtain ⟨m, hm⟩ : ∃ m, xs.length = m := ⟨_, rfl⟩
  rw [hm] at HA h5 hln HC f3 ⊢
  have hm2 := f3.symm
  rw [hm2] at HA ⊢
  have HX := Lib.hid hm
  have HY := Lib.hid hm2
  have HLN := Lib.hid hln
  clear hf hc f1 f2 f3 hm hm2 hln hx hy
  obtain ⟨i0, hi, hi0, hi1, hi2⟩ := info_parts info_int
  go_enter Try.func37, Try.ntmps37
  go_wp2_with (first
    | (go_at_call 53; refine HA.out.mono ?_; rintro e w' ⟨rfl, rfl⟩)
    | (refine wpList_make_full _ rfl _ _ _ rfl w.heap.size 3 i0 (.int .i64 0) 1 Try.underlying24 hi hi0 hi1 .i64 .i64 _ _ m rfl rfl rfl rfl (by rw [hi2]; omega) (by unfold maxLen; omega) (by simp) ?_; intro w1 hown1 hg1))
  rw [zeros] at hown1
  have HS1 := Lib.hid (show St w _ [il (.slice (some ⟨w.heap.size, 0, none⟩) m m) m (List.replicate m 0)] from (HW.out.new ((Below.refl _ _).grown hg1 (Nat.le_refl _) (by simp)) hown1))
  clear hown1 hg1 hi hi0 hi1 hi2
  go_loopw [20] (fun i wr => ∃ (j : Nat) (zs : List Int), i = .int .i64 j ∧ j ≤ m ∧ zs.length = m ∧ zs.take j = tab j f ∧ St w wr [il (.slice (some ⟨w.heap.size, 0, none⟩) m m) m zs]) (fun i _ => m - (intOf i).toNat)
  case atStart => exact ⟨0, _, rfl, Nat.zero_le _, by simp, by simp [tab], HS1.out⟩
  case round =>
    obtain ⟨j, zs, rfl, hj, hy, ht, hS⟩ := hrel
    have HL := Lib.hid hy
    have HT := Lib.hid ht
    have HR := Lib.hid hS
    by_cases hlt : j < m
    · obtain ⟨c1, c2⟩ := hS.cellI (i := 0) rfl hlt
      obtain ⟨b, off, rfl, hbl, hcx⟩ := (h.out.below hS.base).at_ (k := j) (by rw [HX.out]; exact hlt)
      obtain ⟨b', off', rfl, hbl', hcy⟩ := (g.out.below hS.base).at_ (k := j) (by rw [HY.out]; exact hlt)
      have hcall := Lib.hid (HC.out j hlt)
      have hj0 : (0 : Int) ≤ (j : Int) := by omega
      have hjn : (j : Int) < (m : Int) := by omega
      generalize xs.getD j 0 = x at hcx hcall
      generalize ys.getD j 0 = y at hcy hcall
      generalize hz : f j = z at hcall
      have HZ := Lib.hid hz
      clear hS hy ht hz
      go_wp2_with (go_at_fn k0; refine (hcall.out _).mono ?_; rintro e w' ⟨rfl, rfl⟩)
      have hS2 := HR.out.setI (i := 0) rfl j z
      have HS2 := Lib.hid hS2
      clear hS2
      go_roundw
      case rel => exact ⟨j + 1, zs.set j z, by go_num, by omega, by rw [List.length_set]; exact HL.out, by rw [← HZ.out]; exact tab_set f HL.out HT.out hlt, HS2.out⟩
      case measure => simp [intOf]; omega
    · obtain rfl : j = m := by omega
      have hjn : ¬ (j : Int) < (j : Int) := by omega
      have e1 : zs = tab j f := by rw [← ht, List.take_of_length_le (by omega)]
      subst e1
      clear hS hy ht HL HT
      go_wp2
      go_ret2
      exact ⟨some ⟨w.heap.size, 0, none⟩, j, by rw [HLN.out]; rfl, by rw [HLN.out]; exact HR.out.ownI (i := 0) rfl, HR.out.base⟩

end


end Go.Proofs.Ytgenllnpmjialaa.C
