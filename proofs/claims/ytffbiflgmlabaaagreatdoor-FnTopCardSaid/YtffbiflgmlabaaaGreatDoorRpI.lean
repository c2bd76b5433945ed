/-
  The contracts of the library's bits.Mul of one and a small number, and of slices.Repeat of one number.
-/
import Derived.Test.YtffbiflgmlabaaaGreatDoorImA
import Derived.Test.YtffbiflgmlabaaaGreatDoorAllM
import Derived.StillTailTactics
namespace Go.Proofs.YtffbiflgmlabaaaGreatDoor.C
open Go.RowKit K M
set_option linter.unusedVariables false
set_option linter.unusedSimpArgs false
set_option linter.unusedSectionVars false

set_option maxRecDepth 100000 in
set_option maxHeartbeats 1600000 in
theorem mul64_one (x : Int) (w : World) (hx : x = 0 ∨ x = 1 ∨ x = 2 ∨ x = 3 ∨ x = 4 ∨ x = 5) : Calls Tryz.prog 86 #[.int .u64 1, .int .u64 x] w fun e w' => e = .returned (.tuple #[.int .u64 0, .int .u64 x]) ∧ w = w' := by
  rcases hx with rfl | rfl | rfl | rfl | rfl | rfl
  all_goals go_enter Tryz.func86, Tryz.ntmps86
  all_goals go_wp2
  all_goals exact bodyPost_ret (v := .tuple #[.int .u64 0, .int .u64 _]) (by simp [results, Tryz.results86, go_sem] <;> decide +kernel) rfl ⟨rfl, rfl⟩

theorem mul_one (x : Int) (w : World) (hx : x = 0 ∨ x = 1 ∨ x = 2 ∨ x = 3 ∨ x = 4 ∨ x = 5) : Calls Tryz.prog 64 #[.int .u64 1, .int .u64 x] w fun e w' => e = .returned (.tuple #[.int .u64 0, .int .u64 x]) ∧ w = w' := by
  have HM := Lib.hid (mul64_one x w hx)
  clear hx
  go_enter Tryz.func64, Tryz.ntmps64
  go_wp2_with (go_at_call 86; refine HM.out.mono ?_; rintro e w' ⟨rfl, rfl⟩)
  exact bodyPost_ret (v := .tuple #[.int .u64 0, .int .u64 x]) (by simp [results, Tryz.results64, go_sem]) rfl ⟨rfl, rfl⟩

theorem rep_zs (c : Int) {k m N : Nat} (hk : k ≤ N) (hm : k + m ≤ N) : (List.replicate k c ++ List.replicate (N - k) 0).take k ++ (List.replicate m c ++ (List.replicate k c ++ List.replicate (N - k) (0 : Int)).drop (k + (List.replicate m c).length)) = List.replicate (k + m) c ++ List.replicate (N - (k + m)) 0 := by
  have e1 : (List.replicate k c ++ List.replicate (N - k) (0 : Int)).take k = List.replicate k c := by simp
  have e2 : (List.replicate k c ++ List.replicate (N - k) (0 : Int)).drop (k + (List.replicate m c).length) = List.replicate (N - (k + m)) 0 := by
    rw [List.drop_append, List.length_replicate, List.length_replicate, List.drop_of_length_le (by rw [List.length_replicate]; omega), List.drop_replicate, List.nil_append]
    congr 1
    omega
  rw [e1, e2, ← List.append_assoc, List.replicate_append_replicate]

theorem rep_at1 {c : Int} {n j : Nat} (h : j < n) : (List.replicate n c).getD j 0 = c := by
  rw [List.getD_eq_getElem?_getD, List.getElem?_replicate, if_pos h]; rfl
theorem rep_at2 {c : Int} {k d j : Nat} (h : j < k) : (List.replicate k c ++ List.replicate d 0).getD j 0 = c := by
  rw [List.getD_eq_getElem?_getD, List.getElem?_append_left (by rw [List.length_replicate]; exact h), List.getElem?_replicate, if_pos h]; rfl

set_option maxRecDepth 100000 in
set_option maxHeartbeats 4000000 in
/-- One number, again and again. -/
theorem repI_any (c : Int) (N : Nat) (hN : N ≤ 5) (D : Option Addr) (dap : Nat) (w : World) (g : Hid (Ints w w.heap.size D [c])) :
    Calls Tryz.prog 43 #[.slice D 1 dap, .int .i64 (N : Int)] w (RetI w (List.replicate N c)) := by
  have HW := Lib.hid (St.start w)
  have HM := Lib.hid (fun W => mul_one (N : Int) W (by omega))
  obtain ⟨b, off, rfl, hbl, hc0⟩ := g.out (by simp)
  have HC := Lib.hid (hc0 0 (by simp))
  have hcv : IntKind.u64.wrap (N : Int) = (N : Int) := by rw [IntKind.wrap_u64]; omega
  have hcv2 : IntKind.i64.wrap (N : Int) = (N : Int) := IntWalk.i64_in _ (by omega)
  have h1 : ¬ (N : Int) < 0 := by omega
  have h2 : ¬ (9223372036854775807 : Int) < (N : Int) := by omega
  obtain ⟨i0, hi, hi0, hi1, hi2⟩ := info_parts info_int
  have HZ := Lib.hid (fun (W : World) (hb : Below w.heap.size w W) j (hj : j < (List.replicate 1 c).length) => show W.cell? ⟨b, off + j, none⟩ = some (.int .i64 ((List.replicate 1 c).getD j 0)) from by
    obtain rfl : j = 0 := by rw [List.length_replicate] at hj; omega
    exact (hb.cell (p := ⟨b, off + 0, none⟩) hbl).trans (hc0 0 (by simp)))
  clear hc0
  go_enter Tryz.func43, Tryz.ntmps43
  rcases Nat.eq_zero_or_pos N with h0 | h0
  · subst h0
    go_wp2_with (first
      | (go_at_call 64; refine (HM.out _).mono ?_; rintro e w' ⟨rfl, rfl⟩)
      | (refine wpList_make_full _ rfl _ _ _ rfl w.heap.size 3 i0 (.int .i64 0) 1 Tryz.underlying24 hi hi0 hi1 .i64 .i64 _ _ 0 rfl rfl rfl rfl (by rw [hi2]; omega) (by unfold maxLen; omega) (by simp) ?_; intro w1 hown1 hg1; rw [zeros] at hown1; have HS1 := Lib.hid (show St w w1 [il (.slice (some ⟨w.heap.size, 0, none⟩) 0 0) 0 (List.replicate 0 0)] from (HW.out.new ((Below.refl _ _).grown hg1 (Nat.le_refl _) (by simp)) hown1)); clear hown1 hg1)
      | (refine wpList_copy_nothing rfl (.tmp 31) (.tmp 32) 24 24 rfl 3 Tryz.underlying24 (by kernel_rfl) _ _ _ _ _ _ rfl rfl rfl ?_))
    go_loopw [8] (fun n wr => n = .int .i64 0 ∧ St w wr [il (.slice (some ⟨w.heap.size, 0, none⟩) 0 0) 0 (List.replicate 0 0)]) (fun _ _ => 0)
    case atStart => exact ⟨rfl, HS1.out⟩
    case round =>
      obtain ⟨rfl, hS⟩ := hrel
      have HR := Lib.hid hS
      clear hS HS1
      go_wp2
      go_ret
      exact ⟨_, _, rfl, HR.out.ownI (i := 0) rfl, HR.out.base⟩
  · go_wp2_with (first
      | (go_at_call 64; refine (HM.out _).mono ?_; rintro e w' ⟨rfl, rfl⟩)
      | (refine wpList_make_full _ rfl _ _ _ rfl w.heap.size 3 i0 (.int .i64 0) 1 Tryz.underlying24 hi hi0 hi1 .i64 .i64 _ _ N rfl rfl rfl rfl (by rw [hi2]; omega) (by unfold maxLen; omega) (by simp) ?_; intro w1 hown1 hg1; rw [zeros] at hown1; have HS1 := Lib.hid (show St w w1 [il (.slice (some ⟨w.heap.size, 0, none⟩) N N) N (List.replicate 0 c ++ List.replicate (N - 0) 0)] from (HW.out.new ((Below.refl _ _).grown hg1 (Nat.le_refl _) (by simp)) hown1)); clear hown1 hg1)
      | (refine wpList_copyG rfl (.tmp 31) (.tmp 32) 24 rfl (k := 0) (List.replicate 1 c) Tryz.underlying24 (by kernel_rfl) HS1.out (i := 0) rfl rfl rfl (by rw [List.length_replicate]; exact (Nat.min_eq_left h0).symm) (by rw [List.length_replicate]; omega) (HZ.out _ HS1.out.base) ?_; intro w2 hS2; have HS2 := Lib.hid (rep_zs c (k := 0) (m := 1) (N := N) (by omega) (by omega) ▸ hS2); clear hS2))
    clear HS1
    go_loopw [8] (fun n wr => ∃ k : Nat, n = .int .i64 k ∧ 1 ≤ k ∧ k ≤ N ∧ St w wr [il (.slice (some ⟨w.heap.size, 0, none⟩) N N) N (List.replicate k c ++ List.replicate (N - k) 0)]) (fun n _ => N - (intOf n).toNat)
    case atStart => exact ⟨1, rfl, Nat.le_refl _, h0, HS2.out⟩
    case round =>
      obtain ⟨k, rfl, hk1, hk, hS⟩ := hrel
      have HR := Lib.hid hS
      clear hS HS2 HM hcv hcv2
      by_cases hlt : k < N
      · have hki : (k : Int) < (N : Int) := by omega
        have hk0 : (0 : Int) ≤ (k : Int) := by omega
        have hkN : (k : Int) ≤ (N : Int) := by omega
        obtain ⟨m, hm⟩ : ∃ m, Nat.min k (N - k) = m := ⟨_, rfl⟩
        have hmb : 1 ≤ m ∧ k + m ≤ N ∧ m ≤ k := by rw [← hm]; show 1 ≤ min k (N - k) ∧ k + min k (N - k) ≤ N ∧ min k (N - k) ≤ k; omega
        have hrep := rep_zs c (k := k) (m := m) (N := N) hk hmb.2.1
        have hw : IntKind.i64.wrap ((k : Int) + (m : Int)) = (k : Int) + (m : Int) := IntWalk.i64_in _ (by omega)
        have HZL := Lib.hid (show (List.replicate m c).length = Nat.min k (N - k) by rw [List.length_replicate, hm])
        have HZF := Lib.hid (show k + (List.replicate m c).length ≤ N by rw [List.length_replicate]; exact hmb.2.1)
        have HZS := Lib.hid (fun j (hj : j < (List.replicate m c).length) => show wr.drew.cell? ⟨w.heap.size, 0 + j, none⟩ = some (.int .i64 ((List.replicate m c).getD j 0)) from by
          rw [List.length_replicate] at hj
          rw [Nat.zero_add, rep_at1 (by omega), ← rep_at2 (c := c) (k := k) (d := N - k) (show j < k by omega)]
          exact (HR.out.cellI (i := 0) rfl (show j < N by omega)).1)
        have hNk : ¬ N = k := by omega
        clear hm
        go_wp2_with fail
        go_region_held3 (fun w' => True) (trivial) ((refine step_copyG (by rfl) (.tmp 41) (.tmp 44) 24 (by rfl) (g := w.heap.size) (n := N) (c := N) (k := k) (sl := k) (sc := N) (dl := N - k) (dc := N - k) (sb := w.heap.size) (so := 0) (ys := List.replicate k c ++ List.replicate (N - k) 0) (List.replicate m c) Tryz.underlying24 (by kernel_rfl) HR.out.drew (i := 0) (by rfl) (by rfl) (by rfl) HZL.out HZF.out HZS.out ?_; intro w3 hS3; have HS3 := Lib.hid (hrep ▸ hS3); clear hS3))
        go_wp2
        go_roundw
        case rel => exact ⟨k + m, by go_num, by omega, hmb.2.1, HS3.out⟩
        case measure => simp [intOf]; omega
      · obtain rfl : k = N := by omega
        have hki : ¬ (k : Int) < (k : Int) := by omega
        have e1 : List.replicate k c ++ List.replicate (k - k) 0 = List.replicate k c := by simp
        rw [e1] at HR
        go_wp2
        go_ret
        exact ⟨some ⟨w.heap.size, 0, none⟩, k, by rw [List.length_replicate]; rfl, by rw [List.length_replicate]; exact HR.out.ownI (i := 0) rfl, HR.out.base⟩

end Go.Proofs.YtffbiflgmlabaaaGreatDoor.C
