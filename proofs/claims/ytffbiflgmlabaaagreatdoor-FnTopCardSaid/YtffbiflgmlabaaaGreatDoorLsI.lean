/-
  The contracts of impl.leastSets and MinimumOf.
-/
import Derived.Test.YtffbiflgmlabaaaGreatDoorImA
import Derived.Test.YtffbiflgmlabaaaGreatDoorLsM
import Derived.Test.YtffbiflgmlabaaaGreatDoorFnA
import Derived.Test.YtffbiflgmlabaaaGreatDoorPtA
namespace Go.Proofs.YtffbiflgmlabaaaGreatDoor.C
open Go.RowKit K M
set_option linter.unusedVariables false
set_option linter.unusedSimpArgs false
set_option linter.unusedSectionVars false


section

variable (n : Int) (A : Option Addr) (xs : List Int) (cap : Nat) (w : World) (h : Hid (Ints w w.heap.size A xs))
include h
set_option maxRecDepth 100000 in
set_option maxHeartbeats 1600000 in
theorem leastSets_any (h0 : 0 < xs.length) (h32 : xs.length ≤ 32) : Calls Tryz.prog 46 #[.agg #[.int .i64 n, .slice A xs.length cap]] w fun e w' => ∃ b, e = .returned (.tuple #[.int .i64 (least xs), .map (some b)]) ∧ Below w.heap.size w w' ∧ w.heap.size ≤ b ∧ MapS Tryz.prog 45 w' b 32 (mset xs xs.length) := by
  have HW := Lib.hid (St.start w)
  have HFS := Lib.hid (minF_succ xs)
  have HZ := Lib.hid (mset_zero xs)
  have HL := Lib.hid (fun j (hh : xs.getD j 0 < minF xs j) => mset_less hh)
  have HE := Lib.hid (fun j (hh : xs.getD j 0 = minF xs j) => mset_same hh)
  have HG := Lib.hid (fun j (hh : minF xs j < xs.getD j 0) => mset_more hh)
  have hend : least xs = minF xs xs.length := rfl
  have hm0 := minF_zero xs
  rw [hend]
  obtain ⟨p, hp⟩ : ∃ p, xs.length = p := ⟨_, rfl⟩
  have HP := Lib.hid hp
  rw [hp] at h0 h32 ⊢
  generalize minF xs = F at *
  generalize mset xs = T at *
  obtain ⟨b, off, rfl, hbl, hc0⟩ := h.out.at_ (k := 0) (by rw [HP.out]; omega)
  rw [← hm0] at hc0
  rw [Nat.add_zero] at hc0
  have hp0 : (0 : Int) < (p : Int) := by omega
  have HS0 := Lib.hid (HW.out.alloc [.int .i64 n, .slice (some ⟨b, off, none⟩) p cap] 26)
  have HM0 := Lib.hid (MapS.made (P := Tryz.prog) (k := 45) (w.alloc (.cells #[.int .i64 n, .slice (some ⟨b, off, none⟩) p cap] 26)))
  have hmm := @run_makeMap Tryz.prog
  clear hm0 hp hend
  go_enter Tryz.func46, Tryz.ntmps46
  go_wp2
  go_loopw [4, 16] (fun v i wr => ∃ k : Nat, i = .int .i64 (k : Int) ∧ k ≤ p ∧ v = .int .i64 (F k) ∧ St w wr [bx w.heap.size 26 [.int .i64 n, .slice (some ⟨b, off, none⟩) p cap]] ∧ MapS Tryz.prog 45 wr (w.heap.size + 1) k (T k)) (fun _ i _ => p - (intOf i).toNat)
  case atStart =>
    refine ⟨0, rfl, Nat.zero_le _, rfl, HS0.out.below ((Below.refl _ _).alloc (Nat.le_refl _) _), ?_⟩
    have hM := HM0.out.congr (U := T 0) (fun x => (HZ.out x).symm)
    rw [World.size_alloc] at hM
    exact hM
  case round =>
    obtain ⟨k, rfl, hk, rfl, hS, hM⟩ := hrel
    have HR := Lib.hid hS
    have HM := Lib.hid hM
    by_cases hlt : k < p
    · obtain ⟨b', off', e', -, hc⟩ := (h.out.below hS.base).at_ (k := k) (by rw [HP.out]; omega)
      obtain ⟨rfl, rfl⟩ : b = b' ∧ off = off' := by cases e'; exact ⟨rfl, rfl⟩
      have hfs := HFS.out k
      have hl := HL.out k
      have he := HE.out k
      have hg := HG.out k
      have g1 : (0 : Int) ≤ (k : Int) := by omega
      have g2 : (k : Int) < (p : Int) := by omega
      generalize xs.getD k 0 = y at hc hfs hl he hg
      generalize hz : F (k + 1) = z at hfs
      have HZZ := Lib.hid hz
      clear hz
      have HQ : Hid (∀ q ∈ [K.bx w.heap.size 26 [.int .i64 n, .slice (some ⟨b, off, none⟩) p cap]], q.v.ownBlock ≠ some (w.heap.size + 1)) := Lib.hid (fun q hm => by rw [List.mem_singleton] at hm; subst hm; exact far_box (by omega))
      generalize F k = x at *
      clear hS hM e'
      rcases Int.lt_trichotomy y x with hxy | hxy | hxy
      · obtain rfl : z = y := by omega
        have a1 : (z == z) = true := by simp
        have HT := Lib.hid (hl hxy)
        clear hl he hg hfs
        go_wp2_with (first
          | (refine wpList_clearS _ rfl _ rfl Tryz.underlying56 HM.out rfl ?_; intro v1 w1 hM1 hg1; have HM1 := Lib.hid hM1; have HR1 := Lib.hid (HR.out.grown hg1 (by omega) HQ.out); clear hM1 hg1)
          | (at_mapUpdate; refine wpList_putS _ rfl _ _ _ rfl Tryz.underlying45 Tryz.underlying56 HM1.out (by omega) (k : Int) (by omega) rfl rfl rfl ?_; intro w2 hM2 hg2))
        have hR2 := HR1.out.grown hg2 (by omega) HQ.out
        have hM2' := (hM2.mono (m := k + 1) (by omega)).congr HT.out
        clear hM2 hg2
        go_roundw
        case rel => exact ⟨k + 1, by go_num, by omega, by rw [HZZ.out], hR2, hM2'⟩
        case measure => simp [intOf]; omega
      · subst hxy
        obtain rfl : z = y := by omega
        have a1 : (z == z) = true := by simp
        have a2 : ¬ z < z := by omega
        have HT := Lib.hid (he rfl)
        clear hl he hg hfs
        go_wp2_with (at_mapUpdate; refine wpList_putS _ rfl _ _ _ rfl Tryz.underlying45 Tryz.underlying56 HM.out (by omega) (k : Int) (by omega) rfl rfl rfl ?_; intro w2 hM2 hg2)
        have hR2 := HR.out.grown hg2 (by omega) HQ.out
        have hM2' := (hM2.mono (m := k + 1) (by omega)).congr HT.out
        clear hM2 hg2
        go_roundw
        case rel => exact ⟨k + 1, by go_num, by omega, by rw [HZZ.out], hR2, hM2'⟩
        case measure => simp [intOf]; omega
      · obtain rfl : z = x := by omega
        have a1 : (y == z) = false := by simpa using (show ¬ y = z by omega)
        have a2 : ¬ y < z := by omega
        have HT := Lib.hid (hg hxy)
        clear hl he hg hfs
        go_wp2
        go_roundw
        case rel => exact ⟨k + 1, by go_num, by omega, by rw [HZZ.out], HR.out, (HM.out.mono (m := k + 1) (by omega)).congr HT.out⟩
        case measure => simp [intOf]; omega
    · obtain rfl : k = p := by omega
      have hjn : ¬ (k : Int) < (k : Int) := by omega
      clear hS hM
      go_wp2
      go_ret2
      exact ⟨_, rfl, HR.out.base, by simp, HM.out.mono h32⟩

theorem minOfI_any : Calls Tryz.prog 19 #[.agg #[.int .i64 n, .slice A xs.length cap]] w (RetV w (.tuple #[.int .i64 (minOf n xs).1, .bool (minOf n xs).2])) := by
  have HW := Lib.hid (St.start w)
  have HS0 := Lib.hid (HW.out.alloc [.int .i64 n, .slice A xs.length cap] 26)
  unfold minOf
  cases hf : isFn n xs
  · have HF := Lib.hid hf
    clear hf
    go_enter Tryz.func19, Tryz.ntmps19
    go_wp2_with (go_at_call 29; refine (isFnI_no n A xs cap _ (Lib.hid ((h.out.below HS0.out.base).mono HS0.out.size)) HF.out).mono ?_; rintro e w3 ⟨rfl, hb⟩; have HS := Lib.hid (HS0.out.below hb); clear hb)
    go_ret2
    exact ⟨rfl, HS.out.base⟩
  · have HF := Lib.hid hf
    have hx := isFn_len hf
    have HL := Lib.hid (fun W h1 => leastSets_any n A xs cap W (Lib.hid h1) (by omega) hx.2)
    rw [if_pos rfl]
    generalize least xs = y at *
    generalize mset xs xs.length = T at *
    clear hf hx
    go_enter Tryz.func19, Tryz.ntmps19
    go_wp2_with (first
      | (go_at_call 29; refine (isFnI_yes n A xs cap _ (Lib.hid ((h.out.below HS0.out.base).mono HS0.out.size)) HF.out).mono ?_; rintro e w3 ⟨rfl, hb⟩; have hS := HS0.out.below hb; obtain ⟨b0, -⟩ := hS.box (i := 0) rfl; have b00 := b0 0 _ rfl; have b01 := b0 1 _ rfl; have HS := Lib.hid hS; clear hb hS b0)
      | (go_at_call 46; refine (HL.out _ ((h.out.below HS.out.base).mono HS.out.size)).mono ?_; rintro e w4 ⟨b, rfl, hb, -, -⟩; have HS2 := Lib.hid (HS.out.below hb); clear hb))
    go_ret2
    exact ⟨rfl, HS2.out.base⟩

end


end Go.Proofs.YtffbiflgmlabaaaGreatDoor.C
