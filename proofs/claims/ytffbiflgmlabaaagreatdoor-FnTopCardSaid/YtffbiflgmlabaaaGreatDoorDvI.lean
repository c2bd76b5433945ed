/-
  The contract of impl.DualVector.
-/
import Derived.Test.YtffbiflgmlabaaaGreatDoorRpI
import Derived.Test.YtffbiflgmlabaaaGreatDoorRvI
namespace Go.Proofs.YtffbiflgmlabaaaGreatDoor.C
open Go.RowKit K M
set_option linter.unusedVariables false
set_option linter.unusedSimpArgs false
set_option linter.unusedSectionVars false


section

variable (n : Int) (A : Option Addr) (xs : List Int) (cap : Nat) (w : World) (h : Hid (Ints w w.heap.size A xs)) (hbr : Hid (Brujn w))
include h hbr

set_option maxHeartbeats 1600000 in
theorem dualI_no (q : isGround n xs = false) : Calls Tryz.prog 16 #[.agg #[.int .i64 n, .slice A xs.length cap]] w (RetIB w [] false) := by
  have HW := Lib.hid (St.start w)
  have HG := Lib.hid (fun W h1 => groundI_any n A xs cap W (Lib.hid h1))
  rw [q] at HG
  clear q
  go_enter Tryz.func16, Tryz.ntmps16
  go_wp2_with (go_at_call 33; refine St.use (w0 := w) (by exact HW.out.alloc _ _) ?_; intro hS; refine (HG.out _ ((h.out.below hS.base).mono hS.size)).mono ?_; rintro e w1 ⟨rfl, hb⟩; have HS := Lib.hid (hS.below hb); clear hS hb)
  exact bodyPost_ret (v := .tuple #[.slice none 0 0, .bool false]) (by simp [results, Tryz.results16, go_sem]) rfl ⟨none, 0, rfl, K.Own.nil _ _, HS.out.base⟩

set_option maxRecDepth 100000 in
set_option maxHeartbeats 4000000 in
theorem dualI_yes (N : Nat) (hn : n = (N : Int)) (q : isGround n xs = true) : Calls Tryz.prog 16 #[.agg #[.int .i64 n, .slice A xs.length cap]] w (RetIB w (raiseVec n xs (List.replicate N (-2000)) (List.replicate N 0)).1 (raiseVec n xs (List.replicate N (-2000)) (List.replicate N 0)).2) := by
  subst hn
  have HW := Lib.hid (St.start w)
  have HG := Lib.hid (fun W h1 => groundI_any (N : Int) A xs cap W (Lib.hid h1))
  obtain ⟨-, h5, -, -⟩ := ground_parts q
  have HR := Lib.hid (fun W V c U d h1 h2 h3 h4 => raiseI_any (N : Int) A xs cap V (List.replicate N (-2000)) c U (List.replicate N 0) d W (Lib.hid h1) (Lib.hid h2) (Lib.hid h3) (by rw [List.length_replicate]; omega) (by rw [List.length_replicate]; omega) (Lib.hid h4))
  have HP := Lib.hid (fun D dap W g => repI_any (-2000) N (by omega) D dap W g)
  rw [q] at HG
  simp only [List.length_replicate] at HR
  generalize raiseVec (N : Int) xs (List.replicate N (-2000)) (List.replicate N 0) = r at *
  obtain ⟨ys, ok⟩ := r
  dsimp only at HR ⊢
  obtain ⟨i0, hi, hi0, hi1, hi2⟩ := info_parts info_int
  clear q
  go_enter Tryz.func16, Tryz.ntmps16
  go_wp2_with (go_at_call 33; refine St.use (w0 := w) (by exact HW.out.alloc _ _) ?_; intro hS; refine (HG.out _ ((h.out.below hS.base).mono hS.size)).mono ?_; rintro e w1 ⟨rfl, hb⟩; have hS1 := (hS.below hb).alloc [.int .i64 (-2000)] 3; obtain ⟨b0, -⟩ := hS1.box (i := 1) rfl; have b00 := b0 0 _ rfl; have b01 := b0 1 _ rfl; have HS1 := Lib.hid hS1; clear hS hb hS1 b0)
  refine (HP.out _ _ _ (Lib.hid ?_)).mono ?_
  · exact fun _ => ⟨w1.heap.size, 0, rfl, (HS1.out.lt (i := 0) rfl).2, fun j hj => by
      obtain rfl : j = 0 := by simpa using hj
      exact (HS1.out.box (i := 0) rfl).1 0 _ rfl⟩
  rintro e w2 ⟨V, c, rfl, ho, hb⟩
  have hS2 := HS1.out.newI hb ho
  rw [List.length_replicate] at hS2 ⊢
  have HS2 := Lib.hid (hS2.drop 1)
  obtain ⟨b0, -⟩ := HS2.out.box (i := 1) rfl
  have c00 := b0 0 _ rfl
  have c01 := b0 1 _ rfl
  clear ho hb hS2 b00 b01 b0 HS1
  go_wp2
  go_region_held3 (fun w' => w'.cell? ⟨w.heap.size, 0, none⟩ = some (.int .i64 (N : Int)) ∧ w'.cell? ⟨w.heap.size, 1, none⟩ = some (.slice A xs.length cap)) (first | (refine ⟨?_, ?_⟩ <;> assumption) | assumption | go_keep)
    (first
      | (refine upon_makeI 24 (n := N) Tryz.underlying24 hi hi0 hi1 hi2 (by first | exact HS2.out | exact HS2.out.drew) (by omega) ?_; intro G w3 hG hS3; obtain ⟨b0, -⟩ := hS3.box (i := 2) rfl; have d00 := b0 0 _ rfl; have d01 := b0 1 _ rfl; have HS3 := Lib.hid hS3; clear hS3 b0)
      | (go_at_call 44; refine (HR.out _ _ _ _ _ ((h.out.below HS3.out.base).mono HS3.out.size) (HS3.out.ints (i := 1) rfl) (HS3.out.ints (i := 0) rfl) (brujn_on hbr.out HS3.out.base)).mono ?_; rintro e w4 ⟨V4, c4, rfl, ho, hb⟩; have hS4 := HS3.out.newI hb ho; obtain ⟨b0, -⟩ := hS4.box (i := 3) rfl; have e00 := b0 0 _ rfl; have e01 := b0 1 _ rfl; have HS4 := Lib.hid hS4; clear ho hb hS4 b0))
  go_wp2
  exact bodyPost_ret (v := .tuple #[.slice V4 ys.length c4, .bool ok]) (by simp [results, Tryz.results16, go_sem]) rfl ⟨_, _, rfl, HS4.out.ownI (i := 0) rfl, HS4.out.base⟩

theorem dualVI_any : Calls Tryz.prog 16 #[.agg #[.int .i64 n, .slice A xs.length cap]] w (RetIB w (dualVec n xs).1 (dualVec n xs).2) := by
  cases q : isGround n xs
  · have e : dualVec n xs = ([], false) := by unfold dualVec; rw [if_neg (by rw [q]; simp)]
    rw [e]
    exact dualI_no n A xs cap w h hbr q
  · obtain ⟨n0, -, -, -⟩ := ground_parts q
    obtain ⟨N, rfl⟩ := Int.eq_ofNat_of_zero_le n0
    have key := dualI_yes (N : Int) A xs cap w h hbr N rfl q
    have e : dualVec (N : Int) xs = raiseVec (N : Int) xs (List.replicate N (-2000)) (List.replicate N 0) := by
      cases q2 : isSub (N : Int) xs
      · unfold dualVec raiseVec
        rw [if_neg (by rw [q2]; simp), if_neg (by rw [q2]; simp)]
      · have := raise_dual q q2
        rw [Int.toNat_natCast] at this
        rw [this]
        unfold dualVec
        rw [if_pos ⟨q, q2⟩, Int.toNat_natCast]
    rw [e]
    exact key

end


end Go.Proofs.YtffbiflgmlabaaaGreatDoor.C
