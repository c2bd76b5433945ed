/-
  The contracts of the draws of chapter 2, as the laws call them: two functions to be added, a text.
-/
import Derived.Test.YtielfnjkfceliaaGreatDoorDrawJ
import Derived.Test.YtielfnjkfceliaaGreatDoorSpoil
import Derived.Test.YtielfnjkfceliaaGreatDoorTxt
namespace Go.Proofs.YtielfnjkfceliaaGreatDoor.C
open Go.RowKit M K
set_option linter.unusedVariables false
set_option linter.unusedSimpArgs false

/-- A text. -/
def GotS (w : World) (e : Ending) (w' : World) : Prop := ∃ s : ByteArray, e = .returned (.string s) ∧ s.size ≤ 1003 ∧ Below w.heap.size w w'

theorem fmtFn_len (n : Int) (xs : List Int) : (fmtFn n xs).length ≤ 192 := by
  unfold fmtFn
  split
  · rename_i hf
    obtain ⟨_, _, _, hv⟩ := isFn_yes hf
    have := txt_len hv xs.length (Nat.le_refl _)
    have := (isFn_len hf).2
    omega
  · simp

set_option maxRecDepth 100000 in
set_option maxHeartbeats 1600000 in
theorem sameInts_same (A C : Option Addr) (xs : List Int) (cap dap : Nat) (w : World) (h : Hid (Ints w w.heap.size A xs)) (g : Hid (Ints w w.heap.size C xs)) (hn : xs.length ≤ 9223372036854775807) :
    Calls Tryz.prog 33 #[.slice A xs.length cap, .slice C xs.length dap] w fun e w' => e = .returned (.bool true) ∧ ∃ n, w.drewN n = w' := by
  obtain ⟨n, hxn⟩ : ∃ n, xs.length = n := ⟨_, rfl⟩
  rw [hxn] at hn ⊢
  have HX := Lib.hid hxn
  clear hxn
  go_enter Tryz.func33, Tryz.ntmps33
  go_wp2
  go_loopw [5] (fun i wr => ∃ (k m : Nat), i = .int .i64 k ∧ k ≤ n ∧ wr = w.drewN m) (fun i _ => n - (intOf i).toNat)
  case atStart => exact ⟨0, 0, rfl, Nat.zero_le _, rfl⟩
  case round =>
    obtain ⟨k, m, rfl, hk, rfl⟩ := hrel
    by_cases hlt : k < n
    · obtain ⟨b, off, rfl, hbl, hc⟩ := h.out.at_ (k := k) (by rw [HX.out]; exact hlt)
      obtain ⟨b', off', rfl, hbl', hc'⟩ := g.out.at_ (k := k) (by rw [HX.out]; exact hlt)
      have hk0 : (0 : Int) ≤ (k : Int) := by omega
      have hkn : (k : Int) < (n : Int) := by omega
      go_wp2
      go_quiet (fail)
      go_wp2
      go_roundw
      case rel => exact ⟨k + 1, _, by go_num, by omega, rfl⟩
      case measure => simp [intOf]; omega
    · go_wp2
      go_ret
      exact ⟨rfl, _, rfl⟩


section

variable (v : Value) (len : Nat) (w : World) (hl : len ≤ 1048576) (hy : Hid (Bytes w.heap.size w v len))
include hl hy

set_option maxRecDepth 100000 in
set_option maxHeartbeats 4000000 in
theorem add_got : Calls Tryz.prog 5 #[v] w (GotFF w) := by
  have HW := Lib.hid (St.start w)
  go_enter Tryz.func5, Tryz.ntmps5
  go_wp2_with fail
  refine St.use (w0 := w) (by exact (HW.out.alloc _ _).alloc _ _) ?_
  intro hS
  refine (two_got v len _ hl (Lib.hid (hy.out.later hS.base))).mono ?_
  rintro e w1 ⟨u1, n, xs, u2, m, ys, rfl, ⟨A, c, rfl, ho, hlx⟩, ⟨A2, c2, rfl, ho2, hly⟩, hb⟩
  have hS1 := hS.below hb
  obtain ⟨o1, of⟩ := hS1.box (i := 1) rfl
  have o10 := o1 0 _ rfl
  have o11 := o1 1 _ rfl
  have of0 := of 0
  have of1 := of 1
  obtain ⟨p1, pf⟩ := hS1.box (i := 0) rfl
  have p10 := p1 0 _ rfl
  have p11 := p1 1 _ rfl
  have pf0 := pf 0
  have pf1 := pf 1
  have hz0 := (hS1.lt (i := 0) rfl).2
  have HA := Lib.hid (hS.newI hb ho)
  have HB := Lib.hid (hS.newI hb ho2)
  simp only [World.size_alloc] at p10 p11 pf0 pf1 hz0 HA HB
  have hz1 : w.heap.size < w1.heap.size := by omega
  have hne1 : ¬ w.heap.size = w1.heap.size := by omega
  have hne2 : ¬ w1.heap.size = w.heap.size := by omega
  have hne3 : ¬ w.heap.size + 1 = w1.heap.size := by omega
  have hne4 : ¬ w1.heap.size = w.heap.size + 1 := by omega
  clear hS hS1 hb ho ho2 o1 of p1 pf
  go_wp2
  go_region
  go_wp2
  have hZ := fun (r : Cel) (hS : St w w1 (r :: [bx (w.heap.size + 1) 26 [.int .i64 0, .slice none 0 0], bx w.heap.size 26 [.int .i64 0, .slice none 0 0]])) => ((((((hS.store (i := 2) rfl 0 (.int .i64 n)).store (i := 2) rfl 1 (.slice A xs.length c)).store (i := 1) rfl 0 (.int .i64 m)).store (i := 1) rfl 1 (.slice A2 ys.length c2)).alloc [.int .i64 n, .slice A xs.length c] 26).alloc [.int .i64 m, .slice A2 ys.length c2] 26).drew
  exact bodyPost_ret (v := .tuple #[.agg #[.int .i64 n, .slice A xs.length c], .agg #[.int .i64 m, .slice A2 ys.length c2]]) (by simp [results, Tryz.results5, go_sem, o10, o11, of0, of1, p10, p11, pf0, pf1, hz0, hz1, hne1, hne2, hne3, hne4]) rfl ⟨_, n, xs, _, m, ys, rfl, ⟨A, c, rfl, (hZ _ HA.out).ownI (i := 2) rfl, hlx⟩, ⟨A2, c2, rfl, (hZ _ HB.out).ownI (i := 2) rfl, hly⟩, (hZ _ HA.out).base⟩

set_option maxHeartbeats 1600000 in
theorem parse_got : Calls Tryz.prog 26 #[v] w (GotS w) := by
  have HW := Lib.hid (St.start w)
  go_enter Tryz.func26, Tryz.ntmps26
  go_wp2_with fail
  refine (new_st HW.out hy.out hl).mono ?_
  rintro e w1 ⟨rfl, hd⟩
  have HD := Lib.hid hd
  clear hd
  go_wp2_with fail
  refine (any_dr HD).mono ?_
  rintro e w2 ⟨n, A, c, xs, rfl, hx, hd⟩
  have HD2 := Lib.hid hd
  clear hd hx HD
  go_wp2_with fail
  refine (fmtS_any n A xs c _ (Lib.hid (HD2.out.rest.ints (i := 0) rfl))).mono ?_
  rintro e w3 ⟨rfl, hb⟩
  have HD3 := Lib.hid (HD2.out.below hb)
  have hlen := fmtFn_len n xs
  generalize fmtFn n xs = l at hlen
  clear hb HD2
  go_wp2_with fail
  refine (once_dr 4 HD3 (by omega) (by omega)).mono ?_
  rintro e w4 ⟨b, rfl, hd⟩
  have HD4 := Lib.hid hd
  clear hd HD3
  have hsz : (⟨l.toArray⟩ : ByteArray).size ≤ 192 := by show l.toArray.size ≤ 192; rw [List.size_toArray]; exact hlen
  generalize (⟨l.toArray⟩ : ByteArray) = s at hsz ⊢
  cases b
  · go_wp2
    go_ret
    exact ⟨_, rfl, by omega, HD4.out.base⟩
  · go_wp2_with fail
    refine (spoil_dr s HD4 (by omega)).mono ?_
    rintro e w5 ⟨t, rfl, ht, hd⟩
    have HD5 := Lib.hid hd
    clear hd
    go_wp2
    go_ret
    exact ⟨_, rfl, ht, HD5.out.base⟩

end


end Go.Proofs.YtielfnjkfceliaaGreatDoor.C
