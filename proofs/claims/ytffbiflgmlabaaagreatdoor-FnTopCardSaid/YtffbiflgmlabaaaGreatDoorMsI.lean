/-
  The contract of impl.MinimizersOf: what a range over a map gives, in whatever order, sorted.
-/
import Derived.Test.YtffbiflgmlabaaaGreatDoorLsI
import Derived.Test.YtffbiflgmlabaaaGreatDoorMiS
import Derived.Test.YtffbiflgmlabaaaGreatDoorShelf
import Derived.Lib.OwnBridge
namespace Go.Proofs.YtffbiflgmlabaaaGreatDoor.C
open Go.RowKit K M
set_option linter.unusedVariables false
set_option linter.unusedSimpArgs false
set_option linter.unusedSectionVars false

/-- slices.Sort of a list of the call's own. -/
theorem sortN_any (g cap m lo : Nat) (ys : List Int) (w : World) (h : OwnN w lo (.slice (some ⟨g, 0, none⟩) m cap) m ys) (hm : m ≤ 1048576) :
    Calls Tryz.prog 48 #[.slice (some ⟨g, 0, none⟩) m cap] w fun e w' => e = .returned (.tuple #[]) ∧ w.grownBy w' (some g) ∧ OwnN w' lo (.slice (some ⟨g, 0, none⟩) m cap) m (ys.mergeSort fun x y => decide (x ≤ y)) := by
  have hl := h.len
  obtain ⟨g', c', hv, -, hg, -, -, -, hH⟩ := Lib.holds_of_ownsRow (enc := Value.int .i64) (zs := ys) h (by intro e; cases e)
  cases hv
  have hc := Go.Proofs.Tryz.slices_Sort_int g 0 cap ys w hH hg (by omega)
  rw [hl] at hc
  refine hc.mono ?_
  rintro e w' ⟨rfl, q, os, rfl⟩
  have hs : w.grownBy (Go.Sort.grow (Go.Sort.putRow (Value.int .i64) (Go.Sort.ahead w q) g 0 (ys.mergeSort fun x y => decide (x ≤ y)).toArray) os) (some g) := by
    refine ⟨rfl, rfl, rfl, by simp, fun k hk hne => ?_⟩
    rw [Go.Sort.heap_grow_old _ _ (by simpa using hk)]
    have : g ≠ k := fun e => hne (by rw [e])
    simp [Go.Sort.putRow, Go.Sort.mapBlock, Go.Sort.ahead, Array.getElem?_modify, this]
  have ho := Lib.ownsRow_putRow (q := q) (k := m) (ys := ys.mergeSort fun x y => decide (x ≤ y)) (enc := Value.int .i64) (zs := ys) h (by rw [List.length_mergeSort]; exact hl) (Nat.le_refl _)
  rw [List.take_of_length_le (by rw [List.length_mergeSort]; omega)] at ho
  exact ⟨rfl, hs, ho.kept (row := none) ⟨rfl, rfl, rfl, by simp, fun k hk _ => Go.Sort.heap_grow_old _ _ hk⟩ (.inr (by simp [Value.ownBlock]))⟩


section

variable (n : Int) (A : Option Addr) (xs : List Int) (cap : Nat) (w : World) (h : Hid (Ints w w.heap.size A xs))
include h

set_option maxRecDepth 100000 in
set_option maxHeartbeats 1600000 in
theorem minsI_any : Calls Tryz.prog 21 #[.agg #[.int .i64 n, .slice A xs.length cap]] w (RetIB w (minimizers n xs).1 (minimizers n xs).2) := by
  have HW := Lib.hid (St.start w)
  have HS0 := Lib.hid (HW.out.alloc [.int .i64 n, .slice A xs.length cap] 26)
  unfold minimizers
  cases hf : isFn n xs
  · have HF := Lib.hid hf
    clear hf
    go_enter Tryz.func21, Tryz.ntmps21
    go_wp2_with (go_at_call 29; refine (isFnI_no n A xs cap _ (Lib.hid ((h.out.below HS0.out.base).mono HS0.out.size)) HF.out).mono ?_; rintro e w3 ⟨rfl, hb⟩; have HS := Lib.hid (HS0.out.below hb); clear hb)
    go_ret2
    exact ⟨_, _, rfl, K.Own.nil _ _, HS.out.base⟩
  · have HF := Lib.hid hf
    have hx := isFn_len hf
    have HL := Lib.hid (fun W h1 => leastSets_any n A xs cap W (Lib.hid h1) (by omega) hx.2)
    have HE := Lib.hid (fun ys left => got_end (xs := xs) (ys := ys) (left := left))
    have hne := args_ne (xs := xs) (by omega)
    have HNL := Lib.hid (nats_len (args xs))
    have hx32 := hx.2
    rw [if_pos rfl]
    generalize least xs = y at *
    generalize mset xs xs.length = T at *
    clear hf hx
    obtain ⟨i0, hi, hz0, hz1, hz2⟩ := info_parts info_int
    go_enter Tryz.func21, Tryz.ntmps21
    go_wp2_with (first
      | (go_at_call 29; refine (isFnI_yes n A xs cap _ (Lib.hid ((h.out.below HS0.out.base).mono HS0.out.size)) HF.out).mono ?_; rintro e w3 ⟨rfl, hb⟩; have hS := HS0.out.below hb; obtain ⟨b0, -⟩ := hS.box (i := 0) rfl; have b00 := b0 0 _ rfl; have b01 := b0 1 _ rfl; have HS := Lib.hid hS; clear hb hS b0)
      | (go_at_call 46; refine (HL.out _ ((h.out.below HS.out.base).mono HS.out.size)).mono ?_; rintro e w4 ⟨b, rfl, hb, hlb, hM⟩; have HS2 := Lib.hid (HS.out.below hb); have HB := Lib.hid (Nat.le_trans HS.out.size hlb); have HM := Lib.hid hM; clear hb hlb hM)
      | (at_range; refine wpList_rangeS _ rfl _ rfl Tryz.underlying45 Tryz.underlying56 HM.out rfl ?_; intro w5 cnt hcn hR5 hg5 hs5; have HS5 := Lib.hid (HS2.out.below (below_of_grown hg5)); have HR5 := Lib.hid hR5; clear hR5 hg5 hs5))
    have hr0 : w.heap.size ≤ w4.heap.size := HS2.out.size
    obtain ⟨r, hr⟩ : ∃ r, w4.heap.size = r := ⟨_, rfl⟩
    rw [hr] at HR5 hr0 ⊢
    clear hr b00 b01
    go_frame
    go_loopw [4] (fun v wr => ∃ (ys : List Int) (m : Nat) (V : Option Addr) (c : Nat) (left : Int → Bool) (cnt : Nat), v = .slice V m c ∧ m + cnt ≤ 32 ∧ GotAll T left ys ∧ St w wr [il (.slice V m c) m ys, K.bx w.heap.size 26 [.int .i64 n, .slice A xs.length cap]] ∧ RngS Tryz.prog 45 wr b r 32 T left cnt) (fun _ wr => wr.rangeLeft b r)
    case atStart => exact ⟨[], 0, none, 0, T, cnt, rfl, by omega, got_start T, HS5.out.nil, HR5.out⟩
    case round =>
      obtain ⟨ys, m, V, c, left, cnt1, rfl, hmc, hA, hS, hR⟩ := hrel
      have HA := Lib.hid hA
      have HSr := Lib.hid hS
      have HRr := Lib.hid hR
      clear hA hS hR
      go_wp2_with (at_next; refine wpList_nextS _ rfl _ rfl Tryz.underlying45 rfl HRr.out ?_ ?_)
      · intro hl0
        have HEE := Lib.hid (HE.out ys left HA.out hl0)
        clear hl0
        have hml : ys.length = m := OwnN.len (HSr.out.own (i := 0) rfl)
        have hgl := congrArg List.length HEE.out
        rw [List.length_mergeSort, hml, HNL.out] at hgl
        obtain ⟨g, c', hv, -⟩ := Lib.holds_of_ownsRow (enc := Value.int .i64) (zs := ys) (n := m) (v := .slice V m c) (HSr.out.own (i := 0) rfl) (by intro e; injection e with _ e1 _; omega)
        cases hv
        have HGL := Lib.hid hgl
        have HSO := Lib.hid (sortN_any g c m w.heap.size ys wr (HSr.out.own (i := 0) rfl) (by omega))
        rw [HEE.out] at HSO
        clear hgl hml
        go_wp2_with (go_at_call 48; refine HSO.out.mono ?_; rintro e w7 ⟨rfl, hg7, ho7⟩; have HS7 := Lib.hid (HSr.out.markI (i := 0) rfl hg7 ho7); clear hg7 ho7)
        go_ret2
        have hln : (nats (args xs)).length = m := HNL.out.trans HGL.out.symm
        exact ⟨_, c, by rw [hln]; rfl, by rw [hln]; exact HS7.out.ownI (i := 0) rfl, HS7.out.base⟩
      · intro x w6 cnt2 hlx hTx hR6 hlt hg6 hs6 hen
        have HA6 := Lib.hid (got_step HA.out hTx hlx)
        have HS6 := Lib.hid (HSr.out.stepped HRr.out hg6 hr0)
        have HR6 := Lib.hid hR6
        clear hlx hTx hR6 hg6 hs6
        go_wp2_with (at_builtin; refine wpList_app1g rfl _ _ 24 rfl x Tryz.underlying24 hi hz0 hz1 hz2 ((HS6.out.alloc _ _).drop 0) (i := 0) (n := m) (v := .slice V m c) (xs := ys) rfl rfl rfl (by simp) (by omega) ?_; intro V' c' w7 hS7 hg7; have HS7 := Lib.hid hS7; have hr7 := HR6.out.below ((Below.refl _ _).alloc (Nat.le_refl _) (.cells ⟨[.int .i64 x]⟩ 3)); have ho7 := ((HS6.out.alloc [.int .i64 x] 3).drop 0).own (i := 0) rfl; have HR7 := Lib.hid (hr7.kept hg7 (fun e => far_map ho7 hr7.map e.symm) (fun e => far_iter ho7 hr7 e.symm)); clear hr7 ho7; clear hS7 hg7)
        go_roundw
        case rel => exact ⟨ys ++ [x], m + 1, V', c', _, cnt2, rfl, by omega, HA6.out, HS7.out, HR7.out⟩
        case measure => rw [HR7.out.left_eq, HRr.out.left_eq]; omega

end


end Go.Proofs.YtffbiflgmlabaaaGreatDoor.C
