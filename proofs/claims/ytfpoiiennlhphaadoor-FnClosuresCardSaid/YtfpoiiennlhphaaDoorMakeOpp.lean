/-
  The contract of impl.makeFunction, for OppositeFunction's closure.
-/
import Derived.Test.YtfpoiiennlhphaaDoorFunI
import Derived.Deep.RegionHeld3
namespace Go.Proofs.YtfpoiiennlhphaaDoor.C
open Go.RowKit K M
set_option linter.unusedVariables false
set_option linter.unusedSimpArgs false

set_option maxRecDepth 100000 in
set_option maxHeartbeats 4000000 in
theorem make_opp (n : Int) (m : Nat) (f : Nat → Int) (p1 : Value) (w : World) (h0 : 0 ≤ n) (h5 : n ≤ 5) (hm : m = 2 ^ n.toNat) (rn : Int) (rx : List Int) (rb : Bool) (HR : Hid (made n (tab m f) = (rn, rx, rb)))
    (hf : Hid (∀ j, j < m → ∀ W, Below w.heap.size w W → Calls Tryd.prog 85 #[.int .i64 j, p1] W (RetV W (.int .i64 (f j))))) :
    Calls Tryd.prog 84 #[.int .i64 n, .func (.func 85) #[] #[p1]] w (RetFB w rn rx rb) := by
  have hsh := shl_one h0 (by omega) hm
  have hp := p2_le h0 h5
  rw [← hm] at hp
  obtain ⟨hp1, hp2⟩ := hp
  clear hm
  have HW := Lib.hid (St.start w)
  obtain ⟨i0, hi, hi0, hi1, hi2⟩ := info_parts info_int
  go_enter Tryd.func84, Tryd.ntmps84
  go_wp2_with (refine wpList_make_full _ rfl _ _ _ rfl (w.heap.size + 1) 3 i0 (.int .i64 0) 1 Tryd.underlying24 hi hi0 hi1 .i64 .i64 _ _ m rfl rfl (by simp [hsh]) (by simp [hsh]) (by rw [hi2]; omega) (by unfold maxLen; omega) (by simp) ?_; intro w1 hown1 hg1)
  rw [zeros] at hown1
  simp only [World.size_alloc] at hown1
  have HS1 := Lib.hid (show St w _ [bx w1.heap.size 26 [.int .i64 n, .slice (some ⟨w.heap.size + 1, 0, none⟩) m m], il (.slice (some ⟨w.heap.size + 1, 0, none⟩) m m) m (List.replicate m 0), bx w.heap.size 26 [.int .i64 0, .slice none 0 0]] from ((HW.out.alloc _ _).new ((Below.refl _ _).grown hg1 (Nat.le_refl _) (by simp)) (by rw [World.size_alloc]; exact hown1)).alloc _ _)
  have hz1 : w.heap.size + 1 < w1.heap.size := (hown1.lt _ rfl).2
  have hne : ¬ w.heap.size + 1 = w1.heap.size := by omega
  clear hown1 hg1 hsh
  go_loopw [7, 16] (fun _ i wr => ∃ (j : Nat) (ys : List Int), i = .int .i64 j ∧ j ≤ m ∧ ys.length = m ∧ ys.take j = tab j f ∧ St w wr [bx w1.heap.size 26 [.int .i64 n, .slice (some ⟨w.heap.size + 1, 0, none⟩) m m], il (.slice (some ⟨w.heap.size + 1, 0, none⟩) m m) m ys, bx w.heap.size 26 [.int .i64 0, .slice none 0 0]]) (fun _ i _ => m - (intOf i).toNat)
  case atStart => exact ⟨0, _, rfl, Nat.zero_le _, by simp, by simp [tab], HS1.out⟩
  case round =>
    obtain ⟨j, ys, rfl, hj, hy, ht, hS⟩ := hrel
    obtain ⟨b0, f0⟩ := hS.box (i := 0) rfl
    have b00 := b0 0 _ rfl
    have b01 := b0 1 _ rfl
    clear b0 f0
    have HL := Lib.hid hy
    have HT := Lib.hid ht
    have HS := Lib.hid hS
    by_cases hlt : j < m
    · obtain ⟨c1, c2⟩ := hS.cellI (i := 1) rfl hlt
      have hcall := Lib.hid (hf.out j hlt)
      have hj0 : (0 : Int) ≤ (j : Int) := by omega
      have hjn : (j : Int) < (m : Int) := by omega
      clear hS hy ht
      go_wp2
      go_region_held3 (fun w' => w'.cell? ⟨w1.heap.size, 1, none⟩ = some (.slice (some ⟨w.heap.size + 1, 0, none⟩) m m)) (first | assumption | go_keep) ((go_at_call 85; refine (hcall.out _ ?_).mono ?_; (first | exact HS.out.base | exact HS.out.drew.base); rintro e w2 ⟨rfl, hb⟩; have hS2 := HS.out.drew.below hb; obtain ⟨b0, -⟩ := hS2.box (i := 0) rfl; have b01' := b0 1 _ rfl; obtain ⟨c1', c2'⟩ := hS2.cellI (i := 1) rfl hlt; have HS2 := Lib.hid hS2; clear hS2 b0 hb b00 b01 c1 c2))
      have hS2 := HS2.out.setI (i := 1) rfl j (f j)
      clear HS2
      have HS2 := Lib.hid hS2
      clear hS2
      go_wp2
      go_roundw
      case rel => exact ⟨j + 1, ys.set j (f j), by go_num, by omega, by rw [List.length_set]; exact HL.out, tab_set f HL.out HT.out hlt, HS2.out⟩
      case measure => simp [intOf]; omega
    · obtain rfl : j = m := by omega
      have hjn : ¬ (j : Int) < (j : Int) := by omega
      obtain rfl : ys = tab j f := by rw [← ht, List.take_of_length_le (by omega)]
      clear hS hy ht
      cases hfn : isFn n (tab j f)
      · obtain ⟨rfl, rfl, rfl⟩ : 0 = rn ∧ [] = rx ∧ false = rb := by simpa [made, hfn] using HR.out
        have HF := isFnI_tab n (some ⟨w.heap.size + 1, 0, none⟩) (tab j f) j j _ (tab_length _ _) (Lib.hid (HS.out.ints (i := 1) rfl))
        rw [hfn] at HF
        have HG := Lib.hid HF
        clear hfn HF
        go_wp2_with fail
        refine HG.out.mono ?_
        rintro e w2 ⟨rfl, hb⟩
        have hS2 := HS.out.below hb
        obtain ⟨b0, -⟩ := hS2.box (i := 0) rfl
        have b00' := b0 0 _ rfl
        have b01' := b0 1 _ rfl
        obtain ⟨r1, rf⟩ := hS2.box (i := 2) rfl
        have r10 := r1 0 _ rfl
        have r11 := r1 1 _ rfl
        have rf0 := rf 0
        have rf1 := rf 1
        clear b0 r1 rf hb b00 b01
        have HS2 := Lib.hid hS2
        clear hS2
        go_wp2
        have hZ := (HS2.out.store (i := 2) rfl 0 (.int .i64 0)).store (i := 2) rfl 1 (.slice none 0 0)
        exact bodyPost_ret (v := .tuple #[.agg #[.int .i64 0, .slice none 0 0], .bool false]) (by simp [results, Tryd.results84, go_sem, r10, r11, rf0, rf1]) rfl ⟨none, 0, rfl, Own.nil _ _, hZ.base⟩
      · obtain ⟨rfl, rfl, rfl⟩ : n = rn ∧ tab j f = rx ∧ true = rb := by simpa [made, hfn] using HR.out
        have HF := isFnI_tab n (some ⟨w.heap.size + 1, 0, none⟩) (tab j f) j j _ (tab_length _ _) (Lib.hid (HS.out.ints (i := 1) rfl))
        rw [hfn] at HF
        have HG := Lib.hid HF
        clear hfn HF
        go_wp2_with fail
        refine HG.out.mono ?_
        rintro e w2 ⟨rfl, hb⟩
        have hS2 := HS.out.below hb
        obtain ⟨b0, -⟩ := hS2.box (i := 0) rfl
        have b00' := b0 0 _ rfl
        have b01' := b0 1 _ rfl
        obtain ⟨r1, rf⟩ := hS2.box (i := 2) rfl
        have r10 := r1 0 _ rfl
        have r11 := r1 1 _ rfl
        have rf0 := rf 0
        have rf1 := rf 1
        clear b0 r1 rf hb b00 b01
        have HS2 := Lib.hid hS2
        clear hS2
        go_wp2
        have hZ := (HS2.out.store (i := 2) rfl 0 (.int .i64 n)).store (i := 2) rfl 1 (.slice (some ⟨w.heap.size + 1, 0, none⟩) j j)
        exact bodyPost_ret (v := .tuple #[.agg #[.int .i64 n, .slice (some ⟨w.heap.size + 1, 0, none⟩) j j], .bool true]) (by simp [results, Tryd.results84, go_sem, r10, r11, rf0, rf1, b00', b01']) rfl ⟨some ⟨w.heap.size + 1, 0, none⟩, j, by rw [tab_length], by rw [tab_length]; exact hZ.ownI (i := 1) rfl, hZ.base⟩


end Go.Proofs.YtfpoiiennlhphaaDoor.C
