/-
  The contracts of impl.AddFunctions, impl.ScaleFunction, impl.LowerFunction, of their closures, and of impl.makeFunction.
-/
import Derived.Test.YtielfnjkfceliaaGreatDoorIsFnI
import Derived.Test.YtielfnjkfceliaaGreatDoorFunS
namespace Go.Proofs.YtielfnjkfceliaaGreatDoor.C
open Go.RowKit K M
set_option linter.unusedVariables false
set_option linter.unusedSimpArgs false

/-- What a closure does that only reads. -/
def Gives (w : World) (x : Int) (e : Ending) (w' : World) : Prop := e = .returned (.int .i64 x) ∧ ∃ q, w.drewN q = w'

set_option maxRecDepth 100000 in
theorem scaleC (k x : Int) (s : Nat) (kb fb b off m cap : Nat) (u : Value) (w : World) (k1 : -1000 ≤ k) (k2 : k ≤ 1000) (x1 : -1000 ≤ x) (x2 : x ≤ 1000) (hs : s < m) (hm : m ≤ 32)
    (hk : w.cell? ⟨kb, 0, none⟩ = some (.int .i64 k)) (hf : w.cell? ⟨fb, 1, none⟩ = some (.slice (some ⟨b, off, none⟩) m cap)) (hc : w.cell? ⟨b, off + s, none⟩ = some (.int .i64 x)) :
    Calls Tryz.prog 55 #[.int .i64 s, .pointer (some ⟨kb, 0, none⟩), .pointer (some ⟨fb, 0, none⟩)] w (Gives w (k * x)) := by
  obtain ⟨m1, m2⟩ := mul_bd k1 k2 x1 x2
  have hxy : IntKind.i64.wrap (k * x) = k * x := IntWalk.i64_in _ (by omega)
  have hs0 : (0 : Int) ≤ (s : Int) := by omega
  have hsm : (s : Int) < (m : Int) := by omega
  go_enter Tryz.func55, Tryz.ntmps55
  go_wp2
  go_quiet (fail)
  go_wp2
  go_ret
  exact ⟨rfl, _, rfl⟩

set_option maxRecDepth 100000 in
theorem lowerC (x y : Int) (s : Nat) (fb b off m cap : Nat) (w : World) (x1 : -1000 ≤ x) (x2 : x ≤ 1000) (y1 : -1000 ≤ y) (y2 : y ≤ 1000) (hs : s < m) (hm : m ≤ 32)
    (hf : w.cell? ⟨fb, 1, none⟩ = some (.slice (some ⟨b, off, none⟩) m cap)) (hc : w.cell? ⟨b, off + s, none⟩ = some (.int .i64 x)) (hc0 : w.cell? ⟨b, off, none⟩ = some (.int .i64 y)) :
    Calls Tryz.prog 58 #[.int .i64 s, .pointer (some ⟨fb, 0, none⟩)] w (Gives w (x - y)) := by
  have hxy : IntKind.i64.wrap (x - y) = x - y := IntWalk.i64_in _ (by omega)
  have hs0 : (0 : Int) ≤ (s : Int) := by omega
  have hsm : (s : Int) < (m : Int) := by omega
  have hm0 : (0 : Int) < (m : Int) := by omega
  have hm1 : 0 < m := by omega
  go_enter Tryz.func58, Tryz.ntmps58
  go_wp2
  go_quiet (fail)
  go_wp2
  go_ret
  exact ⟨rfl, _, rfl⟩

set_option maxRecDepth 100000 in
theorem addC (x y : Int) (s : Nat) (fb b off m cap gb b' off' cap' : Nat) (w : World) (x1 : -1000 ≤ x) (x2 : x ≤ 1000) (y1 : -1000 ≤ y) (y2 : y ≤ 1000) (hs : s < m) (hm : m ≤ 32)
    (hf : w.cell? ⟨fb, 1, none⟩ = some (.slice (some ⟨b, off, none⟩) m cap)) (hg : w.cell? ⟨gb, 1, none⟩ = some (.slice (some ⟨b', off', none⟩) m cap')) (hc : w.cell? ⟨b, off + s, none⟩ = some (.int .i64 x)) (hc0 : w.cell? ⟨b', off' + s, none⟩ = some (.int .i64 y)) :
    Calls Tryz.prog 39 #[.int .i64 s, .pointer (some ⟨fb, 0, none⟩), .pointer (some ⟨gb, 0, none⟩)] w (Gives w (x + y)) := by
  have hxy : IntKind.i64.wrap (x + y) = x + y := IntWalk.i64_in _ (by omega)
  have hs0 : (0 : Int) ≤ (s : Int) := by omega
  have hsm : (s : Int) < (m : Int) := by omega
  go_enter Tryz.func39, Tryz.ntmps39
  go_wp2
  go_quiet (fail)
  go_wp2
  go_ret
  exact ⟨rfl, _, rfl⟩


set_option maxRecDepth 100000 in
set_option maxHeartbeats 4000000 in
theorem make_scale (n : Int) (m : Nat) (f : Nat → Int) (kb fb : Addr) (w : World) (h0 : 0 ≤ n) (h5 : n ≤ 5) (hm : m = 2 ^ n.toNat) (rn : Int) (rx : List Int) (rb : Bool) (HR : Hid (made n (tab m f) = (rn, rx, rb)))
    (hf : Hid (∀ j, j < m → ∀ W, Below w.heap.size w W → Calls Tryz.prog 55 #[.int .i64 j, .pointer (some kb), .pointer (some fb)] W (Gives W (f j)))) :
    Calls Tryz.prog 38 #[.int .i64 n, .func (.func 55) #[] #[.pointer (some kb), .pointer (some fb)]] w (RetFB w rn rx rb) := by
  have hsh := shl_one h0 (by omega) hm
  have hp := p2_le h0 h5
  rw [← hm] at hp
  obtain ⟨hp1, hp2⟩ := hp
  clear hm
  have HW := Lib.hid (St.start w)
  obtain ⟨i0, hi, hi0, hi1, hi2⟩ := info_parts info_int
  go_enter Tryz.func38, Tryz.ntmps38
  go_wp2_with (refine wpList_make_full _ rfl _ _ _ rfl (w.heap.size + 1) 3 i0 (.int .i64 0) 1 Tryz.underlying24 hi hi0 hi1 .i64 .i64 _ _ m rfl rfl (by simp [hsh]) (by simp [hsh]) (by rw [hi2]; omega) (by unfold maxLen; omega) (by simp) ?_; intro w1 hown1 hg1)
  rw [zeros] at hown1
  simp only [World.size_alloc] at hown1
  have HS1 := Lib.hid (show St w _ [bx w1.heap.size 26 [.int .i64 n, .slice (some ⟨w.heap.size + 1, 0, none⟩) m m], il (.slice (some ⟨w.heap.size + 1, 0, none⟩) m m) m (List.replicate m 0), bx w.heap.size 26 [.int .i64 0, .slice none 0 0]] from ((HW.out.alloc _ _).new ((Below.refl _ _).grown hg1 (Nat.le_refl _) (by simp)) (by rw [World.size_alloc]; exact hown1)).alloc _ _)
  have hz1 : w.heap.size + 1 < w1.heap.size := (hown1.lt _ rfl).2
  have hne : ¬ w.heap.size + 1 = w1.heap.size := by omega
  clear hown1 hg1 hsh
  go_loopw [7, 16] (fun _ i wr => ∃ (j : Nat) (ys : List Int), i = .int .i64 j ∧ j ≤ m ∧ ys.length = m ∧ ys.take j = tab j f ∧ St w wr [bx w1.heap.size 26 [.int .i64 n, .slice (some ⟨w.heap.size + 1, 0, none⟩) m m], il (.slice (some ⟨w.heap.size + 1, 0, none⟩) m m) m ys, bx w.heap.size 26 [.int .i64 0, .slice none 0 0]]) (fun _ i _ => m - (intOf i).toNat)
  case atStart => exact ⟨0, _, rfl, Nat.zero_le _, by simp, by simp [tab], HS1.out⟩
  case round =>
    obtain ⟨j, ys, rfl, hj, hy, ht, hS⟩ := hrel
    obtain ⟨b0, f0⟩ := hS.box (i := 0) rfl
    have b00 := b0 0 _ rfl
    have b01 := b0 1 _ rfl
    clear b0 f0
    have HL := Lib.hid hy
    have HT := Lib.hid ht
    have HS := Lib.hid hS
    by_cases hlt : j < m
    · obtain ⟨c1, c2⟩ := hS.cellI (i := 1) rfl hlt
      have hcall := Lib.hid (hf.out j hlt)
      have hj0 : (0 : Int) ≤ (j : Int) := by omega
      have hjn : (j : Int) < (m : Int) := by omega
      clear hS hy ht
      go_wp2
      go_region_held3 (fun w' => w'.cell? ⟨w1.heap.size, 1, none⟩ = some (.slice (some ⟨w.heap.size + 1, 0, none⟩) m m)) (first | assumption | go_keep) ((go_at_call 55; refine (hcall.out _ ?_).mono ?_; (first | exact HS.out.base | exact HS.out.drew.base); rintro e w2 ⟨rfl, q, rfl⟩))
      have hS2 := ((HS.out.drewN (1 + q)).setI (i := 1) rfl j (f j))
      have HS2 := Lib.hid hS2
      clear hS2
      go_wp2
      go_roundw
      case rel => exact ⟨j + 1, ys.set j (f j), by go_num, by omega, by rw [List.length_set]; exact HL.out, tab_set f HL.out HT.out hlt, HS2.out⟩
      case measure => simp [intOf]; omega
    · obtain rfl : j = m := by omega
      have hjn : ¬ (j : Int) < (j : Int) := by omega
      obtain rfl : ys = tab j f := by rw [← ht, List.take_of_length_le (by omega)]
      clear hS hy ht
      cases hfn : isFn n (tab j f)
      · obtain ⟨rfl, rfl, rfl⟩ : 0 = rn ∧ [] = rx ∧ false = rb := by simpa [made, hfn] using HR.out
        have HF := isFnI_tab n (some ⟨w.heap.size + 1, 0, none⟩) (tab j f) j j _ (tab_length _ _) (Lib.hid (HS.out.ints (i := 1) rfl))
        rw [hfn] at HF
        have HG := Lib.hid HF
        clear hfn HF
        go_wp2_with fail
        refine HG.out.mono ?_
        rintro e w2 ⟨rfl, hb⟩
        have hS2 := HS.out.below hb
        obtain ⟨b0, -⟩ := hS2.box (i := 0) rfl
        have b00' := b0 0 _ rfl
        have b01' := b0 1 _ rfl
        obtain ⟨r1, rf⟩ := hS2.box (i := 2) rfl
        have r10 := r1 0 _ rfl
        have r11 := r1 1 _ rfl
        have rf0 := rf 0
        have rf1 := rf 1
        clear b0 r1 rf hb b00 b01
        have HS2 := Lib.hid hS2
        clear hS2
        go_wp2
        have hZ := (HS2.out.store (i := 2) rfl 0 (.int .i64 0)).store (i := 2) rfl 1 (.slice none 0 0)
        exact bodyPost_ret (v := .tuple #[.agg #[.int .i64 0, .slice none 0 0], .bool false]) (by simp [results, Tryz.results38, go_sem, r10, r11, rf0, rf1]) rfl ⟨none, 0, rfl, Own.nil _ _, hZ.base⟩
      · obtain ⟨rfl, rfl, rfl⟩ : n = rn ∧ tab j f = rx ∧ true = rb := by simpa [made, hfn] using HR.out
        have HF := isFnI_tab n (some ⟨w.heap.size + 1, 0, none⟩) (tab j f) j j _ (tab_length _ _) (Lib.hid (HS.out.ints (i := 1) rfl))
        rw [hfn] at HF
        have HG := Lib.hid HF
        clear hfn HF
        go_wp2_with fail
        refine HG.out.mono ?_
        rintro e w2 ⟨rfl, hb⟩
        have hS2 := HS.out.below hb
        obtain ⟨b0, -⟩ := hS2.box (i := 0) rfl
        have b00' := b0 0 _ rfl
        have b01' := b0 1 _ rfl
        obtain ⟨r1, rf⟩ := hS2.box (i := 2) rfl
        have r10 := r1 0 _ rfl
        have r11 := r1 1 _ rfl
        have rf0 := rf 0
        have rf1 := rf 1
        clear b0 r1 rf hb b00 b01
        have HS2 := Lib.hid hS2
        clear hS2
        go_wp2
        have hZ := (HS2.out.store (i := 2) rfl 0 (.int .i64 n)).store (i := 2) rfl 1 (.slice (some ⟨w.heap.size + 1, 0, none⟩) j j)
        exact bodyPost_ret (v := .tuple #[.agg #[.int .i64 n, .slice (some ⟨w.heap.size + 1, 0, none⟩) j j], .bool true]) (by simp [results, Tryz.results38, go_sem, r10, r11, rf0, rf1, b00', b01']) rfl ⟨some ⟨w.heap.size + 1, 0, none⟩, j, by rw [tab_length], by rw [tab_length]; exact hZ.ownI (i := 1) rfl, hZ.base⟩


set_option maxRecDepth 100000 in
set_option maxHeartbeats 4000000 in
theorem make_lower (n : Int) (m : Nat) (f : Nat → Int) (fb : Addr) (w : World) (h0 : 0 ≤ n) (h5 : n ≤ 5) (hm : m = 2 ^ n.toNat) (rn : Int) (rx : List Int) (rb : Bool) (HR : Hid (made n (tab m f) = (rn, rx, rb)))
    (hf : Hid (∀ j, j < m → ∀ W, Below w.heap.size w W → Calls Tryz.prog 58 #[.int .i64 j, .pointer (some fb)] W (Gives W (f j)))) :
    Calls Tryz.prog 38 #[.int .i64 n, .func (.func 58) #[] #[.pointer (some fb)]] w (RetFB w rn rx rb) := by
  have hsh := shl_one h0 (by omega) hm
  have hp := p2_le h0 h5
  rw [← hm] at hp
  obtain ⟨hp1, hp2⟩ := hp
  clear hm
  have HW := Lib.hid (St.start w)
  obtain ⟨i0, hi, hi0, hi1, hi2⟩ := info_parts info_int
  go_enter Tryz.func38, Tryz.ntmps38
  go_wp2_with (refine wpList_make_full _ rfl _ _ _ rfl (w.heap.size + 1) 3 i0 (.int .i64 0) 1 Tryz.underlying24 hi hi0 hi1 .i64 .i64 _ _ m rfl rfl (by simp [hsh]) (by simp [hsh]) (by rw [hi2]; omega) (by unfold maxLen; omega) (by simp) ?_; intro w1 hown1 hg1)
  rw [zeros] at hown1
  simp only [World.size_alloc] at hown1
  have HS1 := Lib.hid (show St w _ [bx w1.heap.size 26 [.int .i64 n, .slice (some ⟨w.heap.size + 1, 0, none⟩) m m], il (.slice (some ⟨w.heap.size + 1, 0, none⟩) m m) m (List.replicate m 0), bx w.heap.size 26 [.int .i64 0, .slice none 0 0]] from ((HW.out.alloc _ _).new ((Below.refl _ _).grown hg1 (Nat.le_refl _) (by simp)) (by rw [World.size_alloc]; exact hown1)).alloc _ _)
  have hz1 : w.heap.size + 1 < w1.heap.size := (hown1.lt _ rfl).2
  have hne : ¬ w.heap.size + 1 = w1.heap.size := by omega
  clear hown1 hg1 hsh
  go_loopw [7, 16] (fun _ i wr => ∃ (j : Nat) (ys : List Int), i = .int .i64 j ∧ j ≤ m ∧ ys.length = m ∧ ys.take j = tab j f ∧ St w wr [bx w1.heap.size 26 [.int .i64 n, .slice (some ⟨w.heap.size + 1, 0, none⟩) m m], il (.slice (some ⟨w.heap.size + 1, 0, none⟩) m m) m ys, bx w.heap.size 26 [.int .i64 0, .slice none 0 0]]) (fun _ i _ => m - (intOf i).toNat)
  case atStart => exact ⟨0, _, rfl, Nat.zero_le _, by simp, by simp [tab], HS1.out⟩
  case round =>
    obtain ⟨j, ys, rfl, hj, hy, ht, hS⟩ := hrel
    obtain ⟨b0, f0⟩ := hS.box (i := 0) rfl
    have b00 := b0 0 _ rfl
    have b01 := b0 1 _ rfl
    clear b0 f0
    have HL := Lib.hid hy
    have HT := Lib.hid ht
    have HS := Lib.hid hS
    by_cases hlt : j < m
    · obtain ⟨c1, c2⟩ := hS.cellI (i := 1) rfl hlt
      have hcall := Lib.hid (hf.out j hlt)
      have hj0 : (0 : Int) ≤ (j : Int) := by omega
      have hjn : (j : Int) < (m : Int) := by omega
      clear hS hy ht
      go_wp2
      go_region_held3 (fun w' => w'.cell? ⟨w1.heap.size, 1, none⟩ = some (.slice (some ⟨w.heap.size + 1, 0, none⟩) m m)) (first | assumption | go_keep) ((go_at_call 58; refine (hcall.out _ ?_).mono ?_; (first | exact HS.out.base | exact HS.out.drew.base); rintro e w2 ⟨rfl, q, rfl⟩))
      have hS2 := ((HS.out.drewN (1 + q)).setI (i := 1) rfl j (f j))
      have HS2 := Lib.hid hS2
      clear hS2
      go_wp2
      go_roundw
      case rel => exact ⟨j + 1, ys.set j (f j), by go_num, by omega, by rw [List.length_set]; exact HL.out, tab_set f HL.out HT.out hlt, HS2.out⟩
      case measure => simp [intOf]; omega
    · obtain rfl : j = m := by omega
      have hjn : ¬ (j : Int) < (j : Int) := by omega
      obtain rfl : ys = tab j f := by rw [← ht, List.take_of_length_le (by omega)]
      clear hS hy ht
      cases hfn : isFn n (tab j f)
      · obtain ⟨rfl, rfl, rfl⟩ : 0 = rn ∧ [] = rx ∧ false = rb := by simpa [made, hfn] using HR.out
        have HF := isFnI_tab n (some ⟨w.heap.size + 1, 0, none⟩) (tab j f) j j _ (tab_length _ _) (Lib.hid (HS.out.ints (i := 1) rfl))
        rw [hfn] at HF
        have HG := Lib.hid HF
        clear hfn HF
        go_wp2_with fail
        refine HG.out.mono ?_
        rintro e w2 ⟨rfl, hb⟩
        have hS2 := HS.out.below hb
        obtain ⟨b0, -⟩ := hS2.box (i := 0) rfl
        have b00' := b0 0 _ rfl
        have b01' := b0 1 _ rfl
        obtain ⟨r1, rf⟩ := hS2.box (i := 2) rfl
        have r10 := r1 0 _ rfl
        have r11 := r1 1 _ rfl
        have rf0 := rf 0
        have rf1 := rf 1
        clear b0 r1 rf hb b00 b01
        have HS2 := Lib.hid hS2
        clear hS2
        go_wp2
        have hZ := (HS2.out.store (i := 2) rfl 0 (.int .i64 0)).store (i := 2) rfl 1 (.slice none 0 0)
        exact bodyPost_ret (v := .tuple #[.agg #[.int .i64 0, .slice none 0 0], .bool false]) (by simp [results, Tryz.results38, go_sem, r10, r11, rf0, rf1]) rfl ⟨none, 0, rfl, Own.nil _ _, hZ.base⟩
      · obtain ⟨rfl, rfl, rfl⟩ : n = rn ∧ tab j f = rx ∧ true = rb := by simpa [made, hfn] using HR.out
        have HF := isFnI_tab n (some ⟨w.heap.size + 1, 0, none⟩) (tab j f) j j _ (tab_length _ _) (Lib.hid (HS.out.ints (i := 1) rfl))
        rw [hfn] at HF
        have HG := Lib.hid HF
        clear hfn HF
        go_wp2_with fail
        refine HG.out.mono ?_
        rintro e w2 ⟨rfl, hb⟩
        have hS2 := HS.out.below hb
        obtain ⟨b0, -⟩ := hS2.box (i := 0) rfl
        have b00' := b0 0 _ rfl
        have b01' := b0 1 _ rfl
        obtain ⟨r1, rf⟩ := hS2.box (i := 2) rfl
        have r10 := r1 0 _ rfl
        have r11 := r1 1 _ rfl
        have rf0 := rf 0
        have rf1 := rf 1
        clear b0 r1 rf hb b00 b01
        have HS2 := Lib.hid hS2
        clear hS2
        go_wp2
        have hZ := (HS2.out.store (i := 2) rfl 0 (.int .i64 n)).store (i := 2) rfl 1 (.slice (some ⟨w.heap.size + 1, 0, none⟩) j j)
        exact bodyPost_ret (v := .tuple #[.agg #[.int .i64 n, .slice (some ⟨w.heap.size + 1, 0, none⟩) j j], .bool true]) (by simp [results, Tryz.results38, go_sem, r10, r11, rf0, rf1, b00', b01']) rfl ⟨some ⟨w.heap.size + 1, 0, none⟩, j, by rw [tab_length], by rw [tab_length]; exact hZ.ownI (i := 1) rfl, hZ.base⟩


set_option maxRecDepth 100000 in
set_option maxHeartbeats 4000000 in
theorem make_add (n : Int) (m : Nat) (f : Nat → Int) (fb gb : Addr) (w : World) (h0 : 0 ≤ n) (h5 : n ≤ 5) (hm : m = 2 ^ n.toNat) (rn : Int) (rx : List Int) (rb : Bool) (HR : Hid (made n (tab m f) = (rn, rx, rb)))
    (hf : Hid (∀ j, j < m → ∀ W, Below w.heap.size w W → Calls Tryz.prog 39 #[.int .i64 j, .pointer (some fb), .pointer (some gb)] W (Gives W (f j)))) :
    Calls Tryz.prog 38 #[.int .i64 n, .func (.func 39) #[] #[.pointer (some fb), .pointer (some gb)]] w (RetFB w rn rx rb) := by
  have hsh := shl_one h0 (by omega) hm
  have hp := p2_le h0 h5
  rw [← hm] at hp
  obtain ⟨hp1, hp2⟩ := hp
  clear hm
  have HW := Lib.hid (St.start w)
  obtain ⟨i0, hi, hi0, hi1, hi2⟩ := info_parts info_int
  go_enter Tryz.func38, Tryz.ntmps38
  go_wp2_with (refine wpList_make_full _ rfl _ _ _ rfl (w.heap.size + 1) 3 i0 (.int .i64 0) 1 Tryz.underlying24 hi hi0 hi1 .i64 .i64 _ _ m rfl rfl (by simp [hsh]) (by simp [hsh]) (by rw [hi2]; omega) (by unfold maxLen; omega) (by simp) ?_; intro w1 hown1 hg1)
  rw [zeros] at hown1
  simp only [World.size_alloc] at hown1
  have HS1 := Lib.hid (show St w _ [bx w1.heap.size 26 [.int .i64 n, .slice (some ⟨w.heap.size + 1, 0, none⟩) m m], il (.slice (some ⟨w.heap.size + 1, 0, none⟩) m m) m (List.replicate m 0), bx w.heap.size 26 [.int .i64 0, .slice none 0 0]] from ((HW.out.alloc _ _).new ((Below.refl _ _).grown hg1 (Nat.le_refl _) (by simp)) (by rw [World.size_alloc]; exact hown1)).alloc _ _)
  have hz1 : w.heap.size + 1 < w1.heap.size := (hown1.lt _ rfl).2
  have hne : ¬ w.heap.size + 1 = w1.heap.size := by omega
  clear hown1 hg1 hsh
  go_loopw [7, 16] (fun _ i wr => ∃ (j : Nat) (ys : List Int), i = .int .i64 j ∧ j ≤ m ∧ ys.length = m ∧ ys.take j = tab j f ∧ St w wr [bx w1.heap.size 26 [.int .i64 n, .slice (some ⟨w.heap.size + 1, 0, none⟩) m m], il (.slice (some ⟨w.heap.size + 1, 0, none⟩) m m) m ys, bx w.heap.size 26 [.int .i64 0, .slice none 0 0]]) (fun _ i _ => m - (intOf i).toNat)
  case atStart => exact ⟨0, _, rfl, Nat.zero_le _, by simp, by simp [tab], HS1.out⟩
  case round =>
    obtain ⟨j, ys, rfl, hj, hy, ht, hS⟩ := hrel
    obtain ⟨b0, f0⟩ := hS.box (i := 0) rfl
    have b00 := b0 0 _ rfl
    have b01 := b0 1 _ rfl
    clear b0 f0
    have HL := Lib.hid hy
    have HT := Lib.hid ht
    have HS := Lib.hid hS
    by_cases hlt : j < m
    · obtain ⟨c1, c2⟩ := hS.cellI (i := 1) rfl hlt
      have hcall := Lib.hid (hf.out j hlt)
      have hj0 : (0 : Int) ≤ (j : Int) := by omega
      have hjn : (j : Int) < (m : Int) := by omega
      clear hS hy ht
      go_wp2
      go_region_held3 (fun w' => w'.cell? ⟨w1.heap.size, 1, none⟩ = some (.slice (some ⟨w.heap.size + 1, 0, none⟩) m m)) (first | assumption | go_keep) ((go_at_call 39; refine (hcall.out _ ?_).mono ?_; (first | exact HS.out.base | exact HS.out.drew.base); rintro e w2 ⟨rfl, q, rfl⟩))
      have hS2 := ((HS.out.drewN (1 + q)).setI (i := 1) rfl j (f j))
      have HS2 := Lib.hid hS2
      clear hS2
      go_wp2
      go_roundw
      case rel => exact ⟨j + 1, ys.set j (f j), by go_num, by omega, by rw [List.length_set]; exact HL.out, tab_set f HL.out HT.out hlt, HS2.out⟩
      case measure => simp [intOf]; omega
    · obtain rfl : j = m := by omega
      have hjn : ¬ (j : Int) < (j : Int) := by omega
      obtain rfl : ys = tab j f := by rw [← ht, List.take_of_length_le (by omega)]
      clear hS hy ht
      cases hfn : isFn n (tab j f)
      · obtain ⟨rfl, rfl, rfl⟩ : 0 = rn ∧ [] = rx ∧ false = rb := by simpa [made, hfn] using HR.out
        have HF := isFnI_tab n (some ⟨w.heap.size + 1, 0, none⟩) (tab j f) j j _ (tab_length _ _) (Lib.hid (HS.out.ints (i := 1) rfl))
        rw [hfn] at HF
        have HG := Lib.hid HF
        clear hfn HF
        go_wp2_with fail
        refine HG.out.mono ?_
        rintro e w2 ⟨rfl, hb⟩
        have hS2 := HS.out.below hb
        obtain ⟨b0, -⟩ := hS2.box (i := 0) rfl
        have b00' := b0 0 _ rfl
        have b01' := b0 1 _ rfl
        obtain ⟨r1, rf⟩ := hS2.box (i := 2) rfl
        have r10 := r1 0 _ rfl
        have r11 := r1 1 _ rfl
        have rf0 := rf 0
        have rf1 := rf 1
        clear b0 r1 rf hb b00 b01
        have HS2 := Lib.hid hS2
        clear hS2
        go_wp2
        have hZ := (HS2.out.store (i := 2) rfl 0 (.int .i64 0)).store (i := 2) rfl 1 (.slice none 0 0)
        exact bodyPost_ret (v := .tuple #[.agg #[.int .i64 0, .slice none 0 0], .bool false]) (by simp [results, Tryz.results38, go_sem, r10, r11, rf0, rf1]) rfl ⟨none, 0, rfl, Own.nil _ _, hZ.base⟩
      · obtain ⟨rfl, rfl, rfl⟩ : n = rn ∧ tab j f = rx ∧ true = rb := by simpa [made, hfn] using HR.out
        have HF := isFnI_tab n (some ⟨w.heap.size + 1, 0, none⟩) (tab j f) j j _ (tab_length _ _) (Lib.hid (HS.out.ints (i := 1) rfl))
        rw [hfn] at HF
        have HG := Lib.hid HF
        clear hfn HF
        go_wp2_with fail
        refine HG.out.mono ?_
        rintro e w2 ⟨rfl, hb⟩
        have hS2 := HS.out.below hb
        obtain ⟨b0, -⟩ := hS2.box (i := 0) rfl
        have b00' := b0 0 _ rfl
        have b01' := b0 1 _ rfl
        obtain ⟨r1, rf⟩ := hS2.box (i := 2) rfl
        have r10 := r1 0 _ rfl
        have r11 := r1 1 _ rfl
        have rf0 := rf 0
        have rf1 := rf 1
        clear b0 r1 rf hb b00 b01
        have HS2 := Lib.hid hS2
        clear hS2
        go_wp2
        have hZ := (HS2.out.store (i := 2) rfl 0 (.int .i64 n)).store (i := 2) rfl 1 (.slice (some ⟨w.heap.size + 1, 0, none⟩) j j)
        exact bodyPost_ret (v := .tuple #[.agg #[.int .i64 n, .slice (some ⟨w.heap.size + 1, 0, none⟩) j j], .bool true]) (by simp [results, Tryz.results38, go_sem, r10, r11, rf0, rf1, b00', b01']) rfl ⟨some ⟨w.heap.size + 1, 0, none⟩, j, by rw [tab_length], by rw [tab_length]; exact hZ.ownI (i := 1) rfl, hZ.base⟩


set_option maxRecDepth 100000 in
set_option maxHeartbeats 1600000 in
theorem scaleI_bad (n : Int) (A : Option Addr) (xs : List Int) (cap : Nat) (k : Int) (w : World) (h : Hid (Ints w w.heap.size A xs)) (hf : isFn n xs = false) :
    Calls Tryz.prog 21 #[.agg #[.int .i64 n, .slice A xs.length cap], .int .i64 k] w (RetFB w 0 [] false) := by
  have HF := Lib.hid hf
  clear hf
  have HW := Lib.hid (St.start w)
  have hmf : ∀ (fn : Fn) (first cap : Array Value) (w : World), (Instr.makeFunc fn first cap).run Tryz.prog w = .ok (.func fn first cap) w := fun _ _ _ _ => rfl
  go_enter Tryz.func21, Tryz.ntmps21
  go_wp2_with fail
  refine St.use (w0 := w) (by exact ((HW.out.alloc _ _).alloc _ _).alloc _ _) ?_
  intro hS
  simp only [World.size_alloc] at hS
  refine (isFnI_no n A xs cap _ (Lib.hid ((h.out.below hS.base).mono hS.size)) HF.out).mono ?_
  rintro e w1 ⟨rfl, hb⟩
  have hS1 := hS.below hb
  obtain ⟨r1, rf⟩ := hS1.box (i := 0) rfl
  have r10 := r1 0 _ rfl
  have r11 := r1 1 _ rfl
  have rf0 := rf 0
  have rf1 := rf 1
  clear r1 rf
  clear hS hb
  have HS1 := Lib.hid hS1
  clear hS1
  go_wp2
  have hZ := (HS1.out.store (i := 0) rfl 0 (.int .i64 0)).store (i := 0) rfl 1 (.slice none 0 0)
  exact bodyPost_ret (v := .tuple #[.agg #[.int .i64 0, .slice none 0 0], .bool false]) (by simp [results, Tryz.results21, go_sem, r10, r11, rf0, rf1]) rfl ⟨none, 0, rfl, Own.nil _ _, hZ.base⟩


set_option maxRecDepth 100000 in
set_option maxHeartbeats 1600000 in
theorem scaleI_lo (n : Int) (A : Option Addr) (xs : List Int) (cap : Nat) (k : Int) (w : World) (h : Hid (Ints w w.heap.size A xs)) (hf : isFn n xs = true) (hk : k < -1000) :
    Calls Tryz.prog 21 #[.agg #[.int .i64 n, .slice A xs.length cap], .int .i64 k] w (RetFB w 0 [] false) := by
  have HF := Lib.hid hf
  clear hf
  have HW := Lib.hid (St.start w)
  have hmf : ∀ (fn : Fn) (first cap : Array Value) (w : World), (Instr.makeFunc fn first cap).run Tryz.prog w = .ok (.func fn first cap) w := fun _ _ _ _ => rfl
  go_enter Tryz.func21, Tryz.ntmps21
  go_wp2_with fail
  refine St.use (w0 := w) (by exact ((HW.out.alloc _ _).alloc _ _).alloc _ _) ?_
  intro hS
  simp only [World.size_alloc] at hS
  refine (isFnI_yes n A xs cap _ (Lib.hid ((h.out.below hS.base).mono hS.size)) HF.out).mono ?_
  rintro e w1 ⟨rfl, hb⟩
  have hS1 := hS.below hb
  obtain ⟨r1, rf⟩ := hS1.box (i := 0) rfl
  have r10 := r1 0 _ rfl
  have r11 := r1 1 _ rfl
  have rf0 := rf 0
  have rf1 := rf 1
  clear r1 rf
  have kb0 := (hS1.box (i := 1) rfl).1 0 _ rfl
  clear hS hb
  have HS1 := Lib.hid hS1
  clear hS1
  go_wp2
  have hZ := (HS1.out.store (i := 0) rfl 0 (.int .i64 0)).store (i := 0) rfl 1 (.slice none 0 0)
  exact bodyPost_ret (v := .tuple #[.agg #[.int .i64 0, .slice none 0 0], .bool false]) (by simp [results, Tryz.results21, go_sem, r10, r11, rf0, rf1]) rfl ⟨none, 0, rfl, Own.nil _ _, hZ.base⟩


set_option maxRecDepth 100000 in
set_option maxHeartbeats 1600000 in
theorem scaleI_hi (n : Int) (A : Option Addr) (xs : List Int) (cap : Nat) (k : Int) (w : World) (h : Hid (Ints w w.heap.size A xs)) (hf : isFn n xs = true) (hk : 1000 < k) :
    Calls Tryz.prog 21 #[.agg #[.int .i64 n, .slice A xs.length cap], .int .i64 k] w (RetFB w 0 [] false) := by
  have HF := Lib.hid hf
  have hk2 : decide (k < -1000) = false := by simp; omega
  clear hf
  have HW := Lib.hid (St.start w)
  have hmf : ∀ (fn : Fn) (first cap : Array Value) (w : World), (Instr.makeFunc fn first cap).run Tryz.prog w = .ok (.func fn first cap) w := fun _ _ _ _ => rfl
  go_enter Tryz.func21, Tryz.ntmps21
  go_wp2_with fail
  refine St.use (w0 := w) (by exact ((HW.out.alloc _ _).alloc _ _).alloc _ _) ?_
  intro hS
  simp only [World.size_alloc] at hS
  refine (isFnI_yes n A xs cap _ (Lib.hid ((h.out.below hS.base).mono hS.size)) HF.out).mono ?_
  rintro e w1 ⟨rfl, hb⟩
  have hS1 := hS.below hb
  obtain ⟨r1, rf⟩ := hS1.box (i := 0) rfl
  have r10 := r1 0 _ rfl
  have r11 := r1 1 _ rfl
  have rf0 := rf 0
  have rf1 := rf 1
  clear r1 rf
  have kb0 := (hS1.box (i := 1) rfl).1 0 _ rfl
  clear hS hb
  have HS1 := Lib.hid hS1
  clear hS1
  go_wp2
  have hZ := (HS1.out.store (i := 0) rfl 0 (.int .i64 0)).store (i := 0) rfl 1 (.slice none 0 0)
  exact bodyPost_ret (v := .tuple #[.agg #[.int .i64 0, .slice none 0 0], .bool false]) (by simp [results, Tryz.results21, go_sem, r10, r11, rf0, rf1]) rfl ⟨none, 0, rfl, Own.nil _ _, hZ.base⟩


set_option maxRecDepth 100000 in
set_option maxHeartbeats 1600000 in
theorem lowerI_bad (n : Int) (A : Option Addr) (xs : List Int) (cap : Nat) (w : World) (h : Hid (Ints w w.heap.size A xs)) (hf : isFn n xs = false) :
    Calls Tryz.prog 24 #[.agg #[.int .i64 n, .slice A xs.length cap]] w (RetFB w 0 [] false) := by
  have HF := Lib.hid hf
  clear hf
  have HW := Lib.hid (St.start w)
  have hmf : ∀ (fn : Fn) (first cap : Array Value) (w : World), (Instr.makeFunc fn first cap).run Tryz.prog w = .ok (.func fn first cap) w := fun _ _ _ _ => rfl
  go_enter Tryz.func24, Tryz.ntmps24
  go_wp2_with fail
  refine St.use (w0 := w) (by exact (HW.out.alloc _ _).alloc _ _) ?_
  intro hS
  simp only [World.size_alloc] at hS
  refine (isFnI_no n A xs cap _ (Lib.hid ((h.out.below hS.base).mono hS.size)) HF.out).mono ?_
  rintro e w1 ⟨rfl, hb⟩
  have hS1 := hS.below hb
  obtain ⟨r1, rf⟩ := hS1.box (i := 0) rfl
  have r10 := r1 0 _ rfl
  have r11 := r1 1 _ rfl
  have rf0 := rf 0
  have rf1 := rf 1
  clear r1 rf
  clear hS hb
  have HS1 := Lib.hid hS1
  clear hS1
  go_wp2
  have hZ := (HS1.out.store (i := 0) rfl 0 (.int .i64 0)).store (i := 0) rfl 1 (.slice none 0 0)
  exact bodyPost_ret (v := .tuple #[.agg #[.int .i64 0, .slice none 0 0], .bool false]) (by simp [results, Tryz.results24, go_sem, r10, r11, rf0, rf1]) rfl ⟨none, 0, rfl, Own.nil _ _, hZ.base⟩


set_option maxRecDepth 100000 in
set_option maxHeartbeats 1600000 in
theorem addI_bad1 (n : Int) (A : Option Addr) (xs : List Int) (cap : Nat) (n2 : Int) (A2 : Option Addr) (ys : List Int) (cap2 : Nat) (w : World) (h : Hid (Ints w w.heap.size A xs)) (g : Hid (Ints w w.heap.size A2 ys)) (hf : isFn n xs = false) :
    Calls Tryz.prog 6 #[.agg #[.int .i64 n, .slice A xs.length cap], .agg #[.int .i64 n2, .slice A2 ys.length cap2]] w (RetFB w 0 [] false) := by
  have HF := Lib.hid hf
  clear hf
  have HW := Lib.hid (St.start w)
  have hmf : ∀ (fn : Fn) (first cap : Array Value) (w : World), (Instr.makeFunc fn first cap).run Tryz.prog w = .ok (.func fn first cap) w := fun _ _ _ _ => rfl
  go_enter Tryz.func6, Tryz.ntmps6
  go_wp2_with fail
  refine St.use (w0 := w) (by exact ((HW.out.alloc _ _).alloc _ _).alloc _ _) ?_
  intro hS
  simp only [World.size_alloc] at hS
  refine (isFnI_no n A xs cap _ (Lib.hid ((h.out.below hS.base).mono hS.size)) HF.out).mono ?_
  rintro e w1 ⟨rfl, hb⟩
  have hS1 := hS.below hb
  obtain ⟨r1, rf⟩ := hS1.box (i := 0) rfl
  have r10 := r1 0 _ rfl
  have r11 := r1 1 _ rfl
  have rf0 := rf 0
  have rf1 := rf 1
  clear r1 rf
  clear hS hb
  have HS1 := Lib.hid hS1
  clear hS1
  go_wp2
  have hZ := (HS1.out.store (i := 0) rfl 0 (.int .i64 0)).store (i := 0) rfl 1 (.slice none 0 0)
  exact bodyPost_ret (v := .tuple #[.agg #[.int .i64 0, .slice none 0 0], .bool false]) (by simp [results, Tryz.results6, go_sem, r10, r11, rf0, rf1]) rfl ⟨none, 0, rfl, Own.nil _ _, hZ.base⟩


set_option maxRecDepth 100000 in
set_option maxHeartbeats 1600000 in
theorem addI_bad2 (n : Int) (A : Option Addr) (xs : List Int) (cap : Nat) (n2 : Int) (A2 : Option Addr) (ys : List Int) (cap2 : Nat) (w : World) (h : Hid (Ints w w.heap.size A xs)) (g : Hid (Ints w w.heap.size A2 ys)) (hf : isFn n xs = true) (hg : isFn n2 ys = false) :
    Calls Tryz.prog 6 #[.agg #[.int .i64 n, .slice A xs.length cap], .agg #[.int .i64 n2, .slice A2 ys.length cap2]] w (RetFB w 0 [] false) := by
  have HF := Lib.hid hf
  have HG := Lib.hid hg
  clear hf hg
  have HW := Lib.hid (St.start w)
  have hmf : ∀ (fn : Fn) (first cap : Array Value) (w : World), (Instr.makeFunc fn first cap).run Tryz.prog w = .ok (.func fn first cap) w := fun _ _ _ _ => rfl
  go_enter Tryz.func6, Tryz.ntmps6
  go_wp2_with fail
  refine St.use (w0 := w) (by exact ((HW.out.alloc _ _).alloc _ _).alloc _ _) ?_
  intro hS
  simp only [World.size_alloc] at hS
  refine (isFnI_yes n A xs cap _ (Lib.hid ((h.out.below hS.base).mono hS.size)) HF.out).mono ?_
  rintro e w1 ⟨rfl, hb⟩
  have hS1 := hS.below hb
  obtain ⟨b, -⟩ := hS1.box (i := 2) rfl
  have b0 := b 0 _ rfl
  have b1 := b 1 _ rfl
  clear b
  obtain ⟨c, -⟩ := hS1.box (i := 1) rfl
  have c0 := c 0 _ rfl
  have c1 := c 1 _ rfl
  clear c
  clear hS hb
  have HS1 := Lib.hid hS1
  clear hS1
  go_wp2_with fail
  have hS := HS1.out
  refine (isFnI_no n2 A2 ys cap2 _ (Lib.hid ((g.out.below hS.base).mono hS.size)) HG.out).mono ?_
  rintro e w2 ⟨rfl, hb⟩
  have hS1 := hS.below hb
  clear b0 b1 c0 c1
  obtain ⟨r1, rf⟩ := hS1.box (i := 0) rfl
  have r10 := r1 0 _ rfl
  have r11 := r1 1 _ rfl
  have rf0 := rf 0
  have rf1 := rf 1
  clear r1 rf
  clear hS hb
  have HS2 := Lib.hid hS1
  clear hS1
  go_wp2
  have hZ := (HS2.out.store (i := 0) rfl 0 (.int .i64 0)).store (i := 0) rfl 1 (.slice none 0 0)
  exact bodyPost_ret (v := .tuple #[.agg #[.int .i64 0, .slice none 0 0], .bool false]) (by simp [results, Tryz.results6, go_sem, r10, r11, rf0, rf1]) rfl ⟨none, 0, rfl, Own.nil _ _, hZ.base⟩


set_option maxRecDepth 100000 in
set_option maxHeartbeats 1600000 in
theorem addI_ne (n : Int) (A : Option Addr) (xs : List Int) (cap : Nat) (n2 : Int) (A2 : Option Addr) (ys : List Int) (cap2 : Nat) (w : World) (h : Hid (Ints w w.heap.size A xs)) (g : Hid (Ints w w.heap.size A2 ys)) (hf : isFn n xs = true) (hg : isFn n2 ys = true) (hn : n ≠ n2) :
    Calls Tryz.prog 6 #[.agg #[.int .i64 n, .slice A xs.length cap], .agg #[.int .i64 n2, .slice A2 ys.length cap2]] w (RetFB w 0 [] false) := by
  have hb1 : (n == n2) = false := beq_eq_false_iff_ne.2 hn
  have hb2 : (n != n2) = true := bne_iff_ne.2 hn
  have HF := Lib.hid hf
  have HG := Lib.hid hg
  clear hf hg hn
  have HW := Lib.hid (St.start w)
  have hmf : ∀ (fn : Fn) (first cap : Array Value) (w : World), (Instr.makeFunc fn first cap).run Tryz.prog w = .ok (.func fn first cap) w := fun _ _ _ _ => rfl
  go_enter Tryz.func6, Tryz.ntmps6
  go_wp2_with fail
  refine St.use (w0 := w) (by exact ((HW.out.alloc _ _).alloc _ _).alloc _ _) ?_
  intro hS
  simp only [World.size_alloc] at hS
  refine (isFnI_yes n A xs cap _ (Lib.hid ((h.out.below hS.base).mono hS.size)) HF.out).mono ?_
  rintro e w1 ⟨rfl, hb⟩
  have hS1 := hS.below hb
  obtain ⟨b, -⟩ := hS1.box (i := 2) rfl
  have b0 := b 0 _ rfl
  have b1 := b 1 _ rfl
  clear b
  obtain ⟨c, -⟩ := hS1.box (i := 1) rfl
  have c0 := c 0 _ rfl
  have c1 := c 1 _ rfl
  clear c
  clear hS hb
  have HS1 := Lib.hid hS1
  clear hS1
  go_wp2_with fail
  have hS := HS1.out
  refine (isFnI_yes n2 A2 ys cap2 _ (Lib.hid ((g.out.below hS.base).mono hS.size)) HG.out).mono ?_
  rintro e w2 ⟨rfl, hb⟩
  have hS1 := hS.below hb
  clear b0 b1 c0 c1
  obtain ⟨b, -⟩ := hS1.box (i := 2) rfl
  have b0 := b 0 _ rfl
  have b1 := b 1 _ rfl
  clear b
  obtain ⟨c, -⟩ := hS1.box (i := 1) rfl
  have c0 := c 0 _ rfl
  have c1 := c 1 _ rfl
  clear c
  obtain ⟨r1, rf⟩ := hS1.box (i := 0) rfl
  have r10 := r1 0 _ rfl
  have r11 := r1 1 _ rfl
  have rf0 := rf 0
  have rf1 := rf 1
  clear r1 rf
  clear hS hb
  have HS2 := Lib.hid hS1
  clear hS1
  go_wp2
  have hZ := (HS2.out.store (i := 0) rfl 0 (.int .i64 0)).store (i := 0) rfl 1 (.slice none 0 0)
  exact bodyPost_ret (v := .tuple #[.agg #[.int .i64 0, .slice none 0 0], .bool false]) (by simp [results, Tryz.results6, go_sem, r10, r11, rf0, rf1]) rfl ⟨none, 0, rfl, Own.nil _ _, hZ.base⟩



end Go.Proofs.YtielfnjkfceliaaGreatDoor.C
