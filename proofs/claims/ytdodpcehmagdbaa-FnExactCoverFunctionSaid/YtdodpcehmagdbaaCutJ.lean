/-
  The contracts of impl.CutFunction, impl.DirectedCut and impl.CoverFunction.
-/
import Derived.Test.YtdodpcehmagdbaaCutI
import Derived.Test.YtdodpcehmagdbaaMakeCut
import Derived.Test.YtdodpcehmagdbaaMakeDcut
import Derived.Test.YtdodpcehmagdbaaMakeCover
namespace Go.Proofs.Ytdodpcehmagdbaa.C
open Go.RowKit K M
set_option linter.unusedVariables false
set_option linter.unusedSimpArgs false

set_option maxRecDepth 100000 in
set_option maxHeartbeats 3200000 in
theorem cutC (N m S : Nat) (A : Option Addr) (xs : List Int) (cap lb nb : Nat) (w : World) (hl : Hid (xs.length = m * 3)) (h : Hid (Ints w w.heap.size A xs)) (hS : S < 2 ^ N) (h5 : N ≤ 5) (h20 : m ≤ 20) (hv : ∀ i, i < m → edgeOk (N : Int) xs i)
    (hc : w.cell? ⟨lb, 0, none⟩ = some (.slice A m cap)) (hn : w.cell? ⟨nb, 0, none⟩ = some (.int .i64 N)) (lc : lb < w.heap.size) (ln : nb < w.heap.size) :
    Calls Try.prog 38 #[.int .i64 S, .pointer (some ⟨lb, 0, none⟩), .pointer (some ⟨nb, 0, none⟩)] w (RetV w (.int .i64 (cutV xs m S))) := by
  have HW := Lib.hid (St.start w)
  have HR := Lib.hid (St.start w)
  have hp : 2 ^ N ≤ 2 ^ 5 := Nat.pow_le_pow_right (by decide) h5
  have hx : S ^^^ (2 ^ N - 1) < 2 ^ N := Nat.xor_lt_two_pow hS (by omega)
  have htwo := leave_two hv S
  have HC1 := Lib.hid (fun W hW => leaveI_any S N m A xs cap W hl (Lib.hid hW) (by omega) h5 h20 hv)
  have HC2 := Lib.hid (fun W hW => leaveI_any (S ^^^ (2 ^ N - 1)) N m A xs cap W hl (Lib.hid hW) (by omega) h5 h20 hv)
  have HX := Lib.hid (fun W => compl_any S N W (by omega) h5)
  obtain ⟨a0, a1⟩ := sumIf_bd (b := leaveB xs S) (edge_wt hv) m (Nat.le_refl _)
  obtain ⟨b0, b1⟩ := sumIf_bd (b := leaveB xs (S ^^^ (2 ^ N - 1))) (edge_wt hv) m (Nat.le_refl _)
  unfold dcutV at htwo
  rw [← htwo]
  generalize sumIf (leaveB xs S) (wtE xs) m = y1 at HC1 a0 a1 ⊢
  generalize S ^^^ (2 ^ N - 1) = S' at HC2 HX b0 b1 ⊢
  generalize sumIf (leaveB xs S') (wtE xs) m = y2 at HC2 b0 b1 ⊢
  have hw : IntKind.i64.wrap (y1 + y2) = y1 + y2 := IntWalk.i64_in _ (by omega)
  clear hv htwo hp hx hS
  go_enter Try.func38, Try.ntmps38
  go_wp2
  go_region_held3 (fun w' => w'.cell? ⟨lb, 0, none⟩ = some (.slice A m cap) ∧ w'.cell? ⟨nb, 0, none⟩ = some (.int .i64 N)) (first | (refine ⟨?_, ?_⟩ <;> assumption) | assumption | go_keep) (first | (go_at_call_of 39 (Value.int .i64 (S : Int)); refine St.use (w0 := w) (L := []) (by first | exact HR.out | exact HR.out.drew | exact HR.out.drewN _) ?_; intro hS; refine (HC1.out _ ((h.out.below hS.base).mono hS.size)).mono ?_; rintro e wq ⟨rfl, hb⟩; have hS1 := hS.below hb; have hc' := (hb.cell (p := ⟨lb, 0, none⟩) (Nat.lt_of_lt_of_le lc hS.size)).trans ((hS.base.cell (p := ⟨lb, 0, none⟩) lc).trans hc); have hn' := (hb.cell (p := ⟨nb, 0, none⟩) (Nat.lt_of_lt_of_le ln hS.size)).trans ((hS.base.cell (p := ⟨nb, 0, none⟩) ln).trans hn); clear hS; have HR := Lib.hid hS1; clear hS1) | (go_at_call_of 39 (Value.int .i64 (S' : Int)); refine St.use (w0 := w) (L := []) (by first | exact HR.out | exact HR.out.drew | exact HR.out.drewN _) ?_; intro hS; refine (HC2.out _ ((h.out.below hS.base).mono hS.size)).mono ?_; rintro e wq ⟨rfl, hb⟩; have hS1 := hS.below hb; have hc' := (hb.cell (p := ⟨lb, 0, none⟩) (Nat.lt_of_lt_of_le lc hS.size)).trans ((hS.base.cell (p := ⟨lb, 0, none⟩) lc).trans hc); have hn' := (hb.cell (p := ⟨nb, 0, none⟩) (Nat.lt_of_lt_of_le ln hS.size)).trans ((hS.base.cell (p := ⟨nb, 0, none⟩) ln).trans hn); clear hS; have HR := Lib.hid hS1; clear hS1) | (go_at_call 40; refine (HX.out _).mono ?_; rintro e w' ⟨rfl, rfl⟩))
  all_goals (go_wp2; go_ret; exact ⟨rfl, by first | exact HR.out.base | exact HR.out.drew.base | exact (HR.out.drewN _).base⟩)

set_option maxRecDepth 100000 in
set_option maxHeartbeats 1600000 in
theorem dcutC (N m S : Nat) (A : Option Addr) (xs : List Int) (cap lb : Nat) (w : World) (hl : Hid (xs.length = m * 3)) (h : Hid (Ints w w.heap.size A xs)) (hS : S < 2 ^ N) (h5 : N ≤ 5) (h20 : m ≤ 20) (hv : ∀ i, i < m → edgeOk (N : Int) xs i)
    (hc : w.cell? ⟨lb, 0, none⟩ = some (.slice A m cap)) :
    Calls Try.prog 43 #[.int .i64 S, .pointer (some ⟨lb, 0, none⟩)] w (RetV w (.int .i64 (dcutV xs m S))) := by
  have hp : 2 ^ N ≤ 2 ^ 5 := Nat.pow_le_pow_right (by decide) h5
  have HC := Lib.hid (leaveI_any S N m A xs cap w hl h (by omega) h5 h20 hv)
  unfold dcutV
  generalize sumIf (leaveB xs S) (wtE xs) m = y at HC ⊢
  clear hv hS hp
  go_enter Try.func43, Try.ntmps43
  go_wp2_with (go_at_call 39; refine HC.out.mono ?_; rintro e w1 ⟨rfl, hb⟩; have HB := Lib.hid hb; clear hb)
  go_ret
  exact ⟨rfl, HB.out⟩

set_option maxRecDepth 100000 in
set_option maxHeartbeats 1600000 in
theorem coverC (N m S : Nat) (A : Option Addr) (xs : List Int) (cap lb : Nat) (w : World) (hl : Hid (xs.length = m * 2)) (h : Hid (Ints w w.heap.size A xs)) (hS : S < 2 ^ N) (h5 : N ≤ 5) (h20 : m ≤ 20) (hv : ∀ i, i < m → blockOk (N : Int) xs i)
    (hc : w.cell? ⟨lb, 0, none⟩ = some (.slice A m cap)) :
    Calls Try.prog 47 #[.int .i64 S, .pointer (some ⟨lb, 0, none⟩)] w (RetV w (.int .i64 (coverV xs m S))) := by
  have hp : 2 ^ N ≤ 2 ^ 5 := Nat.pow_le_pow_right (by decide) h5
  have HC := Lib.hid (metI_any S N m A xs cap w hl h (by omega) h5 h20 hv)
  unfold coverV
  generalize sumIf (meetB xs S) (wtB xs) m = y at HC ⊢
  clear hv hS hp
  go_enter Try.func47, Try.ntmps47
  go_wp2_with (go_at_call 48; refine HC.out.mono ?_; rintro e w1 ⟨rfl, hb⟩; have HB := Lib.hid hb; clear hb)
  go_ret
  exact ⟨rfl, HB.out⟩

set_option maxRecDepth 100000 in
set_option maxHeartbeats 1600000 in
theorem cutI_no (n : Int) (m : Nat) (A : Option Addr) (xs : List Int) (cap : Nat) (w : World) (hl : Hid (xs.length = m * 3)) (h : Hid (Ints w w.heap.size A xs)) (hno : ¬ (0 ≤ n ∧ n ≤ 5 ∧ edgesOk n m xs)) :
    Calls Try.prog 11 #[.int .i64 n, .slice A m cap] w (RetFB w 0 [] false) := by
  have HW := Lib.hid (St.start w)
  have HA := Lib.hid (fun W hW => edgesI_any n m A xs cap W hl (Lib.hid hW))
  rw [decide_eq_false hno] at HA
  clear hno
  go_enter Try.func11, Try.ntmps11
  go_wp2_with (go_at_call 36; refine St.use (w0 := w) (by exact (((HW.out.alloc _ _).alloc _ _).alloc _ _)) ?_; intro hS; (try simp only [World.size_alloc] at hS); refine (HA.out _ ((h.out.below hS.base).mono hS.size)).mono ?_; rintro e w1 ⟨rfl, hb⟩; have hS1 := hS.below hb; obtain ⟨u0, uf⟩ := hS1.box (i := 0) rfl; have u00 := u0 0 _ rfl; have u01 := u0 1 _ rfl; have uf0 := uf 0; have uf1 := uf 1; have ul := (hS1.lt (i := 0) rfl).2; obtain ⟨l0, -⟩ := hS1.box (i := 1) rfl; have l00 := l0 0 _ rfl; have ll := (hS1.lt (i := 1) rfl).2; clear u0 uf l0; obtain ⟨n0', -⟩ := hS1.box (i := 2) rfl; have n00 := n0' 0 _ rfl; have nl := (hS1.lt (i := 2) rfl).2; clear n0'; have HS1 := Lib.hid hS1; clear hS hb hS1)
  have hZ := (HS1.out.store (i := 0) rfl 0 (.int .i64 0)).store (i := 0) rfl 1 (.slice none 0 0)
  exact bodyPost_ret (v := .tuple #[.agg #[.int .i64 0, .slice none 0 0], .bool false]) (by simp [results, Try.results11, go_sem, u00, u01, uf0, uf1, ul]) rfl ⟨none, 0, rfl, Own.nil _ _, by first | exact hZ.base | exact HS1.out.base⟩

set_option maxRecDepth 100000 in
set_option maxHeartbeats 4000000 in
theorem cutI_good (N m : Nat) (A : Option Addr) (xs : List Int) (cap : Nat) (w : World) (hl : Hid (xs.length = m * 3)) (h : Hid (Ints w w.heap.size A xs)) (h5 : N ≤ 5) (ho : edgesOk (N : Int) m xs) (f : Nat → Int) (hf : ∀ s, cutV xs m s = f s) :
    Calls Try.prog 11 #[.int .i64 N, .slice A m cap] w (RetFB w (made (N : Int) (tab (2 ^ N) f)).1 (made (N : Int) (tab (2 ^ N) f)).2.1 (made (N : Int) (tab (2 ^ N) f)).2.2) := by
  have HW := Lib.hid (St.start w)
  obtain ⟨rn, rx, rb, hr⟩ : ∃ rn rx rb, made (N : Int) (tab (2 ^ N) f) = (rn, rx, rb) := ⟨_, _, _, rfl⟩
  rw [hr]
  have HR := Lib.hid hr
  have HA := Lib.hid (fun W hW => edgesI_any (N : Int) m A xs cap W hl (Lib.hid hW))
  rw [decide_eq_true (show 0 ≤ (N : Int) ∧ (N : Int) ≤ 5 ∧ edgesOk (N : Int) m xs from ⟨by omega, by omega, ho⟩)] at HA
  have hC := Lib.hid (fun (W : World) (S lb nb : Nat) (hW : Ints W W.heap.size A xs) (hS : S < 2 ^ N) (hc : W.cell? ⟨lb, 0, none⟩ = some (.slice A m cap)) (hn : W.cell? ⟨nb, 0, none⟩ = some (.int .i64 (N : Int))) (l1 : lb < W.heap.size) (l2 : nb < W.heap.size) => show Calls Try.prog 38 #[.int .i64 S, .pointer (some ⟨lb, 0, none⟩), .pointer (some ⟨nb, 0, none⟩)] W (RetV W (.int .i64 (f S))) from by
    have := cutC N m S A xs cap lb nb W hl (Lib.hid hW) hS h5 ho.1 ho.2 hc hn l1 l2
    rwa [hf] at this)
  clear ho hf hr
  have HK := Lib.hid (fun (W : World) => make_cut (N : Int) (2 ^ N) f (.pointer (some ⟨w.heap.size + 1, 0, none⟩)) (.pointer (some ⟨w.heap.size, 0, none⟩)) W (by omega) (by omega) (by rw [Int.toNat_natCast]) rn rx rb HR)
  go_enter Try.func11, Try.ntmps11
  go_wp2_with (first | (go_at_call 36; refine St.use (w0 := w) (by exact (((HW.out.alloc _ _).alloc _ _).alloc _ _)) ?_; intro hS; (try simp only [World.size_alloc] at hS); refine (HA.out _ ((h.out.below hS.base).mono hS.size)).mono ?_; rintro e w1 ⟨rfl, hb⟩; have hS1 := hS.below hb; obtain ⟨u0, uf⟩ := hS1.box (i := 0) rfl; have u00 := u0 0 _ rfl; have u01 := u0 1 _ rfl; have uf0 := uf 0; have uf1 := uf 1; have ul := (hS1.lt (i := 0) rfl).2; obtain ⟨l0, -⟩ := hS1.box (i := 1) rfl; have l00 := l0 0 _ rfl; have ll := (hS1.lt (i := 1) rfl).2; clear u0 uf l0; obtain ⟨n0', -⟩ := hS1.box (i := 2) rfl; have n00 := n0' 0 _ rfl; have nl := (hS1.lt (i := 2) rfl).2; clear n0'; have HS1 := Lib.hid hS1; clear hS hb hS1) | (go_at_call 37; refine (HK.out _ (Lib.hid fun j hj W hW => hC.out W j _ _ ((h.out.below (HS1.out.base.trans (hW.mono HS1.out.size))).mono (Nat.le_trans HS1.out.size hW.size)) hj ((hW.cell (p := ⟨w.heap.size + 1, 0, none⟩) ll).trans l00) ((hW.cell (p := ⟨w.heap.size, 0, none⟩) nl).trans n00) (Nat.lt_of_lt_of_le ll hW.size) (Nat.lt_of_lt_of_le nl hW.size))).mono ?_; rintro e w2 ⟨B, d, rfl, ho, hb⟩; have hS2 := HS1.out.newI hb ho; obtain ⟨r1, rf⟩ := hS2.box (i := 1) rfl; have r10 := r1 0 _ rfl; have r11 := r1 1 _ rfl; have rf0 := rf 0; have rf1 := rf 1; have rl := (hS2.lt (i := 1) rfl).2; clear u00 u01 uf0 uf1; have HS2 := Lib.hid hS2; clear r1 rf hb ho hS2))
  have hZ := (HS2.out.store (i := 1) rfl 0 (.int .i64 rn)).store (i := 1) rfl 1 (.slice B rx.length d)
  exact bodyPost_ret (v := .tuple #[.agg #[.int .i64 rn, .slice B rx.length d], .bool rb]) (by simp [results, Try.results11, go_sem, r10, r11, rf0, rf1, rl]) rfl ⟨B, d, rfl, hZ.ownI (i := 0) rfl, hZ.base⟩

theorem cutI_any (n : Int) (m : Nat) (A : Option Addr) (xs : List Int) (cap : Nat) (w : World) (hl : Hid (xs.length = m * 3)) (h : Hid (Ints w w.heap.size A xs)) :
    Calls Try.prog 11 #[.int .i64 n, .slice A m cap] w (RetFB w (cutFn n m xs).1 (cutFn n m xs).2.1 (cutFn n m xs).2.2) := by
  by_cases hh : 0 ≤ n ∧ n ≤ 5 ∧ edgesOk n m xs
  · have e : cutFn n m xs = made n (tab (2 ^ n.toNat) (cutV xs m)) := if_pos hh
    rw [e]
    obtain ⟨N, rfl⟩ := Int.eq_ofNat_of_zero_le hh.1
    rw [Int.toNat_natCast]
    exact cutI_good N m A xs cap w hl h (by omega) hh.2.2 _ fun s => rfl
  · have e : cutFn n m xs = (0, [], false) := if_neg hh
    rw [e]
    exact cutI_no n m A xs cap w hl h hh

set_option maxRecDepth 100000 in
set_option maxHeartbeats 1600000 in
theorem dcutI_no (n : Int) (m : Nat) (A : Option Addr) (xs : List Int) (cap : Nat) (w : World) (hl : Hid (xs.length = m * 3)) (h : Hid (Ints w w.heap.size A xs)) (hno : ¬ (0 ≤ n ∧ n ≤ 5 ∧ edgesOk n m xs)) :
    Calls Try.prog 18 #[.int .i64 n, .slice A m cap] w (RetFB w 0 [] false) := by
  have HW := Lib.hid (St.start w)
  have HA := Lib.hid (fun W hW => edgesI_any n m A xs cap W hl (Lib.hid hW))
  rw [decide_eq_false hno] at HA
  clear hno
  go_enter Try.func18, Try.ntmps18
  go_wp2_with (go_at_call 36; refine St.use (w0 := w) (by exact ((HW.out.alloc _ _).alloc _ _)) ?_; intro hS; (try simp only [World.size_alloc] at hS); refine (HA.out _ ((h.out.below hS.base).mono hS.size)).mono ?_; rintro e w1 ⟨rfl, hb⟩; have hS1 := hS.below hb; obtain ⟨u0, uf⟩ := hS1.box (i := 0) rfl; have u00 := u0 0 _ rfl; have u01 := u0 1 _ rfl; have uf0 := uf 0; have uf1 := uf 1; have ul := (hS1.lt (i := 0) rfl).2; obtain ⟨l0, -⟩ := hS1.box (i := 1) rfl; have l00 := l0 0 _ rfl; have ll := (hS1.lt (i := 1) rfl).2; clear u0 uf l0; have HS1 := Lib.hid hS1; clear hS hb hS1)
  have hZ := (HS1.out.store (i := 0) rfl 0 (.int .i64 0)).store (i := 0) rfl 1 (.slice none 0 0)
  exact bodyPost_ret (v := .tuple #[.agg #[.int .i64 0, .slice none 0 0], .bool false]) (by simp [results, Try.results18, go_sem, u00, u01, uf0, uf1, ul]) rfl ⟨none, 0, rfl, Own.nil _ _, by first | exact hZ.base | exact HS1.out.base⟩

set_option maxRecDepth 100000 in
set_option maxHeartbeats 4000000 in
theorem dcutI_good (N m : Nat) (A : Option Addr) (xs : List Int) (cap : Nat) (w : World) (hl : Hid (xs.length = m * 3)) (h : Hid (Ints w w.heap.size A xs)) (h5 : N ≤ 5) (ho : edgesOk (N : Int) m xs) (f : Nat → Int) (hf : ∀ s, dcutV xs m s = f s) :
    Calls Try.prog 18 #[.int .i64 N, .slice A m cap] w (RetFB w (made (N : Int) (tab (2 ^ N) f)).1 (made (N : Int) (tab (2 ^ N) f)).2.1 (made (N : Int) (tab (2 ^ N) f)).2.2) := by
  have HW := Lib.hid (St.start w)
  obtain ⟨rn, rx, rb, hr⟩ : ∃ rn rx rb, made (N : Int) (tab (2 ^ N) f) = (rn, rx, rb) := ⟨_, _, _, rfl⟩
  rw [hr]
  have HR := Lib.hid hr
  have HA := Lib.hid (fun W hW => edgesI_any (N : Int) m A xs cap W hl (Lib.hid hW))
  rw [decide_eq_true (show 0 ≤ (N : Int) ∧ (N : Int) ≤ 5 ∧ edgesOk (N : Int) m xs from ⟨by omega, by omega, ho⟩)] at HA
  have hC := Lib.hid (fun (W : World) (S lb : Nat) (hW : Ints W W.heap.size A xs) (hS : S < 2 ^ N) (hc : W.cell? ⟨lb, 0, none⟩ = some (.slice A m cap)) => show Calls Try.prog 43 #[.int .i64 S, .pointer (some ⟨lb, 0, none⟩)] W (RetV W (.int .i64 (f S))) from by
    have := dcutC N m S A xs cap lb W hl (Lib.hid hW) hS h5 ho.1 ho.2 hc 
    rwa [hf] at this)
  clear ho hf hr
  have HK := Lib.hid (fun (W : World) => make_dcut (N : Int) (2 ^ N) f (.pointer (some ⟨w.heap.size, 0, none⟩)) W (by omega) (by omega) (by rw [Int.toNat_natCast]) rn rx rb HR)
  go_enter Try.func18, Try.ntmps18
  go_wp2_with (first | (go_at_call 36; refine St.use (w0 := w) (by exact ((HW.out.alloc _ _).alloc _ _)) ?_; intro hS; (try simp only [World.size_alloc] at hS); refine (HA.out _ ((h.out.below hS.base).mono hS.size)).mono ?_; rintro e w1 ⟨rfl, hb⟩; have hS1 := hS.below hb; obtain ⟨u0, uf⟩ := hS1.box (i := 0) rfl; have u00 := u0 0 _ rfl; have u01 := u0 1 _ rfl; have uf0 := uf 0; have uf1 := uf 1; have ul := (hS1.lt (i := 0) rfl).2; obtain ⟨l0, -⟩ := hS1.box (i := 1) rfl; have l00 := l0 0 _ rfl; have ll := (hS1.lt (i := 1) rfl).2; clear u0 uf l0; have HS1 := Lib.hid hS1; clear hS hb hS1) | (go_at_call 37; refine (HK.out _ (Lib.hid fun j hj W hW => hC.out W j _ ((h.out.below (HS1.out.base.trans (hW.mono HS1.out.size))).mono (Nat.le_trans HS1.out.size hW.size)) hj ((hW.cell (p := ⟨w.heap.size, 0, none⟩) ll).trans l00))).mono ?_; rintro e w2 ⟨B, d, rfl, ho, hb⟩; have hS2 := HS1.out.newI hb ho; obtain ⟨r1, rf⟩ := hS2.box (i := 1) rfl; have r10 := r1 0 _ rfl; have r11 := r1 1 _ rfl; have rf0 := rf 0; have rf1 := rf 1; have rl := (hS2.lt (i := 1) rfl).2; clear u00 u01 uf0 uf1; have HS2 := Lib.hid hS2; clear r1 rf hb ho hS2))
  have hZ := (HS2.out.store (i := 1) rfl 0 (.int .i64 rn)).store (i := 1) rfl 1 (.slice B rx.length d)
  exact bodyPost_ret (v := .tuple #[.agg #[.int .i64 rn, .slice B rx.length d], .bool rb]) (by simp [results, Try.results18, go_sem, r10, r11, rf0, rf1, rl]) rfl ⟨B, d, rfl, hZ.ownI (i := 0) rfl, hZ.base⟩

theorem dcutI_any (n : Int) (m : Nat) (A : Option Addr) (xs : List Int) (cap : Nat) (w : World) (hl : Hid (xs.length = m * 3)) (h : Hid (Ints w w.heap.size A xs)) :
    Calls Try.prog 18 #[.int .i64 n, .slice A m cap] w (RetFB w (dcutFn n m xs).1 (dcutFn n m xs).2.1 (dcutFn n m xs).2.2) := by
  by_cases hh : 0 ≤ n ∧ n ≤ 5 ∧ edgesOk n m xs
  · have e : dcutFn n m xs = made n (tab (2 ^ n.toNat) (dcutV xs m)) := if_pos hh
    rw [e]
    obtain ⟨N, rfl⟩ := Int.eq_ofNat_of_zero_le hh.1
    rw [Int.toNat_natCast]
    exact dcutI_good N m A xs cap w hl h (by omega) hh.2.2 _ fun s => rfl
  · have e : dcutFn n m xs = (0, [], false) := if_neg hh
    rw [e]
    exact dcutI_no n m A xs cap w hl h hh

set_option maxRecDepth 100000 in
set_option maxHeartbeats 1600000 in
theorem coverI_no (n : Int) (m : Nat) (A : Option Addr) (xs : List Int) (cap : Nat) (w : World) (hl : Hid (xs.length = m * 2)) (h : Hid (Ints w w.heap.size A xs)) (hno : ¬ (0 ≤ n ∧ n ≤ 5 ∧ blocksOk n m xs)) :
    Calls Try.prog 22 #[.int .i64 n, .slice A m cap] w (RetFB w 0 [] false) := by
  have HW := Lib.hid (St.start w)
  have HA := Lib.hid (fun W hW => blocksI_any n m A xs cap W hl (Lib.hid hW))
  rw [decide_eq_false hno] at HA
  clear hno
  go_enter Try.func22, Try.ntmps22
  go_wp2_with (go_at_call 46; refine St.use (w0 := w) (by exact ((HW.out.alloc _ _).alloc _ _)) ?_; intro hS; (try simp only [World.size_alloc] at hS); refine (HA.out _ ((h.out.below hS.base).mono hS.size)).mono ?_; rintro e w1 ⟨rfl, hb⟩; have hS1 := hS.below hb; obtain ⟨u0, uf⟩ := hS1.box (i := 0) rfl; have u00 := u0 0 _ rfl; have u01 := u0 1 _ rfl; have uf0 := uf 0; have uf1 := uf 1; have ul := (hS1.lt (i := 0) rfl).2; obtain ⟨l0, -⟩ := hS1.box (i := 1) rfl; have l00 := l0 0 _ rfl; have ll := (hS1.lt (i := 1) rfl).2; clear u0 uf l0; have HS1 := Lib.hid hS1; clear hS hb hS1)
  have hZ := (HS1.out.store (i := 0) rfl 0 (.int .i64 0)).store (i := 0) rfl 1 (.slice none 0 0)
  exact bodyPost_ret (v := .tuple #[.agg #[.int .i64 0, .slice none 0 0], .bool false]) (by simp [results, Try.results22, go_sem, u00, u01, uf0, uf1, ul]) rfl ⟨none, 0, rfl, Own.nil _ _, by first | exact hZ.base | exact HS1.out.base⟩

set_option maxRecDepth 100000 in
set_option maxHeartbeats 4000000 in
theorem coverI_good (N m : Nat) (A : Option Addr) (xs : List Int) (cap : Nat) (w : World) (hl : Hid (xs.length = m * 2)) (h : Hid (Ints w w.heap.size A xs)) (h5 : N ≤ 5) (ho : blocksOk (N : Int) m xs) (f : Nat → Int) (hf : ∀ s, coverV xs m s = f s) :
    Calls Try.prog 22 #[.int .i64 N, .slice A m cap] w (RetFB w (made (N : Int) (tab (2 ^ N) f)).1 (made (N : Int) (tab (2 ^ N) f)).2.1 (made (N : Int) (tab (2 ^ N) f)).2.2) := by
  have HW := Lib.hid (St.start w)
  obtain ⟨rn, rx, rb, hr⟩ : ∃ rn rx rb, made (N : Int) (tab (2 ^ N) f) = (rn, rx, rb) := ⟨_, _, _, rfl⟩
  rw [hr]
  have HR := Lib.hid hr
  have HA := Lib.hid (fun W hW => blocksI_any (N : Int) m A xs cap W hl (Lib.hid hW))
  rw [decide_eq_true (show 0 ≤ (N : Int) ∧ (N : Int) ≤ 5 ∧ blocksOk (N : Int) m xs from ⟨by omega, by omega, ho⟩)] at HA
  have hC := Lib.hid (fun (W : World) (S lb : Nat) (hW : Ints W W.heap.size A xs) (hS : S < 2 ^ N) (hc : W.cell? ⟨lb, 0, none⟩ = some (.slice A m cap)) => show Calls Try.prog 47 #[.int .i64 S, .pointer (some ⟨lb, 0, none⟩)] W (RetV W (.int .i64 (f S))) from by
    have := coverC N m S A xs cap lb W hl (Lib.hid hW) hS h5 ho.1 ho.2 hc 
    rwa [hf] at this)
  clear ho hf hr
  have HK := Lib.hid (fun (W : World) => make_cover (N : Int) (2 ^ N) f (.pointer (some ⟨w.heap.size, 0, none⟩)) W (by omega) (by omega) (by rw [Int.toNat_natCast]) rn rx rb HR)
  go_enter Try.func22, Try.ntmps22
  go_wp2_with (first | (go_at_call 46; refine St.use (w0 := w) (by exact ((HW.out.alloc _ _).alloc _ _)) ?_; intro hS; (try simp only [World.size_alloc] at hS); refine (HA.out _ ((h.out.below hS.base).mono hS.size)).mono ?_; rintro e w1 ⟨rfl, hb⟩; have hS1 := hS.below hb; obtain ⟨u0, uf⟩ := hS1.box (i := 0) rfl; have u00 := u0 0 _ rfl; have u01 := u0 1 _ rfl; have uf0 := uf 0; have uf1 := uf 1; have ul := (hS1.lt (i := 0) rfl).2; obtain ⟨l0, -⟩ := hS1.box (i := 1) rfl; have l00 := l0 0 _ rfl; have ll := (hS1.lt (i := 1) rfl).2; clear u0 uf l0; have HS1 := Lib.hid hS1; clear hS hb hS1) | (go_at_call 37; refine (HK.out _ (Lib.hid fun j hj W hW => hC.out W j _ ((h.out.below (HS1.out.base.trans (hW.mono HS1.out.size))).mono (Nat.le_trans HS1.out.size hW.size)) hj ((hW.cell (p := ⟨w.heap.size, 0, none⟩) ll).trans l00))).mono ?_; rintro e w2 ⟨B, d, rfl, ho, hb⟩; have hS2 := HS1.out.newI hb ho; obtain ⟨r1, rf⟩ := hS2.box (i := 1) rfl; have r10 := r1 0 _ rfl; have r11 := r1 1 _ rfl; have rf0 := rf 0; have rf1 := rf 1; have rl := (hS2.lt (i := 1) rfl).2; clear u00 u01 uf0 uf1; have HS2 := Lib.hid hS2; clear r1 rf hb ho hS2))
  have hZ := (HS2.out.store (i := 1) rfl 0 (.int .i64 rn)).store (i := 1) rfl 1 (.slice B rx.length d)
  exact bodyPost_ret (v := .tuple #[.agg #[.int .i64 rn, .slice B rx.length d], .bool rb]) (by simp [results, Try.results22, go_sem, r10, r11, rf0, rf1, rl]) rfl ⟨B, d, rfl, hZ.ownI (i := 0) rfl, hZ.base⟩

theorem coverI_any (n : Int) (m : Nat) (A : Option Addr) (xs : List Int) (cap : Nat) (w : World) (hl : Hid (xs.length = m * 2)) (h : Hid (Ints w w.heap.size A xs)) :
    Calls Try.prog 22 #[.int .i64 n, .slice A m cap] w (RetFB w (coverFn n m xs).1 (coverFn n m xs).2.1 (coverFn n m xs).2.2) := by
  by_cases hh : 0 ≤ n ∧ n ≤ 5 ∧ blocksOk n m xs
  · have e : coverFn n m xs = made n (tab (2 ^ n.toNat) (coverV xs m)) := if_pos hh
    rw [e]
    obtain ⟨N, rfl⟩ := Int.eq_ofNat_of_zero_le hh.1
    rw [Int.toNat_natCast]
    exact coverI_good N m A xs cap w hl h (by omega) hh.2.2 _ fun s => rfl
  · have e : coverFn n m xs = (0, [], false) := if_neg hh
    rw [e]
    exact coverI_no n m A xs cap w hl h hh

end Go.Proofs.Ytdodpcehmagdbaa.C
