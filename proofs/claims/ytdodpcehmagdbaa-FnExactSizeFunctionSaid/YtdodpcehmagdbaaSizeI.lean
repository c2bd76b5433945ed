/-
  The contracts of impl.SizeFunction and impl.IsConcaveList and of what they call.
-/
import Derived.Test.YtdodpcehmagdbaaMakeSize
import Derived.Test.YtdodpcehmagdbaaSizeS
namespace Go.Proofs.Ytdodpcehmagdbaa.C
open Go.RowKit K M
set_option linter.unusedVariables false
set_option linter.unusedSimpArgs false

set_option maxRecDepth 100000 in
theorem ones64 (S : Nat) (w : World) (hS : S < 64) :
    Calls Try.prog 62 #[.int .u64 S] w fun e w' => e = .returned (.int .i64 (ones S)) ∧ w = w' := by
  go_enter Try.func62, Try.ntmps62
  go_wp2
  go_ret
  refine ⟨congrArg (fun x : Int => Ending.returned (Value.int .i64 x)) ?_, rfl⟩
  revert S
  decide +kernel

theorem onesC (S : Nat) (w : World) (hS : S < 64) :
    Calls Try.prog 60 #[.int .u64 S] w fun e w' => e = .returned (.int .i64 (ones S)) ∧ w = w' := by
  go_enter Try.func60, Try.ntmps60
  go_wp2_with (go_at_call 62; refine (ones64 S _ hS).mono ?_; rintro e w' ⟨rfl, rfl⟩)
  go_ret
  exact ⟨rfl, rfl⟩

theorem sizeI_any (S : Nat) (w : World) (hS : S < 64) :
    Calls Try.prog 52 #[.int .i64 S] w fun e w' => e = .returned (.int .i64 (ones S)) ∧ w = w' := by
  have hw : IntKind.u64.wrap (S : Int) = (S : Int) := by rw [IntKind.wrap_u64]; omega
  go_enter Try.func52, Try.ntmps52
  go_wp2_with (go_at_call 60; refine (onesC S _ hS).mono ?_; rintro e w' ⟨rfl, rfl⟩)
  go_ret
  exact ⟨rfl, rfl⟩

set_option maxRecDepth 100000 in
set_option maxHeartbeats 1600000 in
theorem sizeC (S o : Nat) (x : Int) (vb b off m cap : Nat) (w : World) (hS : S < 64) (ho : ones S = o) (hom : o < m)
    (hv : w.cell? ⟨vb, 0, none⟩ = some (.slice (some ⟨b, off, none⟩) m cap)) (hc : w.cell? ⟨b, off + o, none⟩ = some (.int .i64 x)) :
    Calls Try.prog 51 #[.int .i64 S, .pointer (some ⟨vb, 0, none⟩)] w (RetV w (.int .i64 x)) := by
  have HC := Lib.hid (fun W => sizeI_any S W hS)
  rw [ho] at HC
  have hs0 : (0 : Int) ≤ (o : Int) := by omega
  have hsm : (o : Int) < (m : Int) := by omega
  have HW := Lib.hid (St.start w)
  clear hS ho
  go_enter Try.func51, Try.ntmps51
  go_wp2
  go_quiet ((go_at_call 52; first | exact quiet_left (HC.out _) | exact quiet_add_left (HC.out _)))
  go_wp2
  go_ret
  exact ⟨rfl, by first | exact HW.out.base | exact HW.out.drew.base | exact (HW.out.drewN _).base⟩

set_option maxHeartbeats 1600000 in
theorem sizefI_zero (A : Option Addr) (cap : Nat) (w : World) :
    Calls Try.prog 27 #[.slice A 0 cap] w (RetFB w 0 [] false) := by
  have HW := Lib.hid (St.start w)
  go_enter Try.func27, Try.ntmps27
  go_wp2
  have hS := (HW.out.alloc [.slice A 0 cap] 24).alloc [.int .i64 0, .slice none 0 0] 26
  exact bodyPost_ret (v := .tuple #[.agg #[.int .i64 0, .slice none 0 0], .bool false]) (by simp [results, Try.results27, go_sem]) rfl ⟨none, 0, rfl, Own.nil _ _, hS.base⟩

set_option maxHeartbeats 1600000 in
theorem sizefI_over (A : Option Addr) (m cap : Nat) (w : World) (hm : 6 < m) :
    Calls Try.prog 27 #[.slice A m cap] w (RetFB w 0 [] false) := by
  have HW := Lib.hid (St.start w)
  have hg : (6 : Int) < (m : Int) := by omega
  have h0 : ((m : Int) == 0) = false := beq_eq_false_iff_ne.2 (by omega)
  go_enter Try.func27, Try.ntmps27
  go_wp2
  have hS := (HW.out.alloc [.slice A m cap] 24).alloc [.int .i64 0, .slice none 0 0] 26
  exact bodyPost_ret (v := .tuple #[.agg #[.int .i64 0, .slice none 0 0], .bool false]) (by simp [results, Try.results27, go_sem]) rfl ⟨none, 0, rfl, Own.nil _ _, hS.base⟩

set_option maxRecDepth 100000 in
set_option maxHeartbeats 4000000 in
theorem sizefI_good (A : Option Addr) (v : List Int) (cap n : Nat) (w : World) (h : Hid (Ints w w.heap.size A v)) (hn : v.length = n + 1) (h5 : n ≤ 5) (f : Nat → Int) (hf : ∀ s, v.getD (ones s) 0 = f s) :
    Calls Try.prog 27 #[.slice A (n + 1) cap] w (RetFB w (made (n : Int) (tab (2 ^ n) f)).1 (made (n : Int) (tab (2 ^ n) f)).2.1 (made (n : Int) (tab (2 ^ n) f)).2.2) := by
  have HW := Lib.hid (St.start w)
  obtain ⟨rn, rx, rb, hr⟩ : ∃ rn rx rb, made (n : Int) (tab (2 ^ n) f) = (rn, rx, rb) := ⟨_, _, _, rfl⟩
  rw [hr]
  have HR := Lib.hid hr
  have hC := Lib.hid (fun (W : World) (S vb : Nat) (hW : Ints W W.heap.size A v) (hS : S < 2 ^ n) (hv : W.cell? ⟨vb, 0, none⟩ = some (.slice A (n + 1) cap)) => show Calls Try.prog 51 #[.int .i64 S, .pointer (some ⟨vb, 0, none⟩)] W (RetV W (.int .i64 (f S))) from by
    have ho := ones_le5 n h5 S hS
    have h32 : 2 ^ n ≤ 2 ^ 5 := Nat.pow_le_pow_right (by decide) h5
    obtain ⟨b, off, rfl, hbl, hc⟩ := hW.at_ (k := ones S) (by omega)
    rw [hf] at hc
    exact sizeC S _ _ vb b off (n + 1) cap W (by omega) rfl (by omega) hv hc)
  have HX := Lib.hid hn
  have hg : ¬ (6 : Int) < (n : Int) + 1 := by omega
  have h0 : ((n : Int) + 1 == 0) = false := beq_eq_false_iff_ne.2 (by omega)
  have hcast : ((n + 1 : Nat) : Int) = (n : Int) + 1 := by omega
  have hsub : (n : Int) + 1 - 1 = (n : Int) := by omega
  clear hn hf hr
  go_enter Try.func27, Try.ntmps27
  have HS := Lib.hid ((HW.out.alloc [.slice A (n + 1) cap] 24).alloc [.int .i64 0, .slice none 0 0] 26)
  have HK := Lib.hid (fun (W : World) (hb : Below w.heap.size w W) => make_size (n : Int) (2 ^ n) f (.pointer (some ⟨w.heap.size, 0, none⟩)) W (by omega) (by omega) (by rw [Int.toNat_natCast]) rn rx rb HR)
  go_wp2_with fail
  refine (HK.out _ HS.out.base (Lib.hid fun j hj W hW => hC.out W j _ ((h.out.below (HS.out.base.trans (hW.mono HS.out.size))).mono (Nat.le_trans HS.out.size hW.size)) hj ((hW.cell (p := ⟨w.heap.size, 0, none⟩) (by simp; omega)).trans (by simp [go_sem])))).mono ?_
  rintro e w1 ⟨B, d, rfl, ho, hb⟩
  have hS1 := HS.out.newI hb ho
  obtain ⟨r1, rf⟩ := hS1.box (i := 1) rfl
  have r10 := r1 0 _ rfl
  have r11 := r1 1 _ rfl
  have rf0 := rf 0
  have rf1 := rf 1
  have HS1 := Lib.hid hS1
  clear r1 rf hb ho hS1
  simp only [World.size_alloc] at r10 r11 rf0 rf1 HS1
  go_wp2
  have hZ := (HS1.out.store (i := 1) rfl 0 (.int .i64 rn)).store (i := 1) rfl 1 (.slice B rx.length d)
  exact bodyPost_ret (v := .tuple #[.agg #[.int .i64 rn, .slice B rx.length d], .bool rb]) (by simp [results, Try.results27, go_sem, r10, r11, rf0, rf1]) rfl ⟨B, d, rfl, hZ.ownI (i := 0) rfl, hZ.base⟩

theorem sizefI_any (A : Option Addr) (v : List Int) (cap : Nat) (w : World) (h : Hid (Ints w w.heap.size A v)) :
    Calls Try.prog 27 #[.slice A v.length cap] w (RetFB w (sizeFn v).1 (sizeFn v).2.1 (sizeFn v).2.2) := by
  unfold sizeFn
  split
  · rename_i hh
    obtain ⟨n, hn⟩ : ∃ n, v.length = n + 1 := ⟨v.length - 1, by omega⟩
    rw [hn, Nat.add_sub_cancel]
    exact sizefI_good A v cap n w h hn (by omega) _ fun s => rfl
  · rename_i hh
    by_cases h0 : v.length = 0
    · rw [h0]; exact sizefI_zero A cap w
    · exact sizefI_over A _ cap w (by omega)

set_option maxRecDepth 100000 in
set_option maxHeartbeats 1600000 in
theorem concI_no (A : Option Addr) (v : List Int) (cap : Nat) (w : World) (h : Hid (Ints w w.heap.size A v)) (hz : (sizeFn v).2.2 = false) :
    Calls Try.prog 31 #[.slice A v.length cap] w (RetV w (.bool false)) := by
  have HW := Lib.hid (St.start w)
  have HC := Lib.hid (sizefI_any A v cap w h)
  rw [hz] at HC
  generalize (sizeFn v).1 = rn at HC
  generalize (sizeFn v).2.1 = rx at HC
  clear hz
  go_enter Try.func31, Try.ntmps31
  go_wp2_with (go_at_call 27; refine HC.out.mono ?_; rintro e w1 ⟨B, d, rfl, ho, hb⟩; have HS1 := Lib.hid (HW.out.newI hb ho); clear ho hb)
  go_ret
  exact ⟨rfl, (HS1.out.alloc _ _).base⟩

set_option maxRecDepth 100000 in
set_option maxHeartbeats 4000000 in
theorem concI_good (A : Option Addr) (v : List Int) (cap : Nat) (w : World) (h : Hid (Ints w w.heap.size A v)) (h6 : v.length ≤ 6) (hv : ∀ k, k < v.length → -1000 ≤ v.getD k 0 ∧ v.getD k 0 ≤ 1000) (hz : (sizeFn v).2.2 = true) :
    Calls Try.prog 31 #[.slice A v.length cap] w (RetV w (.bool (decide (concaveTo v v.length)))) := by
  have HW := Lib.hid (St.start w)
  have HC := Lib.hid (sizefI_any A v cap w h)
  rw [hz] at HC
  generalize (sizeFn v).1 = rn at HC
  generalize (sizeFn v).2.1 = rx at HC
  obtain ⟨k, hxm⟩ : ∃ m, v.length = m := ⟨_, rfl⟩
  rw [hxm] at HC h6 ⊢
  obtain ⟨rb, hrb⟩ : ∃ rb, decide (concaveTo v k) = rb := ⟨_, rfl⟩
  rw [hrb]
  have HRB := Lib.hid hrb
  have HX := Lib.hid hxm
  have HV := Lib.hid hv
  clear hz hv hxm hrb
  go_enter Try.func31, Try.ntmps31
  go_wp2_with (go_at_call 27; refine HC.out.mono ?_; rintro e w1 ⟨B, d, rfl, ho, hb⟩; have HS1 := Lib.hid (HW.out.newI hb ho); clear ho hb)
  have HS := Lib.hid (HS1.out.alloc [.int .i64 rn, .slice B rx.length d] 26)
  go_loopw [5] (fun i wr => ∃ j : Nat, i = .int .i64 j ∧ 2 ≤ j ∧ Hid (concaveTo v j) ∧ j ≤ k + 2 ∧ Below w.heap.size w wr) (fun i _ => k - (intOf i).toNat)
  case atStart => exact ⟨2, rfl, Nat.le_refl _, Lib.hid fun i hi h2 => by omega, by omega, HS.out.base⟩
  case round =>
    obtain ⟨j, rfl, hj2, hcc, hj, hbw⟩ := hrel
    have HB := Lib.hid hbw
    clear hbw
    by_cases hlt2 : j < k
    · have hjn : (j : Int) < (k : Int) := by omega
      obtain ⟨b, off, rfl, hbl, hc⟩ := (h.out.below HB.out).at_ (k := j) (by rw [HX.out]; omega)
      obtain ⟨b', off', e', -, hc1⟩ := (h.out.below HB.out).at_ (k := j - 1) (by rw [HX.out]; omega)
      obtain ⟨rfl, rfl⟩ : b = b' ∧ off = off' := by cases e'; exact ⟨rfl, rfl⟩
      obtain ⟨b', off', e'', -, hc2⟩ := (h.out.below HB.out).at_ (k := j - 2) (by rw [HX.out]; omega)
      obtain ⟨rfl, rfl⟩ : b = b' ∧ off = off' := by cases e''; exact ⟨rfl, rfl⟩
      obtain ⟨v1, v2⟩ := HV.out j (by rw [HX.out]; omega)
      obtain ⟨u1, u2⟩ := HV.out (j - 1) (by rw [HX.out]; omega)
      obtain ⟨t1, t2⟩ := HV.out (j - 2) (by rw [HX.out]; omega)
      have hs := fun hs => Lib.hid (concTo_succ (v := v) (c := j) hcc.out hs)
      have hno : ¬ (v.getD j 0 - v.getD (j - 1) 0 ≤ v.getD (j - 1) 0 - v.getD (j - 2) 0) → Hid (decide (concaveTo v k) = false) := fun hh => Lib.hid (decide_eq_false fun hz => hh (hz j hlt2 hj2))
      clear e' e''
      generalize v.getD j 0 = x at hc v1 v2 hs hno
      generalize v.getD (j - 1) 0 = y at hc1 u1 u2 hs hno
      generalize v.getD (j - 2) 0 = z at hc2 t1 t2 hs hno
      have d1 : IntKind.i64.wrap (x - y) = x - y := IntWalk.i64_in _ (by omega)
      have d2 : IntKind.i64.wrap (y - z) = y - z := IntWalk.i64_in _ (by omega)
      have j1 : ((j - 1 : Nat) : Int) = (j : Int) - 1 := by omega
      have j2 : ((j - 2 : Nat) : Int) = (j : Int) - 2 := by omega
      have jn1 : ((j : Int) - 1).toNat = j - 1 := by omega
      have jn2 : ((j : Int) - 2).toNat = j - 2 := by omega
      have i1 : (1 : Int) ≤ (j : Int) := by omega
      have i2 : (2 : Int) ≤ (j : Int) := by omega
      have i3 : (j : Int) - 1 < (k : Int) := by omega
      have i4 : (j : Int) - 2 < (k : Int) := by omega
      by_cases hg : x - y ≤ y - z
      · have HSS := hs hg
        have hg' : ¬ (y - z < x - y) := by omega
        clear hs hno
        go_wp2
        go_quiet (fail)
        go_wp2
        go_roundw
        case rel => exact ⟨j + 1, by go_num, by omega, HSS, by omega, below_drewN HB.out _⟩
        case measure => simp [intOf]; omega
      · have HN := hno hg
        have hg' : y - z < x - y := by omega
        clear hs hno
        go_wp2
        go_quiet (fail)
        go_wp2
        go_ret
        exact ⟨by rw [← HRB.out, HN.out]; rfl, below_drewN HB.out _⟩
    · have hjn : ¬ (j : Int) < (k : Int) := by omega
      have HN := Lib.hid (show decide (concaveTo v k) = true from decide_eq_true fun i hi h2 => hcc.out i (by omega) h2)
      go_wp2
      go_ret
      exact ⟨by rw [← HRB.out, HN.out]; rfl, HB.out⟩

theorem concI_any (A : Option Addr) (v : List Int) (cap : Nat) (w : World) (h : Hid (Ints w w.heap.size A v)) :
    Calls Try.prog 31 #[.slice A v.length cap] w (RetV w (.bool (concave v))) := by
  cases hz : (sizeFn v).2.2
  · have := concI_no A v cap w h hz
    have e : concave v = false := by
      rw [sizeFn_is] at hz
      exact decide_eq_false fun hh => of_decide_eq_false hz ⟨hh.1, hh.2.1, hh.2.2.1⟩
    rwa [e]
  · have hy := hz
    rw [sizeFn_is] at hy
    obtain ⟨h1, h6, hv⟩ := of_decide_eq_true hy
    have := concI_good A v cap w h h6 hv hz
    have e : decide (concaveTo v v.length) = concave v := by
      unfold concave
      exact decide_eq_decide.2 ⟨fun hh => ⟨h1, h6, hv, hh⟩, fun hh => hh.2.2.2⟩
    rwa [e] at this

end Go.Proofs.Ytdodpcehmagdbaa.C
