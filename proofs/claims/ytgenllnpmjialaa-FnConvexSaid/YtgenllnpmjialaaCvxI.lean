/-
  The contract of impl.IsConvexAt.
-/
import Derived.Test.YtgenllnpmjialaaExtI
import Derived.Test.YtgenllnpmjialaaCmI
namespace Go.Proofs.Ytgenllnpmjialaa.C
open Go.RowKit K M
set_option linter.unusedVariables false
set_option linter.unusedSimpArgs false
set_option linter.unusedSectionVars false

theorem small_first {ws : List Int} (h : ¬ ∀ k, k < ws.length → -100 ≤ ws.getD k 0 ∧ ws.getD k 0 ≤ 100) : ∃ j, j < ws.length ∧ (ws.getD j 0 < -100 ∨ 100 < ws.getD j 0) ∧ ∀ k, k < j → -100 ≤ ws.getD k 0 ∧ ws.getD k 0 ≤ 100 := by
  have key : ∀ c, (∀ k, k < c → -100 ≤ ws.getD k 0 ∧ ws.getD k 0 ≤ 100) ∨ ∃ j, j < c ∧ (ws.getD j 0 < -100 ∨ 100 < ws.getD j 0) ∧ ∀ k, k < j → -100 ≤ ws.getD k 0 ∧ ws.getD k 0 ≤ 100 := by
    intro c
    induction c with
    | zero => exact .inl fun k hk => absurd hk (by omega)
    | succ c ih =>
      rcases ih with h1 | ⟨j, hj, hb, hv⟩
      · by_cases hc : -100 ≤ ws.getD c 0 ∧ ws.getD c 0 ≤ 100
        · exact .inl fun k hk => by
            by_cases e : k = c
            · subst e; exact hc
            · exact h1 k (by omega)
        · exact .inr ⟨c, by omega, by omega, h1⟩
      · exact .inr ⟨j, by omega, hb, hv⟩
  rcases key ws.length with h1 | h1
  · exact absurd h1 h
  · exact h1
theorem small_no {ws : List Int} {j : Nat} (hj : j < ws.length) (hb : ws.getD j 0 < -100 ∨ 100 < ws.getD j 0) : small ws = false := by
  cases h : small ws
  · rfl
  · have := small_at h hj
    omega
theorem withinI_small (A : Option Addr) (ws : List Int) (cap : Nat) (w : World) (h : Hid (Ints w w.heap.size A ws)) (hl : ws.length ≤ 1048576) :
    Calls Try.prog 43 #[.int .i64 100, .slice A ws.length cap] w fun e w' => e = .returned (.bool (small ws)) ∧ w = w' := by
  by_cases hv : ∀ k, k < ws.length → -100 ≤ ws.getD k 0 ∧ ws.getD k 0 ≤ 100
  · rw [small_mk hv]
    exact withinI_yes 100 A ws cap w h (by decide) (by decide) hl hv
  · obtain ⟨j, hj, hb, hk⟩ := small_first hv
    rw [small_no hj hb]
    exact withinI_no 100 A ws cap w h (by decide) (by decide) hl j hj hb hk


section

variable (n : Int) (F : Option Addr) (fs : List Int) (fap : Nat) (A : Option Addr) (xs : List Int) (cap : Nat) (D : Option Addr) (ys : List Int) (dap : Nat) (w : World) (hf0 : Hid (Ints w w.heap.size F fs)) (h : Hid (Ints w w.heap.size A xs)) (g : Hid (Ints w w.heap.size D ys)) (hx : xs.length ≤ 1048576) (hy : ys.length ≤ 1048576)
include hf0 h g hx hy
set_option maxRecDepth 100000 in
set_option maxHeartbeats 1600000 in
theorem convatI_small (hs : (small xs && small ys) = false) : Calls Try.prog 17 #[.agg #[.int .i64 n, .slice F fs.length fap], .slice A xs.length cap, .slice D ys.length dap] w (RetV w (.bool false)) := by
  have HW := Lib.hid (St.start w)
  have HS := Lib.hid (HW.out.alloc [.int .i64 n, .slice F fs.length fap] 26)
  have H1 := Lib.hid (fun W h1 => withinI_small A xs cap W (Lib.hid h1) hx)
  have H2 := Lib.hid (fun W h1 => withinI_small D ys dap W (Lib.hid h1) hy)
  cases e1 : small xs
  · rw [e1] at H1
    clear hs
    go_enter Try.func17, Try.ntmps17
    go_wp2_with (go_at_call 43; refine (H1.out _ ((h.out.below HS.out.base).mono HS.out.size)).mono ?_; rintro e w' ⟨rfl, rfl⟩)
    go_ret
    exact ⟨rfl, HS.out.base⟩
  · rw [e1] at H1 hs
    rw [Bool.true_and] at hs
    rw [hs] at H2
    clear hs
    go_enter Try.func17, Try.ntmps17
    go_wp2_with fail
    refine (H1.out _ ((h.out.below HS.out.base).mono HS.out.size)).mono ?_
    rintro e w' ⟨rfl, rfl⟩
    go_wp2_with fail
    refine (H2.out _ ((g.out.below HS.out.base).mono HS.out.size)).mono ?_
    rintro e w' ⟨rfl, rfl⟩
    go_wp2
    go_ret
    exact ⟨rfl, HS.out.base⟩

set_option maxRecDepth 100000 in
set_option maxHeartbeats 1600000 in
theorem convatI_fit (hs : (small xs && small ys) = true) (hf : fitV xs ys = false) : Calls Try.prog 17 #[.agg #[.int .i64 n, .slice F fs.length fap], .slice A xs.length cap, .slice D ys.length dap] w (RetV w (.bool false)) := by
  have HW := Lib.hid (St.start w)
  have HS := Lib.hid (HW.out.alloc [.int .i64 n, .slice F fs.length fap] 26)
  have H1 := Lib.hid (fun W h1 => withinI_small A xs cap W (Lib.hid h1) hx)
  have H2 := Lib.hid (fun W h1 => withinI_small D ys dap W (Lib.hid h1) hy)
  have HC := Lib.hid (fun W h1 h2 => combI_no A xs cap D ys dap W (Lib.hid h1) (Lib.hid h2) hx hy (.func (.func 44) #[] #[]) hf)
  obtain ⟨e1, e2⟩ := Bool.and_eq_true_iff.1 hs
  rw [e1] at H1
  rw [e2] at H2
  clear hs hf e1 e2
  go_enter Try.func17, Try.ntmps17
  go_wp2_with fail
  refine (H1.out _ ((h.out.below HS.out.base).mono HS.out.size)).mono ?_
  rintro e w' ⟨rfl, rfl⟩
  go_wp2_with fail
  refine (H2.out _ ((g.out.below HS.out.base).mono HS.out.size)).mono ?_
  rintro e w' ⟨rfl, rfl⟩
  go_wp2_with ((go_at_call 37; refine (HC.out _ ((h.out.below HS.out.base).mono HS.out.size) ((g.out.below HS.out.base).mono HS.out.size)).mono ?_; rintro e w2 ⟨V, c, rfl, ho, hb⟩; have HS2 := Lib.hid (HS.out.newI hb ho); clear ho hb))
  go_ret
  exact ⟨rfl, HS2.out.base⟩

set_option maxRecDepth 100000 in
set_option maxHeartbeats 6400000 in
theorem convatI_yes (hs : (small xs && small ys) = true) (hf : fitV xs ys = true) : Calls Try.prog 17 #[.agg #[.int .i64 n, .slice F fs.length fap], .slice A xs.length cap, .slice D ys.length dap] w (RetV w (.bool (convAt n fs xs ys))) := by
  have HW := Lib.hid (St.start w)
  have HS := Lib.hid (HW.out.alloc [.int .i64 n, .slice F fs.length fap] 26)
  have H1 := Lib.hid (fun W h1 => withinI_small A xs cap W (Lib.hid h1) hx)
  have H2 := Lib.hid (fun W h1 => withinI_small D ys dap W (Lib.hid h1) hy)
  obtain ⟨e1, e2⟩ := Bool.and_eq_true_iff.1 hs
  obtain ⟨f1, f2, f3⟩ := fitV_yes hf
  have v1 := (isVec_yes f1).2
  have v2 := (isVec_yes f2).2
  have hsm : ∀ k, k < xs.length → (-100 ≤ xs.getD k 0 ∧ xs.getD k 0 ≤ 100) ∧ (-100 ≤ ys.getD k 0 ∧ ys.getD k 0 ≤ 100) := fun k hk => ⟨small_at e1 hk, small_at e2 (by omega)⟩
  rw [e1] at H1
  rw [e2] at H2
  have HC := Lib.hid (fun W h1 h2 => combI_yes A xs cap D ys dap W (Lib.hid h1) (Lib.hid h2) hx hy 44 (enters_of Try.func44 (by kernel_rfl) rfl) (fun k => xs.getD k 0 + ys.getD k 0) hf fun k hk W => plusI _ _ W (v1 k hk) (v2 k (by omega)))
  have haf : addV xs ys = tab xs.length fun k => xs.getD k 0 + ys.getD k 0 := rfl
  rw [← haf] at HC
  have hal := addV_len xs ys
  have E1 := Lib.hid (fun W h1 h2 => extI_any n F fs fap A xs cap W (Lib.hid h1) (Lib.hid h2) hx)
  have E2 := Lib.hid (fun W h1 h2 => extI_any n F fs fap D ys dap W (Lib.hid h1) (Lib.hid h2) hy)
  have E3 := Lib.hid (fun W E c h1 h2 => extI_any n F fs fap E (addV xs ys) c W (Lib.hid h1) (Lib.hid h2) (by rw [hal]; exact hx))
  have hq := conv_val (n := n) (fs := fs) hf hsm
  obtain ⟨q1, q2⟩ := conv_same (n := n) (fs := fs) hf hsm
  have HFN := Lib.hid (fun hh => extAt_fn (n := n) (fs := fs) (ws := xs) hh)
  have B1 := extAt_bd n fs xs
  have B2 := extAt_bd n fs ys
  have B3 := extAt_bd n fs (addV xs ys)
  obtain ⟨a, one, a1⟩ : ∃ a b, extAt n fs xs = (a, b) := ⟨_, _, rfl⟩
  obtain ⟨b, two, a2⟩ : ∃ a b, extAt n fs ys = (a, b) := ⟨_, _, rfl⟩
  obtain ⟨c, three, a3⟩ : ∃ a b, extAt n fs (addV xs ys) = (a, b) := ⟨_, _, rfl⟩
  rw [a1] at E1 hq q1 q2 HFN B1
  rw [a2] at E2 hq q1 B2
  rw [a3] at E3 hq q2 B3
  dsimp only at E1 E2 E3 hq q1 q2 HFN B1 B2 B3
  rw [hal] at E3
  have HAL := Lib.hid hal
  generalize addV xs ys = zs at *
  subst q1 q2
  generalize convAt n fs xs ys = q at *
  obtain ⟨m, hm⟩ : ∃ m, xs.length = m := ⟨_, rfl⟩
  rw [hm] at H1 HC E1 E3 HAL ⊢
  have HQ0 := Lib.hid hq
  clear hs hf e1 e2 f1 f2 f3 v1 v2 hsm haf hal a1 a2 a3 hm hq
  go_enter Try.func17, Try.ntmps17
  go_wp2_with fail
  refine (H1.out _ ((h.out.below HS.out.base).mono HS.out.size)).mono ?_
  rintro e w' ⟨rfl, rfl⟩
  go_wp2_with fail
  refine (H2.out _ ((g.out.below HS.out.base).mono HS.out.size)).mono ?_
  rintro e w' ⟨rfl, rfl⟩
  go_wp2_with ((go_at_call 37; refine (HC.out _ ((h.out.below HS.out.base).mono HS.out.size) ((g.out.below HS.out.base).mono HS.out.size)).mono ?_; rintro e w2 ⟨V, cc, rfl, ho, hb⟩; rw [HAL.out] at ho ⊢; have hS2 := HS.out.newI hb ho; rw [HAL.out] at hS2; obtain ⟨b0, -⟩ := hS2.box (i := 1) rfl; have d00 := b0 0 _ rfl; have d01 := b0 1 _ rfl; have HS2 := Lib.hid hS2; clear ho hb hS2 b0))
  refine (E1.out _ ((hf0.out.below HS2.out.base).mono HS2.out.size) ((h.out.below HS2.out.base).mono HS2.out.size)).mono ?_
  rintro e w3 ⟨rfl, hb⟩
  have hS3 := HS2.out.below hb
  obtain ⟨b0, -⟩ := hS3.box (i := 1) rfl
  have f00 := b0 0 _ rfl
  have f01 := b0 1 _ rfl
  have HS3 := Lib.hid hS3
  clear b0 hS3 hb d00 d01
  go_wp2_with fail
  refine (E2.out _ ((hf0.out.below HS3.out.base).mono HS3.out.size) ((g.out.below HS3.out.base).mono HS3.out.size)).mono ?_
  rintro e w4 ⟨rfl, hb⟩
  have hS4 := HS3.out.below hb
  obtain ⟨b0, -⟩ := hS4.box (i := 1) rfl
  have d00 := b0 0 _ rfl
  have d01 := b0 1 _ rfl
  have HS4 := Lib.hid hS4
  clear b0 hS4 hb f00 f01
  go_wp2_with fail
  refine (E3.out _ _ _ ((hf0.out.below HS4.out.base).mono HS4.out.size) (HS4.out.ints (i := 0) rfl)).mono ?_
  rintro e w5 ⟨rfl, hb⟩
  have hS5 := HS4.out.below hb
  obtain ⟨b0, -⟩ := hS5.box (i := 1) rfl
  have f00 := b0 0 _ rfl
  have f01 := b0 1 _ rfl
  have HS5 := Lib.hid hS5
  clear b0 hS5 hb d00 d01
  have hq := HQ0.out
  clear HQ0
  cases three
  · have HQ := Lib.hid (show q = false by rw [hq]; rfl)
    clear hq
    go_wp2
    go_ret
    exact ⟨by rw [HQ.out]; rfl, HS5.out.base⟩
  · have hfl := isFn_len (HFN.out rfl)
    obtain ⟨fb, fo, rfl, hfb, hfc⟩ := hf0.out.at_ (k := 0) (by omega)
    have hf1 : (0 : Int) < (fs.length : Int) := by omega
    have hfv := (isFn_yes (HFN.out rfl)).2.2.2 0 (by omega)
    generalize fs.getD 0 0 = x0 at hfc hfv hq
    have hw1 : IntKind.i64.wrap (c + x0) = c + x0 := IntWalk.i64_in _ (by omega)
    have hw2 : IntKind.i64.wrap (a + b) = a + b := IntWalk.i64_in _ (by omega)
    have hfc' := (HS5.out.base.cell (p := ⟨fb, fo + 0, none⟩) hfb).trans hfc
    rw [Nat.add_zero] at hfc'
    have HQ := Lib.hid hq
    clear hq hfc
    by_cases hle : c + x0 ≤ a + b
    · go_wp2
      go_ret
      exact ⟨by rw [HQ.out, decide_eq_true hle]; rfl, HS5.out.base⟩
    · go_wp2
      go_ret
      exact ⟨by rw [HQ.out]; rfl, HS5.out.base⟩

theorem convatI_any : Calls Try.prog 17 #[.agg #[.int .i64 n, .slice F fs.length fap], .slice A xs.length cap, .slice D ys.length dap] w (RetV w (.bool (convAt n fs xs ys))) := by
  cases hs : small xs && small ys
  · have e : convAt n fs xs ys = false := by
      unfold convAt
      cases h1 : small xs
      · simp
      · cases h2 : small ys
        · simp
        · rw [h1, h2] at hs
          cases hs
    rw [e]
    exact convatI_small n F fs fap A xs cap D ys dap w hf0 h g hx hy hs
  · cases hf : fitV xs ys
    · rw [conv_nofit2 hf]
      exact convatI_fit n F fs fap A xs cap D ys dap w hf0 h g hx hy hs hf
    · exact convatI_yes n F fs fap A xs cap D ys dap w hf0 h g hx hy hs hf

end


end Go.Proofs.Ytgenllnpmjialaa.C
