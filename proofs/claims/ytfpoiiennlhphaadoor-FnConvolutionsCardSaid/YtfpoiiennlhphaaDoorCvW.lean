/-
  The contract of spec.ReduceFunction.
-/
import Derived.Test.YtfpoiiennlhphaaDoorCvT
import Derived.Test.YtfpoiiennlhphaaDoorModS
namespace Go.Proofs.YtfpoiiennlhphaaDoor.C
open Go.RowKit K M
set_option linter.unusedVariables false
set_option linter.unusedSimpArgs false

set_option maxRecDepth 100000 in
set_option maxHeartbeats 6400000 in
theorem reduceS_any (n : Int) (A : Option Addr) (xs : List Int) (cap : Nat) (D : Option Addr) (ws : List Int) (dap : Nat) (w : World) (h : Hid (Ints w w.heap.size A xs)) (g : Hid (Ints w w.heap.size D ws)) (hm2 : ws.length ≤ 1048576) :
    Calls Tryd.prog 40 #[.agg #[.int .i64 n, .slice A xs.length cap], .slice D ws.length dap] w (RetFB w (reduceFn n xs ws).1 (reduceFn n xs ws).2.1 (reduceFn n xs ws).2.2) := by
  have HW := Lib.hid (St.start w)
  have HM := Lib.hid (fun W hW => modfnS_any D ws dap 0 W (Lib.hid hW) hm2)
  unfold reduceFn
  obtain ⟨gn, gx, gb, hg⟩ : ∃ a b c, modFn ws 0 = (a, b, c) := ⟨_, _, _, rfl⟩
  rw [hg] at HM ⊢
  dsimp only at HM ⊢
  have HF := Lib.hid (fun W hW => isFnS_any n A xs cap W (Lib.hid hW))
  have HCV := Lib.hid (fun W B d h1 h2 => convS_any n A xs cap gn B gx d W (Lib.hid h1) (Lib.hid h2))
  obtain ⟨fb, hfb⟩ : ∃ b, isFn n xs = b := ⟨_, rfl⟩
  rw [hfb] at HF ⊢
  clear hg hfb hm2
  obtain ⟨rn, rx, rb, hr⟩ : ∃ rn rx rb, (if gb = true ∧ fb = true ∧ gn = n then convFn n xs gn gx else (0, [], false)) = (rn, rx, rb) := ⟨_, _, _, rfl⟩
  rw [hr]
  have HR := Lib.hid hr
  clear hr
  generalize xs.length = p at *
  go_enter Tryd.func40, Tryd.ntmps40
  go_wp2_with fail
  refine St.use (w0 := w) (by exact (HW.out.alloc _ _).alloc _ _) ?_
  intro hS
  (try simp only [World.size_alloc] at hS)
  refine (HM.out _ ((g.out.below hS.base).mono hS.size)).mono ?_
  rintro e w1 ⟨B, d, rfl, ho, hb⟩
  have hS0 := hS.newI hb ho
  obtain ⟨b0, -⟩ := hS0.box (i := 2) rfl
  have f00 := b0 0 _ rfl
  have f01 := b0 1 _ rfl
  have fl := (hS0.lt (i := 2) rfl).2
  obtain ⟨u0, uf⟩ := hS0.box (i := 1) rfl
  have u00 := u0 0 _ rfl
  have u01 := u0 1 _ rfl
  have uf0 := uf 0
  have uf1 := uf 1
  have ul := (hS0.lt (i := 1) rfl).2
  have hne : ¬ w.heap.size + 1 = w1.heap.size := by omega
  have hne2 : ¬ w1.heap.size = w.heap.size + 1 := fun e => hne e.symm
  have hne3 : ¬ w.heap.size = w1.heap.size := by omega
  have hne4 : ¬ w1.heap.size = w.heap.size := fun e => hne3 e.symm
  have HS0 := Lib.hid hS0
  have HS1 := Lib.hid (hS0.alloc [.int .i64 gn, .slice B gx.length d] 26)
  clear hS hb ho b0 u0 uf hS0 HM
  cases gb
  · obtain ⟨rfl, rfl, rfl⟩ : 0 = rn ∧ [] = rx ∧ false = rb := by simpa using HR.out
    have hZ := ((HS0.out.store (i := 1) rfl 0 (.int .i64 0)).store (i := 1) rfl 1 (.slice none 0 0)).alloc [.int .i64 gn, .slice B gx.length d] 26
    go_wp2
    exact bodyPost_ret (v := .tuple #[.agg #[.int .i64 0, .slice none 0 0], .bool false]) (by simp [results, Tryd.results40, go_sem, u00, u01, uf0, uf1, ul, hne, hne2]) rfl ⟨none, 0, rfl, Own.nil _ _, by first | exact hZ.base | exact HS1.out.base⟩
  · go_wp2_with fail
    refine St.use (w0 := w) (by exact HS1.out) ?_
    intro hS
    refine (HF.out _ ((h.out.below hS.base).mono hS.size)).mono ?_
    rintro e w2 ⟨rfl, hb⟩
    have hS2 := hS.below hb
    clear f00 f01 fl u00 u01 uf0 uf1 ul
    obtain ⟨b0, -⟩ := hS2.box (i := 0) rfl
    have g00 := b0 0 _ rfl
    have g01 := b0 1 _ rfl
    obtain ⟨b0, -⟩ := hS2.box (i := 3) rfl
    have f00 := b0 0 _ rfl
    have f01 := b0 1 _ rfl
    obtain ⟨u0, uf⟩ := hS2.box (i := 2) rfl
    have u00 := u0 0 _ rfl
    have u01 := u0 1 _ rfl
    have uf0 := uf 0
    have uf1 := uf 1
    have ul := (hS2.lt (i := 2) rfl).2
    have HS2 := Lib.hid hS2
    clear hS hb b0 u0 uf hS2
    cases fb
    · obtain ⟨rfl, rfl, rfl⟩ : 0 = rn ∧ [] = rx ∧ false = rb := by simpa using HR.out
      have hZ := (HS2.out.store (i := 2) rfl 0 (.int .i64 0)).store (i := 2) rfl 1 (.slice none 0 0)
      go_wp2
      exact bodyPost_ret (v := .tuple #[.agg #[.int .i64 0, .slice none 0 0], .bool false]) (by simp [results, Tryd.results40, go_sem, u00, u01, uf0, uf1, ul]) rfl ⟨none, 0, rfl, Own.nil _ _, by first | exact hZ.base | exact HS2.out.base⟩
    · by_cases hn : gn = n
      · subst hn
        have hr : convFn gn xs gn gx = (rn, rx, rb) := by simpa using HR.out
        rw [hr] at HCV
        clear HR
        go_wp2_with fail
        refine St.use (w0 := w) (by exact HS2.out) ?_
        intro hS
        refine (HCV.out _ B d ((h.out.below hS.base).mono hS.size) (hS.ints (i := 1) rfl)).mono ?_
        rintro e w3 ⟨B2, d2, rfl, ho, hb⟩
        have hS0 := hS.newI hb ho
        clear g00 g01 f00 f01 u00 u01 uf0 uf1 ul
        obtain ⟨u0, uf⟩ := hS0.box (i := 3) rfl
        have u00 := u0 0 _ rfl
        have u01 := u0 1 _ rfl
        have uf0 := uf 0
        have uf1 := uf 1
        have ul := (hS0.lt (i := 3) rfl).2
        have hne5 : ¬ w.heap.size + 1 = w3.heap.size := by omega
        have hne6 : ¬ w3.heap.size = w.heap.size + 1 := fun e => hne5 e.symm
        have HS3 := Lib.hid hS0
        clear hS hb ho u0 uf hS0
        go_wp2
        have hZ := ((HS3.out.store (i := 3) rfl 0 (.int .i64 rn)).store (i := 3) rfl 1 (.slice B2 rx.length d2)).alloc [.int .i64 rn, .slice B2 rx.length d2] 26
        exact bodyPost_ret (v := .tuple #[.agg #[.int .i64 rn, .slice B2 rx.length d2], .bool rb]) (by simp [results, Tryd.results40, go_sem, u00, u01, uf0, uf1, ul, hne5, hne6]) rfl ⟨B2, d2, rfl, hZ.ownI (i := 1) rfl, hZ.base⟩
      · have hnn : (gn == n) = false := beq_eq_false_iff_ne.2 hn
        obtain ⟨rfl, rfl, rfl⟩ : 0 = rn ∧ [] = rx ∧ false = rb := by simpa [hn] using HR.out
        clear hn
        have hZ := (HS2.out.store (i := 2) rfl 0 (.int .i64 0)).store (i := 2) rfl 1 (.slice none 0 0)
        go_wp2
        exact bodyPost_ret (v := .tuple #[.agg #[.int .i64 0, .slice none 0 0], .bool false]) (by simp [results, Tryd.results40, go_sem, u00, u01, uf0, uf1, ul]) rfl ⟨none, 0, rfl, Own.nil _ _, by first | exact hZ.base | exact HS2.out.base⟩

end Go.Proofs.YtfpoiiennlhphaaDoor.C
