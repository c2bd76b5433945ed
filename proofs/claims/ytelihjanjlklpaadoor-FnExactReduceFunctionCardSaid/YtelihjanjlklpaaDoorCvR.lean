/-
  The contract of impl.ReduceFunction.
-/
import Derived.Test.YtelihjanjlklpaaDoorCvJ
import Derived.Test.YtelihjanjlklpaaDoorModJ
namespace Go.Proofs.YtelihjanjlklpaaDoor.C
open Go.RowKit K M
set_option linter.unusedVariables false
set_option linter.unusedSimpArgs false

/-- Where the weights give a function, a reduction is a convolution. -/
theorem reduce_conv (n : Int) (xs ws : List Int) : reduceFn n xs ws = if (modFn ws 0).2.2 = true then convFn n xs (modFn ws 0).1 (modFn ws 0).2.1 else (0, [], false) := by
  unfold reduceFn
  by_cases hb : (modFn ws 0).2.2 = true
  · rw [if_pos hb]
    by_cases hc : isFn n xs = true ∧ (modFn ws 0).1 = n
    · rw [if_pos ⟨hb, hc⟩]
    · rw [if_neg fun hh => hc hh.2]
      unfold convFn
      rw [if_neg]
      intro hf
      obtain ⟨h1, -, h3⟩ := fits_yes hf
      exact hc ⟨h1, h3.symm⟩
  · rw [if_neg hb, if_neg fun hh => hb hh.1]

set_option maxRecDepth 100000 in
set_option maxHeartbeats 3200000 in
theorem reduceI_any (n : Int) (A : Option Addr) (xs : List Int) (cap : Nat) (D : Option Addr) (ws : List Int) (dap : Nat) (w : World) (h : Hid (Ints w w.heap.size A xs)) (g : Hid (Ints w w.heap.size D ws)) (hbr : Hid (Brujn w)) :
    Calls Tryd.prog 13 #[.agg #[.int .i64 n, .slice A xs.length cap], .slice D ws.length dap] w (RetFB w (reduceFn n xs ws).1 (reduceFn n xs ws).2.1 (reduceFn n xs ws).2.2) := by
  have HW := Lib.hid (St.start w)
  have HM := Lib.hid (fun W hW hB => modfnI_any D ws dap 0 W (Lib.hid hW) (Lib.hid hB))
  rw [reduce_conv]
  obtain ⟨gn, gx, gb, hg⟩ : ∃ a b c, modFn ws 0 = (a, b, c) := ⟨_, _, _, rfl⟩
  rw [hg] at HM ⊢
  dsimp only at HM ⊢
  have HCV := Lib.hid (fun W B d h1 h2 => convI_any n A xs cap gn B gx d W (Lib.hid h1) (Lib.hid h2))
  clear hg
  cases gb
  · rw [if_neg (by decide)]
    clear HCV
    go_enter Tryd.func13, Tryd.ntmps13
    go_wp2_with fail
    refine St.use (w0 := w) (by exact (HW.out.alloc _ _).alloc _ _) ?_
    intro hS
    (try simp only [World.size_alloc] at hS)
    refine (HM.out _ ((g.out.below hS.base).mono hS.size) (brujn_on hbr.out hS.base)).mono ?_
    rintro e w1 ⟨B, d, rfl, ho, hb⟩
    have hS0 := hS.newI hb ho
    obtain ⟨u0, uf⟩ := hS0.box (i := 1) rfl
    have u00 := u0 0 _ rfl
    have u01 := u0 1 _ rfl
    have uf0 := uf 0
    have uf1 := uf 1
    have ul := (hS0.lt (i := 1) rfl).2
    have hne : ¬ w.heap.size + 1 = w1.heap.size := by omega
    have hne2 : ¬ w1.heap.size = w.heap.size + 1 := fun e => hne e.symm
    have HS0 := Lib.hid hS0
    clear hS hb ho u0 uf hS0 HM
    have hZ := ((HS0.out.store (i := 1) rfl 0 (.int .i64 0)).store (i := 1) rfl 1 (.slice none 0 0)).alloc [.int .i64 gn, .slice B gx.length d] 26
    go_wp2
    exact bodyPost_ret (v := .tuple #[.agg #[.int .i64 0, .slice none 0 0], .bool false]) (by simp [results, Tryd.results13, go_sem, u00, u01, uf0, uf1, ul, hne, hne2]) rfl ⟨none, 0, rfl, K.Own.nil _ _, hZ.base⟩
  · rw [if_pos rfl]
    obtain ⟨rn, rx, rb, hr⟩ : ∃ rn rx rb, convFn n xs gn gx = (rn, rx, rb) := ⟨_, _, _, rfl⟩
    rw [hr] at HCV ⊢
    dsimp only at HCV ⊢
    clear hr
    go_enter Tryd.func13, Tryd.ntmps13
    go_wp2_with fail
    refine St.use (w0 := w) (by exact (HW.out.alloc _ _).alloc _ _) ?_
    intro hS
    (try simp only [World.size_alloc] at hS)
    refine (HM.out _ ((g.out.below hS.base).mono hS.size) (brujn_on hbr.out hS.base)).mono ?_
    rintro e w1 ⟨B, d, rfl, ho, hb⟩
    have hS0 := hS.newI hb ho
    obtain ⟨b0, -⟩ := hS0.box (i := 2) rfl
    have f00 := b0 0 _ rfl
    have f01 := b0 1 _ rfl
    have fl := (hS0.lt (i := 2) rfl).2
    have hne3 : ¬ w.heap.size = w1.heap.size := by omega
    have hne4 : ¬ w1.heap.size = w.heap.size := fun e => hne3 e.symm
    have HS1 := Lib.hid (hS0.alloc [.int .i64 gn, .slice B gx.length d] 26)
    clear hS hb ho b0 hS0 HM
    go_wp2_with fail
    refine St.use (w0 := w) (by exact HS1.out) ?_
    intro hS
    refine (HCV.out _ _ _ ((h.out.below hS.base).mono hS.size) (hS.ints (i := 1) rfl)).mono ?_
    rintro e w2 ⟨B2, d2, rfl, ho, hb⟩
    have hS4 := hS.newI hb ho
    obtain ⟨r1, rf⟩ := hS4.box (i := 3) rfl
    have s10 := r1 0 _ rfl
    have s11 := r1 1 _ rfl
    have sf0 := rf 0
    have sf1 := rf 1
    have HS4 := Lib.hid hS4
    clear r1 rf hb ho hS4 hS f00 f01 fl
    go_wp2
    have hZ := (HS4.out.store (i := 3) rfl 0 (.int .i64 rn)).store (i := 3) rfl 1 (.slice B2 rx.length d2)
    exact bodyPost_ret (v := .tuple #[.agg #[.int .i64 rn, .slice B2 rx.length d2], .bool rb]) (by simp [results, Tryd.results13, go_sem, s10, s11, sf0, sf1]) rfl ⟨B2, d2, rfl, hZ.ownI (i := 0) rfl, hZ.base⟩


end Go.Proofs.YtelihjanjlklpaaDoor.C
