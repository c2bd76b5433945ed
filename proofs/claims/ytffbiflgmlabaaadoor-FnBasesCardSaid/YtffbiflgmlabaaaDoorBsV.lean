/-
  The contracts of spec's chapter 8: tight sets, bases.
-/
import Derived.Test.YtffbiflgmlabaaaDoorBsS
import Derived.Test.YtffbiflgmlabaaaDoorVal
import Derived.Test.YtffbiflgmlabaaaDoorLine
namespace Go.Proofs.YtffbiflgmlabaaaDoor.C
open Go.RowKit K M
set_option linter.unusedVariables false
set_option linter.unusedSimpArgs false
set_option linter.unusedSectionVars false


section

variable (n : Int) (A : Option Addr) (xs : List Int) (cap : Nat) (D : Option Addr) (ws : List Int) (dap : Nat) (w : World) (h : Hid (Ints w w.heap.size A xs)) (g : Hid (Ints w w.heap.size D ws)) (hl : ws.length ≤ 1048576)
include h g hl
set_option maxRecDepth 100000 in
set_option maxHeartbeats 1600000 in
theorem baseS_no (q : isBelow n xs ws = false) :
    Calls Tryd.prog 15 #[.agg #[.int .i64 n, .slice A xs.length cap], .slice D ws.length dap] w (RetV w (.bool false)) := by
  have HW := Lib.hid (St.start w)
  have HB := Lib.hid (fun W h1 h2 => belowS_any n A xs cap D ws dap W (Lib.hid h1) (Lib.hid h2) hl)
  rw [q] at HB
  clear q
  go_enter Tryd.func15, Tryd.ntmps15
  go_wp2
  have HS := Lib.hid (HW.out.alloc [.int .i64 n, .slice A xs.length cap] 26)
  refine wp_region_line (S := (fun W => St w W [bx w.heap.size 26 [.int .i64 n, .slice A xs.length cap]])) (by kernel_rfl) (by kernel_rfl) ?_ ?_
  · exact HS.out.drew
  refine line_take (i := 0) (v := ?_) (by simp only [List.getElem?_toArray, List.getElem?_cons_succ, List.getElem?_cons_zero]; rfl) (by kernel_rfl) (by kernel_rfl) (by rfl) ?_ ?_
  rotate_left
  · intro wy hSw; (try dsimp only at hSw); have b0 := (hSw.box (i := 0) rfl).1 0 _ rfl; have b1 := (hSw.box (i := 0) rfl).1 1 _ rfl; go_simp; (try with_reducible rfl)
  try simp only [Act.put, List.setIfInBounds_toArray, List.set_cons_zero, List.set_cons_succ]
  refine line_take (i := 1) (v := ?_) (by simp only [List.getElem?_toArray, List.getElem?_cons_succ, List.getElem?_cons_zero]; rfl) (by kernel_rfl) (by kernel_rfl) (by rfl) ?_ ?_
  rotate_left
  · intro wy hSw; (try dsimp only at hSw); have b0 := (hSw.box (i := 0) rfl).1 0 _ rfl; have b1 := (hSw.box (i := 0) rfl).1 1 _ rfl; go_simp; (try with_reducible rfl)
  try simp only [Act.put, List.setIfInBounds_toArray, List.set_cons_zero, List.set_cons_succ]
  refine line_call (i := 2) (v := ?_) ?_ ?_ (by simp only [List.getElem?_toArray, List.getElem?_cons_succ, List.getElem?_cons_zero]; rfl) (by kernel_rfl) (by kernel_rfl) (by rfl) ?hc1 ?hv1 ?hn1
  case hv1 => intro wy hSw; go_simp; (try first | with_reducible rfl | (constructor <;> with_reducible rfl))
  case hc1 => intro wy hSw; (try dsimp only at hSw); refine Calls.mono (by with_reducible exact HB.out _ ((h.out.below hSw.base).mono hSw.size) ((g.out.below hSw.base).mono hSw.size)) ?_; rintro e wq ⟨rfl, hb⟩; refine ⟨?_, hSw.below hb⟩; with_reducible rfl
  try simp only [Act.put, List.setIfInBounds_toArray, List.set_cons_zero, List.set_cons_succ]
  refine line_take (i := 3) (v := ?_) (by simp only [List.getElem?_toArray, List.getElem?_cons_succ, List.getElem?_cons_zero]; rfl) (by kernel_rfl) (by kernel_rfl) (by rfl) ?_ ?_
  rotate_left
  · intro wy hSw; (try dsimp only at hSw); have b0 := (hSw.box (i := 0) rfl).1 0 _ rfl; have b1 := (hSw.box (i := 0) rfl).1 1 _ rfl; go_simp; (try with_reducible rfl)
  try simp only [Act.put, List.setIfInBounds_toArray, List.set_cons_zero, List.set_cons_succ]
  refine line_skip (i := 4) (by simp only [List.getElem?_toArray, List.getElem?_cons_succ, List.getElem?_cons_zero]; rfl) (by kernel_rfl) (by kernel_rfl) (by rfl) ?_
  try simp only [Act.put, List.setIfInBounds_toArray, List.set_cons_zero, List.set_cons_succ]
  refine line_skip (i := 5) (by simp only [List.getElem?_toArray, List.getElem?_cons_succ, List.getElem?_cons_zero]; rfl) (by kernel_rfl) (by kernel_rfl) (by rfl) ?_
  try simp only [Act.put, List.setIfInBounds_toArray, List.set_cons_zero, List.set_cons_succ]
  refine line_skip (i := 6) (by simp only [List.getElem?_toArray, List.getElem?_cons_succ, List.getElem?_cons_zero]; rfl) (by kernel_rfl) (by kernel_rfl) (by rfl) ?_
  try simp only [Act.put, List.setIfInBounds_toArray, List.set_cons_zero, List.set_cons_succ]
  refine line_skip (i := 7) (by simp only [List.getElem?_toArray, List.getElem?_cons_succ, List.getElem?_cons_zero]; rfl) (by kernel_rfl) (by kernel_rfl) (by rfl) ?_
  try simp only [Act.put, List.setIfInBounds_toArray, List.set_cons_zero, List.set_cons_succ]
  refine line_skip (i := 8) (by simp only [List.getElem?_toArray, List.getElem?_cons_succ, List.getElem?_cons_zero]; rfl) (by kernel_rfl) (by kernel_rfl) (by rfl) ?_
  try simp only [Act.put, List.setIfInBounds_toArray, List.set_cons_zero, List.set_cons_succ]
  refine line_skip (i := 9) (by simp only [List.getElem?_toArray, List.getElem?_cons_succ, List.getElem?_cons_zero]; rfl) (by kernel_rfl) (by kernel_rfl) (by rfl) ?_
  try simp only [Act.put, List.setIfInBounds_toArray, List.set_cons_zero, List.set_cons_succ]
  refine line_skip (i := 10) (by simp only [List.getElem?_toArray, List.getElem?_cons_succ, List.getElem?_cons_zero]; rfl) (by kernel_rfl) (by kernel_rfl) (by rfl) ?_
  try simp only [Act.put, List.setIfInBounds_toArray, List.set_cons_zero, List.set_cons_succ]
  refine line_skip (i := 11) (by simp only [List.getElem?_toArray, List.getElem?_cons_succ, List.getElem?_cons_zero]; rfl) (by kernel_rfl) (by kernel_rfl) (by rfl) ?_
  try simp only [Act.put, List.setIfInBounds_toArray, List.set_cons_zero, List.set_cons_succ]
  refine line_skip (i := 12) (by simp only [List.getElem?_toArray, List.getElem?_cons_succ, List.getElem?_cons_zero]; rfl) (by kernel_rfl) (by kernel_rfl) (by rfl) ?_
  try simp only [Act.put, List.setIfInBounds_toArray, List.set_cons_zero, List.set_cons_succ]
  refine line_skip (i := 13) (by simp only [List.getElem?_toArray, List.getElem?_cons_succ, List.getElem?_cons_zero]; rfl) (by kernel_rfl) (by kernel_rfl) (by rfl) ?_
  try simp only [Act.put, List.setIfInBounds_toArray, List.set_cons_zero, List.set_cons_succ]
  refine line_skip (i := 14) (by simp only [List.getElem?_toArray, List.getElem?_cons_succ, List.getElem?_cons_zero]; rfl) (by kernel_rfl) (by kernel_rfl) (by rfl) ?_
  try simp only [Act.put, List.setIfInBounds_toArray, List.set_cons_zero, List.set_cons_succ]
  refine line_skip (i := 15) (by simp only [List.getElem?_toArray, List.getElem?_cons_succ, List.getElem?_cons_zero]; rfl) (by kernel_rfl) (by kernel_rfl) (by rfl) ?_
  try simp only [Act.put, List.setIfInBounds_toArray, List.set_cons_zero, List.set_cons_succ]
  refine line_skip (i := 16) (by simp only [List.getElem?_toArray, List.getElem?_cons_succ, List.getElem?_cons_zero]; rfl) (by kernel_rfl) (by kernel_rfl) (by rfl) ?_
  try simp only [Act.put, List.setIfInBounds_toArray, List.set_cons_zero, List.set_cons_succ]
  refine line_skip (i := 17) (by simp only [List.getElem?_toArray, List.getElem?_cons_succ, List.getElem?_cons_zero]; rfl) (by kernel_rfl) (by kernel_rfl) (by rfl) ?_
  try simp only [Act.put, List.setIfInBounds_toArray, List.set_cons_zero, List.set_cons_succ]
  refine line_take (i := 18) (v := ?_) (by simp only [List.getElem?_toArray, List.getElem?_cons_succ, List.getElem?_cons_zero]; rfl) (by kernel_rfl) (by kernel_rfl) (by rfl) ?_ ?_
  rotate_left
  · intro wy hSw; (try dsimp only at hSw); have b0 := (hSw.box (i := 0) rfl).1 0 _ rfl; have b1 := (hSw.box (i := 0) rfl).1 1 _ rfl; go_simp; (try with_reducible rfl)
  try simp only [Act.put, List.setIfInBounds_toArray, List.set_cons_zero, List.set_cons_succ]
  refine line_take (i := 19) (v := ?_) (by simp only [List.getElem?_toArray, List.getElem?_cons_succ, List.getElem?_cons_zero]; rfl) (by kernel_rfl) (by kernel_rfl) (by rfl) ?_ ?_
  rotate_left
  · intro wy hSw; (try dsimp only at hSw); have b0 := (hSw.box (i := 0) rfl).1 0 _ rfl; have b1 := (hSw.box (i := 0) rfl).1 1 _ rfl; go_simp; (try with_reducible rfl)
  try simp only [Act.put, List.setIfInBounds_toArray, List.set_cons_zero, List.set_cons_succ]
  refine Line.done (by kernel_rfl) ?_
  intro wz hSz
  go_wp2
  go_ret
  exact ⟨rfl, hSz.base⟩

set_option maxRecDepth 100000 in
set_option maxHeartbeats 3200000 in
theorem baseS_yes (q : isBelow n xs ws = true) :
    Calls Tryd.prog 15 #[.agg #[.int .i64 n, .slice A xs.length cap], .slice D ws.length dap] w (RetV w (.bool (decide (weigh ws (xs.length - 1) ws.length = xs.getD (xs.length - 1) 0)))) := by
  have HW := Lib.hid (St.start w)
  have HB := Lib.hid (fun W h1 h2 => belowS_any n A xs cap D ws dap W (Lib.hid h1) (Lib.hid h2) hl)
  rw [q] at HB
  obtain ⟨q1, q2, q3, -⟩ := isBelow_yes q
  obtain ⟨h5, hv⟩ := isVec5_yes q3
  have hfn := ground_fn q1
  obtain ⟨n0, n5, hxl, -⟩ := isFn_yes hfn
  have hx32 := (isFn_len hfn).2
  have hx1 := (isFn_len hfn).1
  have HFU := Lib.hid (fun W => full_any n xs.length W n0 (by omega) hxl)
  have HWS := Lib.hid (fun W (h1 : Ints W W.heap.size D ws) => weigh5S_any D ws dap (xs.length - 1) W (Lib.hid h1) hv h5 (by omega))
  obtain ⟨b, off, rfl, hbl, hc⟩ := h.out.at_ (k := xs.length - 1) (by omega)
  have hsub : ((xs.length : Int) - 1) = ((xs.length - 1 : Nat) : Int) := by omega
  have hwr : IntKind.i64.wrap (((xs.length : Nat) : Int) - 1) = ((xs.length - 1 : Nat) : Int) := by rw [← hsub]; exact IntWalk.i64_in _ (by omega)
  rw [hsub] at HFU
  have hpk : ((xs.length - 1 : Nat) : Int) < (xs.length : Int) := by omega
  have hpk0 : (0 : Int) ≤ ((xs.length - 1 : Nat) : Int) := by omega
  obtain ⟨k, hk⟩ : ∃ k, xs.length - 1 = k := ⟨_, rfl⟩
  rw [hk] at HFU HWS hc hwr hpk hpk0 ⊢
  generalize weigh ws k ws.length = y at HWS ⊢
  generalize xs.getD k 0 = x at hc ⊢
  have HC := Lib.hid hc
  clear q q1 q2 q3 hv hfn hxl hk hsub hc h5
  have HH := Lib.hid (fun (W : World) (hb : Below w.heap.size w W) => (h.out.below hb).mono hb.size)
  obtain ⟨p, hp⟩ : ∃ p, xs.length = p := ⟨_, rfl⟩
  rw [hp] at HB hwr hpk hx32 hx1 ⊢
  clear hp
  go_enter Tryd.func15, Tryd.ntmps15
  go_wp2
  have HS := Lib.hid (HW.out.alloc [.int .i64 n, .slice (some ⟨b, off, none⟩) p cap] 26)
  refine wp_region_line (S := (fun W => St w W [bx w.heap.size 26 [.int .i64 n, .slice (some ⟨b, off, none⟩) p cap]])) (by kernel_rfl) (by kernel_rfl) ?_ ?_
  · exact HS.out.drew
  refine line_take (i := 0) (v := ?_) (by simp only [List.getElem?_toArray, List.getElem?_cons_succ, List.getElem?_cons_zero]; rfl) (by kernel_rfl) (by kernel_rfl) (by rfl) ?_ ?_
  rotate_left
  · intro wy hSw; (try dsimp only at hSw); have b0 := (hSw.box (i := 0) rfl).1 0 _ rfl; have b1 := (hSw.box (i := 0) rfl).1 1 _ rfl; have hcc := (hSw.base.cell (p := ⟨b, off + k, none⟩) hbl).trans HC.out; go_simp; (try with_reducible rfl)
  try simp only [Act.put, List.setIfInBounds_toArray, List.set_cons_zero, List.set_cons_succ]
  refine line_take (i := 1) (v := ?_) (by simp only [List.getElem?_toArray, List.getElem?_cons_succ, List.getElem?_cons_zero]; rfl) (by kernel_rfl) (by kernel_rfl) (by rfl) ?_ ?_
  rotate_left
  · intro wy hSw; (try dsimp only at hSw); have b0 := (hSw.box (i := 0) rfl).1 0 _ rfl; have b1 := (hSw.box (i := 0) rfl).1 1 _ rfl; have hcc := (hSw.base.cell (p := ⟨b, off + k, none⟩) hbl).trans HC.out; go_simp; (try with_reducible rfl)
  try simp only [Act.put, List.setIfInBounds_toArray, List.set_cons_zero, List.set_cons_succ]
  refine line_call (i := 2) (v := ?_) ?_ ?_ (by simp only [List.getElem?_toArray, List.getElem?_cons_succ, List.getElem?_cons_zero]; rfl) (by kernel_rfl) (by kernel_rfl) (by rfl) ?hc2 ?hv2 ?hn2
  case hv2 => intro wy hSw; go_simp; (try first | with_reducible rfl | (constructor <;> with_reducible rfl))
  case hc2 => intro wy hSw; (try dsimp only at hSw); refine Calls.mono (by with_reducible exact HB.out _ (HH.out _ hSw.base) ((g.out.below hSw.base).mono hSw.size)) ?_; rintro e wq ⟨rfl, hb⟩; refine ⟨?_, hSw.below hb⟩; with_reducible rfl
  try simp only [Act.put, List.setIfInBounds_toArray, List.set_cons_zero, List.set_cons_succ]
  refine line_take (i := 3) (v := ?_) (by simp only [List.getElem?_toArray, List.getElem?_cons_succ, List.getElem?_cons_zero]; rfl) (by kernel_rfl) (by kernel_rfl) (by rfl) ?_ ?_
  rotate_left
  · intro wy hSw; (try dsimp only at hSw); have b0 := (hSw.box (i := 0) rfl).1 0 _ rfl; have b1 := (hSw.box (i := 0) rfl).1 1 _ rfl; have hcc := (hSw.base.cell (p := ⟨b, off + k, none⟩) hbl).trans HC.out; go_simp; (try with_reducible rfl)
  try simp only [Act.put, List.setIfInBounds_toArray, List.set_cons_zero, List.set_cons_succ]
  refine line_take (i := 4) (v := ?_) (by simp only [List.getElem?_toArray, List.getElem?_cons_succ, List.getElem?_cons_zero]; rfl) (by kernel_rfl) (by kernel_rfl) (by rfl) ?_ ?_
  rotate_left
  · intro wy hSw; (try dsimp only at hSw); have b0 := (hSw.box (i := 0) rfl).1 0 _ rfl; have b1 := (hSw.box (i := 0) rfl).1 1 _ rfl; have hcc := (hSw.base.cell (p := ⟨b, off + k, none⟩) hbl).trans HC.out; go_simp; (try with_reducible rfl)
  try simp only [Act.put, List.setIfInBounds_toArray, List.set_cons_zero, List.set_cons_succ]
  refine line_take (i := 5) (v := ?_) (by simp only [List.getElem?_toArray, List.getElem?_cons_succ, List.getElem?_cons_zero]; rfl) (by kernel_rfl) (by kernel_rfl) (by rfl) ?_ ?_
  rotate_left
  · intro wy hSw; (try dsimp only at hSw); have b0 := (hSw.box (i := 0) rfl).1 0 _ rfl; have b1 := (hSw.box (i := 0) rfl).1 1 _ rfl; have hcc := (hSw.base.cell (p := ⟨b, off + k, none⟩) hbl).trans HC.out; go_simp; (try with_reducible rfl)
  try simp only [Act.put, List.setIfInBounds_toArray, List.set_cons_zero, List.set_cons_succ]
  refine line_take (i := 6) (v := ?_) (by simp only [List.getElem?_toArray, List.getElem?_cons_succ, List.getElem?_cons_zero]; rfl) (by kernel_rfl) (by kernel_rfl) (by rfl) ?_ ?_
  rotate_left
  · intro wy hSw; (try dsimp only at hSw); have b0 := (hSw.box (i := 0) rfl).1 0 _ rfl; have b1 := (hSw.box (i := 0) rfl).1 1 _ rfl; have hcc := (hSw.base.cell (p := ⟨b, off + k, none⟩) hbl).trans HC.out; go_simp; (try with_reducible rfl)
  try simp only [Act.put, List.setIfInBounds_toArray, List.set_cons_zero, List.set_cons_succ]
  refine line_call (i := 7) (v := ?_) ?_ ?_ (by simp only [List.getElem?_toArray, List.getElem?_cons_succ, List.getElem?_cons_zero]; rfl) (by kernel_rfl) (by kernel_rfl) (by rfl) ?hc3 ?hv3 ?hn3
  case hv3 => intro wy hSw; go_simp; (try first | with_reducible rfl | (constructor <;> with_reducible rfl))
  case hc3 => intro wy hSw; (try dsimp only at hSw); refine Calls.mono (by with_reducible exact HFU.out _) ?_; rintro e wq ⟨rfl, rfl⟩; refine ⟨?_, hSw⟩; with_reducible rfl
  try simp only [Act.put, List.setIfInBounds_toArray, List.set_cons_zero, List.set_cons_succ]
  refine line_call (i := 8) (v := ?_) ?_ ?_ (by simp only [List.getElem?_toArray, List.getElem?_cons_succ, List.getElem?_cons_zero]; rfl) (by kernel_rfl) (by kernel_rfl) (by rfl) ?hc4 ?hv4 ?hn4
  case hv4 => intro wy hSw; go_simp; (try first | with_reducible rfl | (constructor <;> with_reducible rfl))
  case hc4 => intro wy hSw; (try dsimp only at hSw); refine Calls.mono (by with_reducible exact HWS.out _ ((g.out.below hSw.base).mono hSw.size)) ?_; rintro e wq ⟨rfl, qq, rfl⟩; refine ⟨?_, hSw.drewN qq⟩; with_reducible rfl
  try simp only [Act.put, List.setIfInBounds_toArray, List.set_cons_zero, List.set_cons_succ]
  refine line_take (i := 9) (v := ?_) (by simp only [List.getElem?_toArray, List.getElem?_cons_succ, List.getElem?_cons_zero]; rfl) (by kernel_rfl) (by kernel_rfl) (by rfl) ?_ ?_
  rotate_left
  · intro wy hSw; (try dsimp only at hSw); have b0 := (hSw.box (i := 0) rfl).1 0 _ rfl; have b1 := (hSw.box (i := 0) rfl).1 1 _ rfl; have hcc := (hSw.base.cell (p := ⟨b, off + k, none⟩) hbl).trans HC.out; go_simp; (try with_reducible rfl)
  try simp only [Act.put, List.setIfInBounds_toArray, List.set_cons_zero, List.set_cons_succ]
  refine line_take (i := 10) (v := ?_) (by simp only [List.getElem?_toArray, List.getElem?_cons_succ, List.getElem?_cons_zero]; rfl) (by kernel_rfl) (by kernel_rfl) (by rfl) ?_ ?_
  rotate_left
  · intro wy hSw; (try dsimp only at hSw); have b0 := (hSw.box (i := 0) rfl).1 0 _ rfl; have b1 := (hSw.box (i := 0) rfl).1 1 _ rfl; have hcc := (hSw.base.cell (p := ⟨b, off + k, none⟩) hbl).trans HC.out; go_simp; (try with_reducible rfl)
  try simp only [Act.put, List.setIfInBounds_toArray, List.set_cons_zero, List.set_cons_succ]
  refine line_take (i := 11) (v := ?_) (by simp only [List.getElem?_toArray, List.getElem?_cons_succ, List.getElem?_cons_zero]; rfl) (by kernel_rfl) (by kernel_rfl) (by rfl) ?_ ?_
  rotate_left
  · intro wy hSw; (try dsimp only at hSw); have b0 := (hSw.box (i := 0) rfl).1 0 _ rfl; have b1 := (hSw.box (i := 0) rfl).1 1 _ rfl; have hcc := (hSw.base.cell (p := ⟨b, off + k, none⟩) hbl).trans HC.out; go_simp; (try with_reducible rfl)
  try simp only [Act.put, List.setIfInBounds_toArray, List.set_cons_zero, List.set_cons_succ]
  refine line_take (i := 12) (v := ?_) (by simp only [List.getElem?_toArray, List.getElem?_cons_succ, List.getElem?_cons_zero]; rfl) (by kernel_rfl) (by kernel_rfl) (by rfl) ?_ ?_
  rotate_left
  · intro wy hSw; (try dsimp only at hSw); have b0 := (hSw.box (i := 0) rfl).1 0 _ rfl; have b1 := (hSw.box (i := 0) rfl).1 1 _ rfl; have hcc := (hSw.base.cell (p := ⟨b, off + k, none⟩) hbl).trans HC.out; go_simp; (try with_reducible rfl)
  try simp only [Act.put, List.setIfInBounds_toArray, List.set_cons_zero, List.set_cons_succ]
  refine line_take (i := 13) (v := ?_) (by simp only [List.getElem?_toArray, List.getElem?_cons_succ, List.getElem?_cons_zero]; rfl) (by kernel_rfl) (by kernel_rfl) (by rfl) ?_ ?_
  rotate_left
  · intro wy hSw; (try dsimp only at hSw); have b0 := (hSw.box (i := 0) rfl).1 0 _ rfl; have b1 := (hSw.box (i := 0) rfl).1 1 _ rfl; have hcc := (hSw.base.cell (p := ⟨b, off + k, none⟩) hbl).trans HC.out; go_simp; (try with_reducible rfl)
  try simp only [Act.put, List.setIfInBounds_toArray, List.set_cons_zero, List.set_cons_succ]
  refine line_take (i := 14) (v := ?_) (by simp only [List.getElem?_toArray, List.getElem?_cons_succ, List.getElem?_cons_zero]; rfl) (by kernel_rfl) (by kernel_rfl) (by rfl) ?_ ?_
  rotate_left
  · intro wy hSw; (try dsimp only at hSw); have b0 := (hSw.box (i := 0) rfl).1 0 _ rfl; have b1 := (hSw.box (i := 0) rfl).1 1 _ rfl; have hcc := (hSw.base.cell (p := ⟨b, off + k, none⟩) hbl).trans HC.out; go_simp; (try with_reducible rfl)
  try simp only [Act.put, List.setIfInBounds_toArray, List.set_cons_zero, List.set_cons_succ]
  refine line_take (i := 15) (v := ?_) (by simp only [List.getElem?_toArray, List.getElem?_cons_succ, List.getElem?_cons_zero]; rfl) (by kernel_rfl) (by kernel_rfl) (by rfl) ?_ ?_
  rotate_left
  · intro wy hSw; (try dsimp only at hSw); have b0 := (hSw.box (i := 0) rfl).1 0 _ rfl; have b1 := (hSw.box (i := 0) rfl).1 1 _ rfl; have hcc := (hSw.base.cell (p := ⟨b, off + k, none⟩) hbl).trans HC.out; go_simp; (try with_reducible rfl)
  try simp only [Act.put, List.setIfInBounds_toArray, List.set_cons_zero, List.set_cons_succ]
  refine line_take (i := 16) (v := ?_) (by simp only [List.getElem?_toArray, List.getElem?_cons_succ, List.getElem?_cons_zero]; rfl) (by kernel_rfl) (by kernel_rfl) (by rfl) ?_ ?_
  rotate_left
  · intro wy hSw; (try dsimp only at hSw); have b0 := (hSw.box (i := 0) rfl).1 0 _ rfl; have b1 := (hSw.box (i := 0) rfl).1 1 _ rfl; have hcc := (hSw.base.cell (p := ⟨b, off + k, none⟩) hbl).trans HC.out; go_simp; (try with_reducible rfl)
  try simp only [Act.put, List.setIfInBounds_toArray, List.set_cons_zero, List.set_cons_succ]
  refine line_take (i := 17) (v := ?_) (by simp only [List.getElem?_toArray, List.getElem?_cons_succ, List.getElem?_cons_zero]; rfl) (by kernel_rfl) (by kernel_rfl) (by rfl) ?_ ?_
  rotate_left
  · intro wy hSw; (try dsimp only at hSw); have b0 := (hSw.box (i := 0) rfl).1 0 _ rfl; have b1 := (hSw.box (i := 0) rfl).1 1 _ rfl; have hcc := (hSw.base.cell (p := ⟨b, off + k, none⟩) hbl).trans HC.out; go_simp; (try with_reducible rfl)
  try simp only [Act.put, List.setIfInBounds_toArray, List.set_cons_zero, List.set_cons_succ]
  refine line_take (i := 18) (v := ?_) (by simp only [List.getElem?_toArray, List.getElem?_cons_succ, List.getElem?_cons_zero]; rfl) (by kernel_rfl) (by kernel_rfl) (by rfl) ?_ ?_
  rotate_left
  · intro wy hSw; (try dsimp only at hSw); have b0 := (hSw.box (i := 0) rfl).1 0 _ rfl; have b1 := (hSw.box (i := 0) rfl).1 1 _ rfl; have hcc := (hSw.base.cell (p := ⟨b, off + k, none⟩) hbl).trans HC.out; go_simp; (try with_reducible rfl)
  try simp only [Act.put, List.setIfInBounds_toArray, List.set_cons_zero, List.set_cons_succ]
  refine line_take (i := 19) (v := ?_) (by simp only [List.getElem?_toArray, List.getElem?_cons_succ, List.getElem?_cons_zero]; rfl) (by kernel_rfl) (by kernel_rfl) (by rfl) ?_ ?_
  rotate_left
  · intro wy hSw; (try dsimp only at hSw); have b0 := (hSw.box (i := 0) rfl).1 0 _ rfl; have b1 := (hSw.box (i := 0) rfl).1 1 _ rfl; have hcc := (hSw.base.cell (p := ⟨b, off + k, none⟩) hbl).trans HC.out; go_simp; (try with_reducible rfl)
  try simp only [Act.put, List.setIfInBounds_toArray, List.set_cons_zero, List.set_cons_succ]
  refine Line.done (by kernel_rfl) ?_
  intro wz hSz
  go_wp2
  go_ret
  exact ⟨by congr 2, hSz.base⟩

theorem baseS_any : Calls Tryd.prog 15 #[.agg #[.int .i64 n, .slice A xs.length cap], .slice D ws.length dap] w (RetV w (.bool (isBase n xs ws))) := by
  unfold isBase
  cases q : isBelow n xs ws
  · exact baseS_no n A xs cap D ws dap w h g hl q
  · rw [Bool.true_and]
    exact baseS_yes n A xs cap D ws dap w h g hl q

end


end Go.Proofs.YtffbiflgmlabaaaDoor.C
