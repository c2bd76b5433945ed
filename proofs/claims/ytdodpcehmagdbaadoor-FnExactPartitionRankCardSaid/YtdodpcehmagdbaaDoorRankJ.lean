/-
  The contract of impl.PartitionRank.
-/
import Derived.Test.YtdodpcehmagdbaaDoorRankI
namespace Go.Proofs.YtdodpcehmagdbaaDoor.C
open Go.RowKit K M
set_option linter.unusedVariables false
set_option linter.unusedSimpArgs false

theorem rankC (Ag Am : Option Addr) (g ms : List Int) (cg cm S gb mb : Nat) (w : World) (hg : Hid (Ints w w.heap.size Ag g)) (hm : Hid (Ints w w.heap.size Am ms)) (hp : partOk g ms) (hS : S < 2 ^ g.length) (hb : Hid (Brujn w))
    (h1 : w.cell? ⟨gb, 0, none⟩ = some (.slice Ag g.length cg)) (h2 : w.cell? ⟨mb, 0, none⟩ = some (.slice Am ms.length cm)) :
    Calls Tryd.prog 16 #[.int .i64 S, .pointer (some ⟨gb, 0, none⟩), .pointer (some ⟨mb, 0, none⟩)] w (RetV w (.int .i64 (rankV g ms S))) := by
  have HC := Lib.hid (rankI_of Ag Am g ms cg cm S w hg hm hp hS hb)
  generalize rankV g ms S = y at HC ⊢
  generalize g.length = n at *
  generalize ms.length = m at *
  clear hp hS
  go_enter Tryd.func16, Tryd.ntmps16
  go_wp2_with (go_at_call 17; refine HC.out.mono ?_; rintro e w1 ⟨rfl, hb1⟩; have HB := Lib.hid hb1; clear hb1)
  go_ret
  exact ⟨rfl, HB.out⟩

set_option maxHeartbeats 1600000 in
theorem rankI_no (Ag Am : Option Addr) (g ms : List Int) (cg cm : Nat) (w : World) (hg : Hid (Ints w w.heap.size Ag g)) (hm : Hid (Ints w w.heap.size Am ms)) (hno : ¬ partOk g ms) :
    Calls Tryd.prog 6 #[.slice Ag g.length cg, .slice Am ms.length cm] w (RetFB w 0 [] false) := by
  have HW := Lib.hid (St.start w)
  have HA := Lib.hid (fun W h1 h2 => partI_any Ag Am g ms cg cm W (Lib.hid h1) (Lib.hid h2))
  rw [decide_eq_false hno] at HA
  clear hno
  generalize g.length = n at *
  generalize ms.length = m at *
  go_enter Tryd.func6, Tryd.ntmps6
  go_wp2_with (go_at_call 14; refine St.use (w0 := w) (by exact ((HW.out.alloc _ _).alloc _ _).alloc _ _) ?_; intro hS; refine (HA.out _ ((hg.out.below hS.base).mono hS.size) ((hm.out.below hS.base).mono hS.size)).mono ?_; rintro e w' ⟨rfl, rfl⟩; clear hS)
  have hS := ((HW.out.alloc [.slice Ag n cg] 22).alloc [.slice Am m cm] 22).alloc [.int .i64 0, .slice none 0 0] 24
  exact bodyPost_ret (v := .tuple #[.agg #[.int .i64 0, .slice none 0 0], .bool false]) (by simp [results, Tryd.results6, go_sem]) rfl ⟨none, 0, rfl, Own.nil _ _, hS.base⟩

set_option maxRecDepth 100000 in
set_option maxHeartbeats 4000000 in
theorem rankI_good (Ag Am : Option Addr) (g ms : List Int) (cg cm : Nat) (w : World) (hg : Hid (Ints w w.heap.size Ag g)) (hm : Hid (Ints w w.heap.size Am ms)) (hp : partOk g ms) (hbr : Hid (Brujn w)) (f : Nat → Int) (hf : ∀ s, rankV g ms s = f s) :
    Calls Tryd.prog 6 #[.slice Ag g.length cg, .slice Am ms.length cm] w (RetFB w (made (g.length : Int) (tab (2 ^ g.length) f)).1 (made (g.length : Int) (tab (2 ^ g.length) f)).2.1 (made (g.length : Int) (tab (2 ^ g.length) f)).2.2) := by
  have HW := Lib.hid (St.start w)
  have h5 := hp.1
  have HA := Lib.hid (fun W h1 h2 => partI_any Ag Am g ms cg cm W (Lib.hid h1) (Lib.hid h2))
  rw [decide_eq_true hp] at HA
  have hC := Lib.hid (fun (W : World) (S gb mb : Nat) (h1 : Ints W W.heap.size Ag g) (h2 : Ints W W.heap.size Am ms) (hS : S < 2 ^ g.length) (hB : Brujn W) (c1 : W.cell? ⟨gb, 0, none⟩ = some (.slice Ag g.length cg)) (c2 : W.cell? ⟨mb, 0, none⟩ = some (.slice Am ms.length cm)) => show Calls Tryd.prog 16 #[.int .i64 S, .pointer (some ⟨gb, 0, none⟩), .pointer (some ⟨mb, 0, none⟩)] W (RetV W (.int .i64 (f S))) from by
    have := rankC Ag Am g ms cg cm S gb mb W (Lib.hid h1) (Lib.hid h2) hp hS (Lib.hid hB) c1 c2
    rwa [hf] at this)
  clear hp hf
  generalize g.length = n at *
  generalize ms.length = m at *
  obtain ⟨rn, rx, rb, hr⟩ : ∃ rn rx rb, made (n : Int) (tab (2 ^ n) f) = (rn, rx, rb) := ⟨_, _, _, rfl⟩
  rw [hr]
  have HR := Lib.hid hr
  clear hr
  have HK := Lib.hid (fun (W : World) => make_rank (n : Int) (2 ^ n) f (.pointer (some ⟨w.heap.size, 0, none⟩)) (.pointer (some ⟨w.heap.size + 1, 0, none⟩)) W (by omega) (by omega) (by rw [Int.toNat_natCast]) rn rx rb HR)
  go_enter Tryd.func6, Tryd.ntmps6
  go_wp2_with (first
    | (go_at_call 14; refine St.use (w0 := w) (by exact ((HW.out.alloc _ _).alloc _ _).alloc _ _) ?_; intro hS; refine (HA.out _ ((hg.out.below hS.base).mono hS.size) ((hm.out.below hS.base).mono hS.size)).mono ?_; rintro e w' ⟨rfl, rfl⟩; have HS := Lib.hid hS; simp only [World.size_alloc] at HS; clear hS)
    | (go_at_call 15; refine (HK.out _ (Lib.hid fun j hj W hW => hC.out W j _ _ ((hg.out.below (HS.out.base.trans (hW.mono HS.out.size))).mono (Nat.le_trans HS.out.size hW.size)) ((hm.out.below (HS.out.base.trans (hW.mono HS.out.size))).mono (Nat.le_trans HS.out.size hW.size)) hj (brujn_on hbr.out (HS.out.base.trans (hW.mono HS.out.size))) ((hW.cell (p := ⟨w.heap.size, 0, none⟩) (HS.out.lt (i := 2) rfl).2).trans ((HS.out.box (i := 2) rfl).1 0 _ rfl)) ((hW.cell (p := ⟨w.heap.size + 1, 0, none⟩) (HS.out.lt (i := 1) rfl).2).trans ((HS.out.box (i := 1) rfl).1 0 _ rfl)))).mono ?_; rintro e w2 ⟨B, d, rfl, ho, hb⟩; have hS2 := HS.out.newI hb ho; obtain ⟨r1, rf⟩ := hS2.box (i := 1) rfl; have r10 := r1 0 _ rfl; have r11 := r1 1 _ rfl; have rf0 := rf 0; have rf1 := rf 1; have rl := (hS2.lt (i := 1) rfl).2; have HS2 := Lib.hid hS2; clear r1 rf hb ho hS2))
  have hZ := (HS2.out.store (i := 1) rfl 0 (.int .i64 rn)).store (i := 1) rfl 1 (.slice B rx.length d)
  exact bodyPost_ret (v := .tuple #[.agg #[.int .i64 rn, .slice B rx.length d], .bool rb]) (by simp [results, Tryd.results6, go_sem, r10, r11, rf0, rf1, rl]) rfl ⟨B, d, rfl, hZ.ownI (i := 0) rfl, hZ.base⟩

theorem rankI_any (Ag Am : Option Addr) (g ms : List Int) (cg cm : Nat) (w : World) (hg : Hid (Ints w w.heap.size Ag g)) (hm : Hid (Ints w w.heap.size Am ms)) (hbr : Hid (Brujn w)) :
    Calls Tryd.prog 6 #[.slice Ag g.length cg, .slice Am ms.length cm] w (RetFB w (rankFn g ms).1 (rankFn g ms).2.1 (rankFn g ms).2.2) := by
  by_cases h : partOk g ms
  · have e : rankFn g ms = made (g.length : Int) (tab (2 ^ g.length) (rankV g ms)) := if_pos h
    rw [e]
    exact rankI_good Ag Am g ms cg cm w hg hm h hbr _ fun s => rfl
  · have e : rankFn g ms = (0, [], false) := if_neg h
    rw [e]
    exact rankI_no Ag Am g ms cg cm w hg hm h

end Go.Proofs.YtdodpcehmagdbaaDoor.C
