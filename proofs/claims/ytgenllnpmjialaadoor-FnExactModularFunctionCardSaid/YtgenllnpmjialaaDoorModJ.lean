/-
  The contract of impl.ModularFunction.
-/
import Derived.Test.YtgenllnpmjialaaDoorDualI
namespace Go.Proofs.YtgenllnpmjialaaDoor.C
open Go.RowKit K M
set_option linter.unusedVariables false
set_option linter.unusedSimpArgs false

set_option maxHeartbeats 1600000 in
theorem modfnI_len (A : Option Addr) (m cap : Nat) (c : Int) (w : World) (hm : 5 < m) :
    Calls Tryd.prog 13 #[.slice A m cap, .int .i64 c] w (RetFB w 0 [] false) := by
  have HW := Lib.hid (St.start w)
  have hg : (5 : Int) < (m : Int) := by omega
  go_enter Tryd.func13, Tryd.ntmps13
  go_wp2
  have hS := ((HW.out.alloc [.slice A m cap] 22).alloc [.int .i64 c] 3).alloc [.int .i64 0, .slice none 0 0] 29
  exact bodyPost_ret (v := .tuple #[.agg #[.int .i64 0, .slice none 0 0], .bool false]) (by simp [results, Tryd.results13, go_sem]) rfl ⟨none, 0, rfl, K.Own.nil _ _, hS.base⟩

set_option maxHeartbeats 1600000 in
theorem modfnI_val (A : Option Addr) (ws : List Int) (cap : Nat) (c : Int) (w : World) (h : Hid (Ints w w.heap.size A ws)) (hm : ws.length ≤ 5)
    (j : Nat) (hj : j < ws.length) (hb : ws.getD j 0 < -1000 ∨ 1000 < ws.getD j 0) (hv : ∀ k, k < j → -1000 ≤ ws.getD k 0 ∧ ws.getD k 0 ≤ 1000) :
    Calls Tryd.prog 13 #[.slice A ws.length cap, .int .i64 c] w (RetFB w 0 [] false) := by
  have HW := Lib.hid (St.start w)
  have HA := Lib.hid (fun W (hW : Ints W W.heap.size A ws) => areI_no A ws cap W (Lib.hid hW) (by omega) j hj hb hv)
  obtain ⟨m, hxm⟩ : ∃ m, ws.length = m := ⟨_, rfl⟩
  rw [hxm] at hm HA ⊢
  have hg : ¬ (5 : Int) < (m : Int) := by omega
  clear hv hxm hb hj
  go_enter Tryd.func13, Tryd.ntmps13
  go_wp2_with (go_at_call 28; refine (HA.out _ ?_).mono ?_; exact (h.out.below ((((HW.out.alloc _ _).alloc _ _).alloc _ _).base)).mono (by simp only [World.size_alloc]; omega); rintro e w' ⟨rfl, rfl⟩)
  have hS := ((HW.out.alloc [.slice A m cap] 22).alloc [.int .i64 c] 3).alloc [.int .i64 0, .slice none 0 0] 29
  exact bodyPost_ret (v := .tuple #[.agg #[.int .i64 0, .slice none 0 0], .bool false]) (by simp [results, Tryd.results13, go_sem]) rfl ⟨none, 0, rfl, K.Own.nil _ _, hS.base⟩

theorem one_ok {c : Int} (c1 : -1000 ≤ c) (c2 : c ≤ 1000) : weightsOk [c] := fun k hk => by
  obtain rfl : k = 0 := by simp at hk; omega
  exact ⟨c1, c2⟩

theorem one_ints {w0 w : World} {L : List Cel} {i g : Nat} {t : TypeId} {c : Int} (h : St w0 w L) (hi : L[i]? = some (bx g t [.int .i64 c])) : Ints w w.heap.size (some ⟨g, 0, none⟩) [c] := by
  intro h0
  refine ⟨g, 0, rfl, (h.lt hi).2, fun k hk => ?_⟩
  obtain rfl : k = 0 := by simp at hk; omega
  exact (h.box hi).1 0 _ rfl

set_option maxHeartbeats 1600000 in
theorem modfnI_c2 (A : Option Addr) (ws : List Int) (cap : Nat) (c : Int) (w : World) (h : Hid (Ints w w.heap.size A ws)) (hm : ws.length ≤ 5) (hv : ∀ k, k < ws.length → -1000 ≤ ws.getD k 0 ∧ ws.getD k 0 ≤ 1000) (hc : c < -1000 ∨ 1000 < c) :
    Calls Tryd.prog 13 #[.slice A ws.length cap, .int .i64 c] w (RetFB w 0 [] false) := by
  have HW := Lib.hid (St.start w)
  have HC := Lib.hid hc
  have HA := Lib.hid (fun W (hW : Ints W W.heap.size A ws) => areI_yes A ws cap W (Lib.hid hW) (by omega) hv)
  obtain ⟨m, hxm⟩ : ∃ m, ws.length = m := ⟨_, rfl⟩
  rw [hxm] at hm HA ⊢
  have hg : ¬ (5 : Int) < (m : Int) := by omega
  clear hv hxm hc
  go_enter Tryd.func13, Tryd.ntmps13
  go_wp2_with (first
    | (go_at_call_of 28 (Value.slice A m cap); refine (HA.out _ ?_).mono ?_; exact (h.out.below ((((HW.out.alloc _ _).alloc _ _).alloc _ _).base)).mono (by simp only [World.size_alloc]; omega); rintro e w' ⟨rfl, rfl⟩)
    | (go_at_call 28; refine St.use (w0 := w) (by exact (((HW.out.alloc _ _).alloc _ _).alloc _ _).alloc _ _) ?_; intro hS; (try simp only [World.size_alloc] at hS); refine (areI_no _ [c] 1 _ (Lib.hid (one_ints hS (i := 0) rfl)) (by simp) 0 (by simp) HC.out (fun k hk => absurd hk (by omega))).mono ?_; rintro e w' ⟨rfl, rfl⟩; have HS9 := Lib.hid hS; clear hS))
  have hS := HS9.out
  exact bodyPost_ret (v := .tuple #[.agg #[.int .i64 0, .slice none 0 0], .bool false]) (by simp [results, Tryd.results13, go_sem]) rfl ⟨none, 0, rfl, K.Own.nil _ _, hS.base⟩

set_option maxRecDepth 100000 in
set_option maxHeartbeats 4000000 in
theorem modfnI_good2 (A : Option Addr) (ws : List Int) (cap : Nat) (c : Int) (w : World) (h : Hid (Ints w w.heap.size A ws)) (hm : ws.length ≤ 5) (c1 : -1000 ≤ c) (c2 : c ≤ 1000) (hv : ∀ k, k < ws.length → -1000 ≤ ws.getD k 0 ∧ ws.getD k 0 ≤ 1000) (hbr : Hid (Brujn w)) :
    Calls Tryd.prog 13 #[.slice A ws.length cap, .int .i64 c] w (RetFB w (made (ws.length : Int) (tab (2 ^ ws.length) fun s => c + weigh ws s ws.length)).1 (made (ws.length : Int) (tab (2 ^ ws.length) fun s => c + weigh ws s ws.length)).2.1 (made (ws.length : Int) (tab (2 ^ ws.length) fun s => c + weigh ws s ws.length)).2.2) := by
  have HW := Lib.hid (St.start w)
  have HA := Lib.hid (fun W (hW : Ints W W.heap.size A ws) => areI_yes A ws cap W (Lib.hid hW) (by omega) hv)
  have hC := Lib.hid (fun (W : World) (S cb wb : Nat) (hW : Ints W W.heap.size A ws) (hS : S < 2 ^ ws.length) (hB : Brujn W) => modC A ws cap S c cb wb W (Lib.hid hW) hv hm hS (Lib.hid hB) c1 c2)
  obtain ⟨f, hf⟩ : ∃ f : Nat → Int, f = fun s => c + weigh ws s ws.length := ⟨_, rfl⟩
  have hfs : ∀ s, c + weigh ws s ws.length = f s := fun s => by rw [hf]
  simp only [hfs] at hC
  rw [← hf]
  obtain ⟨rn, rx, rb, hr⟩ : ∃ rn rx rb, made (ws.length : Int) (tab (2 ^ ws.length) f) = (rn, rx, rb) := ⟨_, _, _, rfl⟩
  rw [hr]
  have HR := Lib.hid hr
  obtain ⟨m, hxm⟩ : ∃ m, ws.length = m := ⟨_, rfl⟩
  rw [hxm] at hm hC HR HA ⊢
  have HX := Lib.hid hxm
  have HV := Lib.hid hv
  have hg : ¬ (5 : Int) < (m : Int) := by omega
  clear hv hxm hf hfs hr
  go_enter Tryd.func13, Tryd.ntmps13
  go_wp2_with (first
    | (go_at_call_of 28 (Value.slice A m cap); refine (HA.out _ ?_).mono ?_; exact (h.out.below ((((HW.out.alloc _ _).alloc _ _).alloc _ _).base)).mono (by simp only [World.size_alloc]; omega); rintro e w' ⟨rfl, rfl⟩)
    | (go_at_call 28; refine St.use (w0 := w) (by exact (((HW.out.alloc _ _).alloc _ _).alloc _ _).alloc _ _) ?_; intro hS; (try simp only [World.size_alloc] at hS); refine (areI_yes _ [c] 1 _ (Lib.hid (one_ints hS (i := 0) rfl)) (by simp) (one_ok c1 c2)).mono ?_; rintro e w' ⟨rfl, rfl⟩; clear hS))
  have HS := Lib.hid ((((HW.out.alloc [.slice A m cap] 22).alloc [.int .i64 c] 3).alloc [.int .i64 0, .slice none 0 0] 29).alloc [.int .i64 c] 3)
  have HK := Lib.hid (fun (W : World) (hb : Below w.heap.size w W) => make_mod (m : Int) (2 ^ m) f (.pointer (some ⟨w.heap.size + 1, 0, none⟩)) (.pointer (some ⟨w.heap.size, 0, none⟩)) W (by omega) (by omega) (by rw [Int.toNat_natCast]) rn rx rb HR)
  refine (HK.out _ HS.out.base (Lib.hid fun j hj W hW => hC.out W j _ _ ((h.out.below (HS.out.base.trans (hW.mono HS.out.size))).mono (Nat.le_trans HS.out.size hW.size)) hj (brujn_on hbr.out (HS.out.base.trans (hW.mono HS.out.size))) ((hW.cell (p := ⟨w.heap.size + 1, 0, none⟩) (by simp)).trans (by simp [go_sem])) ((hW.cell (p := ⟨w.heap.size, 0, none⟩) (by simp; omega)).trans (by simp [go_sem])) (Nat.lt_of_lt_of_le (by simp) hW.size) (Nat.lt_of_lt_of_le (by simp; omega) hW.size))).mono ?_
  rintro e w1 ⟨B, d, rfl, ho, hb⟩
  have hS1 := HS.out.newI hb ho
  obtain ⟨r1, rf⟩ := hS1.box (i := 2) rfl
  have r10 := r1 0 _ rfl
  have r11 := r1 1 _ rfl
  have rf0 := rf 0
  have rf1 := rf 1
  have HS1 := Lib.hid hS1
  clear r1 rf hb ho hS1
  simp only [World.size_alloc] at r10 r11 rf0 rf1 HS1
  go_wp2
  have hZ := (HS1.out.store (i := 2) rfl 0 (.int .i64 rn)).store (i := 2) rfl 1 (.slice B rx.length d)
  exact bodyPost_ret (v := .tuple #[.agg #[.int .i64 rn, .slice B rx.length d], .bool rb]) (by simp [results, Tryd.results13, go_sem, r10, r11, rf0, rf1]) rfl ⟨B, d, rfl, hZ.ownI (i := 0) rfl, hZ.base⟩

theorem modfnI_any (A : Option Addr) (ws : List Int) (cap : Nat) (c : Int) (w : World) (h : Hid (Ints w w.heap.size A ws)) (hbr : Hid (Brujn w)) :
    Calls Tryd.prog 13 #[.slice A ws.length cap, .int .i64 c] w (RetFB w (modFn ws c).1 (modFn ws c).2.1 (modFn ws c).2.2) := by
  unfold modFn
  split
  · rename_i hh
    exact modfnI_good2 A ws cap c w h hh.1 hh.2.1 hh.2.2.1 (weights_all.1 hh.2.2.2) hbr
  · rename_i hh
    by_cases h1 : ws.length ≤ 5
    · by_cases h3 : ∀ k, k < ws.length → -1000 ≤ ws.getD k 0 ∧ ws.getD k 0 ≤ 1000
      · exact modfnI_c2 A ws cap c w h h1 h3 (by
          by_cases h2 : -1000 ≤ c ∧ c ≤ 1000
          · exact absurd ⟨h1, h2.1, h2.2, weights_all.2 h3⟩ hh
          · omega)
      · obtain ⟨j, hj, hb, hv⟩ := weight_bad h3
        exact modfnI_val A ws cap c w h h1 j hj hb hv
    · exact modfnI_len A _ cap c w (by omega)

end Go.Proofs.YtgenllnpmjialaaDoor.C
