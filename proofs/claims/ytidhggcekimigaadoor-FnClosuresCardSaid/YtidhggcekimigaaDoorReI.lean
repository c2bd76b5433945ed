/-
  The contracts of impl.functionOn and of the closures of chapter 5.
-/
import Derived.Test.YtidhggcekimigaaDoorPts
import Derived.Test.YtidhggcekimigaaDoorMakeOn
import Derived.Test.YtidhggcekimigaaDoorSizeI
import Derived.Test.YtidhggcekimigaaDoorAllM
import Derived.Test.YtidhggcekimigaaDoorVal
namespace Go.Proofs.YtidhggcekimigaaDoor.C
open Go.RowKit K M
set_option linter.unusedVariables false
set_option linter.unusedSimpArgs false

theorem compl_val : ∀ n : Nat, n < 6 → ∀ s : Nat, s < 2 ^ n → bits .xor .i64 (s : Int) (((2 ^ n : Nat) : Int) - 1) = ((compl n s : Nat) : Int) := by decide +kernel

theorem complI (N S : Nat) (w : World) (h5 : N ≤ 5) (hS : S < 2 ^ N) : Calls Tryd.prog 57 #[.int .i64 S, .int .i64 N] w fun e w' => e = .returned (.int .i64 (compl N S : Nat)) ∧ w = w' := by
  have hx := compl_val N (by omega) S hS
  have hsh := shl_one (n := (N : Int)) (m := 2 ^ N) (by omega) (by omega) (by rw [Int.toNat_natCast])
  rw [Int.toNat_natCast] at hsh
  generalize compl N S = q at hx ⊢
  have hp32 : 2 ^ N ≤ 32 := Nat.le_trans (Nat.pow_le_pow_right (by decide) h5) (by decide)
  have hp1 : 1 ≤ 2 ^ N := Nat.two_pow_pos N
  generalize 2 ^ N = p at hx hsh hp32 hp1
  have hN : (0 : Int) ≤ (N : Int) := by omega
  clear hS
  go_enter Tryd.func57, Tryd.ntmps57
  go_wp2
  go_ret
  exact ⟨rfl, rfl⟩

theorem gives_left {P : Program} {f : FuncId} {args : Array Value} {w : World} {n : Nat} {x : Int} (h : Calls P f args (w.drewN n) (Gives (w.drewN n) x)) :
    Calls P f args (w.drewN n) fun e w'' => e = .returned (.int .i64 x) ∧ ∃ m, w'' = w.drewN m :=
  h.mono fun _ _ ⟨he, q, hq⟩ => ⟨he, n + q, by rw [← hq]; simp [World.drewN, Nat.add_assoc]⟩

theorem restC (x : Int) (s : Nat) (fb b off m cap : Nat) (w : World) (hs : s < m) (hf : w.cell? ⟨fb, 1, none⟩ = some (.slice (some ⟨b, off, none⟩) m cap)) (hc : w.cell? ⟨b, off + s, none⟩ = some (.int .i64 x)) :
    Calls Tryd.prog 54 #[.int .i64 s, .pointer (some ⟨fb, 0, none⟩)] w (Gives w x) := by
  have hs0 : (0 : Int) ≤ (s : Int) := by omega
  have hsm : (s : Int) < (m : Int) := by omega
  go_enter Tryd.func54, Tryd.ntmps54
  go_wp2
  go_ret
  exact ⟨rfl, 0, rfl⟩

theorem or_num : ∀ S : Nat, S < 32 → ∀ T : Nat, T < 32 → bits .or .i64 (T : Int) (S : Int) = ((S ||| T : Nat) : Int) := by decide +kernel

theorem contC (x y : Int) (p s q : Nat) (fb sb b off m cap : Nat) (w : World) (x1 : -1000 ≤ x) (x2 : x ≤ 1000) (y1 : -1000 ≤ y) (y2 : y ≤ 1000) (hs : s < m) (hq : q < m) (hor : bits .or .i64 (p : Int) (s : Int) = (q : Int))
    (hf : w.cell? ⟨fb, 1, none⟩ = some (.slice (some ⟨b, off, none⟩) m cap)) (hb : w.cell? ⟨sb, 0, none⟩ = some (.int .i64 s)) (hc : w.cell? ⟨b, off + q, none⟩ = some (.int .i64 x)) (hc0 : w.cell? ⟨b, off + s, none⟩ = some (.int .i64 y)) :
    Calls Tryd.prog 58 #[.int .i64 p, .pointer (some ⟨fb, 0, none⟩), .pointer (some ⟨sb, 0, none⟩)] w (Gives w (x - y)) := by
  have hxy : IntKind.i64.wrap (x - y) = x - y := IntWalk.i64_in _ (by omega)
  have hs0 : (0 : Int) ≤ (s : Int) := by omega
  have hsm : (s : Int) < (m : Int) := by omega
  have hq0 : (0 : Int) ≤ (q : Int) := by omega
  have hqm : (q : Int) < (m : Int) := by omega
  go_enter Tryd.func58, Tryd.ntmps58
  go_wp2
  go_quiet (fail)
  go_wp2
  go_ret
  exact ⟨rfl, _, rfl⟩

theorem oppC (x n : Int) (N s q : Nat) (fb b off m cap : Nat) (w : World) (h5 : N ≤ 5) (hs : s < 2 ^ N) (hqq : compl N s = q) (hq : q < m)
    (hf0 : w.cell? ⟨fb, 0, none⟩ = some (.int .i64 N)) (hf : w.cell? ⟨fb, 1, none⟩ = some (.slice (some ⟨b, off, none⟩) m cap)) (hc : w.cell? ⟨b, off + q, none⟩ = some (.int .i64 x)) :
    Calls Tryd.prog 67 #[.int .i64 s, .pointer (some ⟨fb, 0, none⟩)] w (Gives w x) := by
  have HC := Lib.hid (fun W => complI N s W h5 hs)
  rw [hqq] at HC
  have hq0 : (0 : Int) ≤ (q : Int) := by omega
  have hqm : (q : Int) < (m : Int) := by omega
  clear hs hqq h5
  go_enter Tryd.func67, Tryd.ntmps67
  go_wp2
  go_quiet ((go_at_call 57; first | exact quiet_left (HC.out _) | exact quiet_add_left (HC.out _)))
  go_wp2
  go_ret
  exact ⟨rfl, _, rfl⟩

theorem onC_rest (i p m : Nat) (x : Int) (vb pb b cap fb : Nat) (w : World) (hi : i < m)
    (hv : w.cell? ⟨vb, 0, none⟩ = some (.func (.func 54) #[] #[.pointer (some ⟨fb, 0, none⟩)]))
    (hp : w.cell? ⟨pb, 0, none⟩ = some (.slice (some ⟨b, 0, none⟩) m cap)) (hc : w.cell? ⟨b, i, none⟩ = some (.int .i64 p))
    (HC : Hid (∀ k, Calls Tryd.prog 54 #[.int .i64 p, .pointer (some ⟨fb, 0, none⟩)] (w.drewN k) (Gives (w.drewN k) x))) :
    Calls Tryd.prog 85 #[.int .i64 i, .pointer (some ⟨vb, 0, none⟩), .pointer (some ⟨pb, 0, none⟩)] w (RetV w (.int .i64 x)) := by
  have hs0 : (0 : Int) ≤ (i : Int) := by omega
  have hsm : (i : Int) < (m : Int) := by omega
  go_enter Tryd.func85, Tryd.ntmps85
  go_wp2
  go_quiet ((go_at_call 54; exact gives_left (HC.out _)))
  go_wp2
  go_ret
  exact ⟨rfl, below_drewN (Below.refl _ _) _⟩

theorem onC_cont (i p m : Nat) (x : Int) (vb pb b cap fb sb : Nat) (w : World) (hi : i < m)
    (hv : w.cell? ⟨vb, 0, none⟩ = some (.func (.func 58) #[] #[.pointer (some ⟨fb, 0, none⟩), .pointer (some ⟨sb, 0, none⟩)]))
    (hp : w.cell? ⟨pb, 0, none⟩ = some (.slice (some ⟨b, 0, none⟩) m cap)) (hc : w.cell? ⟨b, i, none⟩ = some (.int .i64 p))
    (HC : Hid (∀ k, Calls Tryd.prog 58 #[.int .i64 p, .pointer (some ⟨fb, 0, none⟩), .pointer (some ⟨sb, 0, none⟩)] (w.drewN k) (Gives (w.drewN k) x))) :
    Calls Tryd.prog 85 #[.int .i64 i, .pointer (some ⟨vb, 0, none⟩), .pointer (some ⟨pb, 0, none⟩)] w (RetV w (.int .i64 x)) := by
  have hs0 : (0 : Int) ≤ (i : Int) := by omega
  have hsm : (i : Int) < (m : Int) := by omega
  go_enter Tryd.func85, Tryd.ntmps85
  go_wp2
  go_quiet ((go_at_call 58; exact gives_left (HC.out _)))
  go_wp2
  go_ret
  exact ⟨rfl, below_drewN (Below.refl _ _) _⟩

set_option maxRecDepth 100000 in
set_option maxHeartbeats 4000000 in
theorem fonI_rest (S fb : Nat) (hS : S < 32) (f : Nat → Int) (w : World)
    (hf : Hid (∀ i, i < 2 ^ ones S → ∀ W, Below w.heap.size w W → Calls Tryd.prog 54 #[.int .i64 (partN S i : Nat), .pointer (some ⟨fb, 0, none⟩)] W (Gives W (f i)))) :
    Calls Tryd.prog 53 #[.int .i64 S, .func (.func 54) #[] #[.pointer (some ⟨fb, 0, none⟩)]] w (RetFB w (made (ones S : Nat) (tab (2 ^ ones S) f)).1 (made (ones S : Nat) (tab (2 ^ ones S) f)).2.1 (made (ones S : Nat) (tab (2 ^ ones S) f)).2.2) := by
  have HW := Lib.hid (St.start w)
  have ho5 := ones_le5 5 (Nat.le_refl _) S (by omega)
  obtain ⟨rn, rx, rb, hr⟩ : ∃ rn rx rb, made (ones S : Nat) (tab (2 ^ ones S) f) = (rn, rx, rb) := ⟨_, _, _, rfl⟩
  rw [hr]
  have HCO := Lib.hid (fun sb W => collect_ints sb S hS W)
  have HSZ := Lib.hid (fun W => sizeI_any S W (by omega))
  obtain ⟨o, ho⟩ : ∃ o, ones S = o := ⟨_, rfl⟩
  rw [ho] at hr hf HCO HSZ ho5
  have HM := Lib.hid (fun p1 p2 W hh => make_on o (2 ^ o) f p1 p2 W (by omega) (by omega) (by rw [Int.toNat_natCast]) rn rx rb (Lib.hid hr) hh)
  obtain ⟨m, hm⟩ : ∃ m, 2 ^ o = m := ⟨_, rfl⟩
  rw [hm] at hf HCO HM
  generalize partN S = g at *
  have hmf : ∀ (fn : Fn) (first cap : Array Value) (w : World), (Instr.makeFunc fn first cap).run Tryd.prog w = .ok (.func fn first cap) w := fun _ _ _ _ => rfl
  clear hr ho hm
  go_enter Tryd.func53, Tryd.ntmps53
  go_wp2_with fail
  refine (parts_any _ _).mono ?_
  rintro e w1 ⟨rfl, rfl⟩
  go_wp2_with fail
  refine St.use (w0 := w) (by exact ((HW.out.alloc _ _).alloc _ _).alloc _ _) ?_
  intro hS1
  simp only [World.size_alloc] at hS1 ⊢
  refine (HCO.out _ _ (hS1.lt (i := 0) rfl).2 ((hS1.box (i := 0) rfl).1 0 _ rfl)).mono ?_
  rintro e w2 ⟨b, cap, rfl, hbl, hcells, hb⟩
  have HS2 := Lib.hid (hS1.below hb)
  have HCE := Lib.hid hcells
  clear hS1 hb hcells
  go_wp2_with fail
  refine (HSZ.out _).mono ?_
  rintro e w3 ⟨rfl, rfl⟩
  go_wp2_with fail
  refine St.use (w0 := w) (by exact HS2.out.alloc [.slice (some ⟨b, 0, none⟩) m cap] 72) ?_
  intro hS3
  have HS3 := Lib.hid hS3
  clear hS3
  refine (HM.out _ _ _ ?_).mono ?_
  · refine Lib.hid ?_
    intro i hi W hW
    have hS := HS3.out.below hW
    have hW2 : Below w2.heap.size w2 W := ((Below.refl _ w2).alloc (Nat.le_refl _) _).trans (hW.mono (by simp))
    exact onC_rest i (g i) m (f i) _ _ b cap fb W hi ((hS.box (i := 3) rfl).1 0 _ rfl) ((hS.box (i := 0) rfl).1 0 _ rfl) ((hW2.cell (p := ⟨b, i, none⟩) hbl).trans (HCE.out i hi)) (Lib.hid fun k => hf.out i hi (W.drewN k) (below_drewN hS.base k))
  rintro e w3 ⟨B, d, rfl, ho, hb⟩
  have hS4 := HS3.out.newI hb ho
  obtain ⟨r1, rf⟩ := hS4.box (i := 3) rfl
  have s10 := r1 0 _ rfl
  have s11 := r1 1 _ rfl
  have sf0 := rf 0
  have sf1 := rf 1
  have HS4 := Lib.hid hS4
  clear r1 rf hb ho hS4
  go_wp2
  have hZ := (HS4.out.store (i := 3) rfl 0 (.int .i64 rn)).store (i := 3) rfl 1 (.slice B rx.length d)
  exact bodyPost_ret (v := .tuple #[.agg #[.int .i64 rn, .slice B rx.length d], .bool rb]) (by simp [results, Tryd.results53, go_sem, s10, s11, sf0, sf1]) rfl ⟨B, d, rfl, hZ.ownI (i := 0) rfl, hZ.base⟩

set_option maxRecDepth 100000 in
set_option maxHeartbeats 4000000 in
theorem fonI_cont (S fb sb : Nat) (hS : S < 32) (f : Nat → Int) (w : World)
    (hf : Hid (∀ i, i < 2 ^ ones S → ∀ W, Below w.heap.size w W → Calls Tryd.prog 58 #[.int .i64 (partN S i : Nat), .pointer (some ⟨fb, 0, none⟩), .pointer (some ⟨sb, 0, none⟩)] W (Gives W (f i)))) :
    Calls Tryd.prog 53 #[.int .i64 S, .func (.func 58) #[] #[.pointer (some ⟨fb, 0, none⟩), .pointer (some ⟨sb, 0, none⟩)]] w (RetFB w (made (ones S : Nat) (tab (2 ^ ones S) f)).1 (made (ones S : Nat) (tab (2 ^ ones S) f)).2.1 (made (ones S : Nat) (tab (2 ^ ones S) f)).2.2) := by
  have HW := Lib.hid (St.start w)
  have ho5 := ones_le5 5 (Nat.le_refl _) S (by omega)
  obtain ⟨rn, rx, rb, hr⟩ : ∃ rn rx rb, made (ones S : Nat) (tab (2 ^ ones S) f) = (rn, rx, rb) := ⟨_, _, _, rfl⟩
  rw [hr]
  have HCO := Lib.hid (fun sb W => collect_ints sb S hS W)
  have HSZ := Lib.hid (fun W => sizeI_any S W (by omega))
  obtain ⟨o, ho⟩ : ∃ o, ones S = o := ⟨_, rfl⟩
  rw [ho] at hr hf HCO HSZ ho5
  have HM := Lib.hid (fun p1 p2 W hh => make_on o (2 ^ o) f p1 p2 W (by omega) (by omega) (by rw [Int.toNat_natCast]) rn rx rb (Lib.hid hr) hh)
  obtain ⟨m, hm⟩ : ∃ m, 2 ^ o = m := ⟨_, rfl⟩
  rw [hm] at hf HCO HM
  generalize partN S = g at *
  have hmf : ∀ (fn : Fn) (first cap : Array Value) (w : World), (Instr.makeFunc fn first cap).run Tryd.prog w = .ok (.func fn first cap) w := fun _ _ _ _ => rfl
  clear hr ho hm
  go_enter Tryd.func53, Tryd.ntmps53
  go_wp2_with fail
  refine (parts_any _ _).mono ?_
  rintro e w1 ⟨rfl, rfl⟩
  go_wp2_with fail
  refine St.use (w0 := w) (by exact ((HW.out.alloc _ _).alloc _ _).alloc _ _) ?_
  intro hS1
  simp only [World.size_alloc] at hS1 ⊢
  refine (HCO.out _ _ (hS1.lt (i := 0) rfl).2 ((hS1.box (i := 0) rfl).1 0 _ rfl)).mono ?_
  rintro e w2 ⟨b, cap, rfl, hbl, hcells, hb⟩
  have HS2 := Lib.hid (hS1.below hb)
  have HCE := Lib.hid hcells
  clear hS1 hb hcells
  go_wp2_with fail
  refine (HSZ.out _).mono ?_
  rintro e w3 ⟨rfl, rfl⟩
  go_wp2_with fail
  refine St.use (w0 := w) (by exact HS2.out.alloc [.slice (some ⟨b, 0, none⟩) m cap] 72) ?_
  intro hS3
  have HS3 := Lib.hid hS3
  clear hS3
  refine (HM.out _ _ _ ?_).mono ?_
  · refine Lib.hid ?_
    intro i hi W hW
    have hS := HS3.out.below hW
    have hW2 : Below w2.heap.size w2 W := ((Below.refl _ w2).alloc (Nat.le_refl _) _).trans (hW.mono (by simp))
    exact onC_cont i (g i) m (f i) _ _ b cap fb sb W hi ((hS.box (i := 3) rfl).1 0 _ rfl) ((hS.box (i := 0) rfl).1 0 _ rfl) ((hW2.cell (p := ⟨b, i, none⟩) hbl).trans (HCE.out i hi)) (Lib.hid fun k => hf.out i hi (W.drewN k) (below_drewN hS.base k))
  rintro e w3 ⟨B, d, rfl, ho, hb⟩
  have hS4 := HS3.out.newI hb ho
  obtain ⟨r1, rf⟩ := hS4.box (i := 3) rfl
  have s10 := r1 0 _ rfl
  have s11 := r1 1 _ rfl
  have sf0 := rf 0
  have sf1 := rf 1
  have HS4 := Lib.hid hS4
  clear r1 rf hb ho hS4
  go_wp2
  have hZ := (HS4.out.store (i := 3) rfl 0 (.int .i64 rn)).store (i := 3) rfl 1 (.slice B rx.length d)
  exact bodyPost_ret (v := .tuple #[.agg #[.int .i64 rn, .slice B rx.length d], .bool rb]) (by simp [results, Tryd.results53, go_sem, s10, s11, sf0, sf1]) rfl ⟨B, d, rfl, hZ.ownI (i := 0) rfl, hZ.base⟩

end Go.Proofs.YtidhggcekimigaaDoor.C
