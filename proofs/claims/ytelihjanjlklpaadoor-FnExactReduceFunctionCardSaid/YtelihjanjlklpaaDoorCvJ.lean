/-
  The contracts of impl.convolutionOf, ConvolveFunctions, SplitOf, IncreasingHull and TruncateFunction.
-/
import Derived.Test.YtelihjanjlklpaaDoorCvI
import Derived.Laws.EntriesVeiled
namespace Go.Proofs.YtelihjanjlklpaaDoor.C
open Go.RowKit K M
set_option linter.unusedVariables false
set_option linter.unusedSimpArgs false

def RetNo (w : World) (e : Ending) (w' : World) : Prop := e = .returned (.tuple #[.agg #[.nilFunc, .nilFunc], .bool false]) ∧ Below w.heap.size w w'
def RetPair (w : World) (xs ys : List Int) (e : Ending) (w' : World) : Prop := ∃ fb gb, e = .returned (.tuple #[.agg #[f1 fb, f2 gb], .bool true]) ∧ Pair w' xs.length xs ys fb gb ∧ Below w.heap.size w w'


section

variable (n : Int) (A : Option Addr) (xs : List Int) (cap : Nat) (m : Int) (D : Option Addr) (ys : List Int) (dap : Nat) (w : World) (h : Hid (Ints w w.heap.size A xs)) (g : Hid (Ints w w.heap.size D ys))
include h g

omit g in
set_option maxRecDepth 100000 in
set_option maxHeartbeats 1600000 in
theorem cvOf_bad1 (hf : isFn n xs = false) :
    Calls Tryd.prog 37 #[.agg #[.int .i64 n, .slice A xs.length cap], .agg #[.int .i64 m, .slice D ys.length dap]] w (RetNo w) := by
  have HF := Lib.hid hf
  clear hf
  have HW := Lib.hid (St.start w)
  have hmf : ∀ (fn : Fn) (first cap : Array Value) (w : World), (Instr.makeFunc fn first cap).run Tryd.prog w = .ok (.func fn first cap) w := fun _ _ _ _ => rfl
  go_enter Tryd.func37, Tryd.ntmps37
  go_wp2_with fail
  refine St.use (w0 := w) (by exact ((HW.out.alloc _ _).alloc _ _).alloc _ _) ?_
  intro hS
  simp only [World.size_alloc] at hS
  refine (isFnI_no n A xs cap _ (Lib.hid ((h.out.below hS.base).mono hS.size)) HF.out).mono ?_
  rintro e w1 ⟨rfl, hb⟩
  have hS1 := hS.below hb
  obtain ⟨r1, rf⟩ := hS1.box (i := 0) rfl
  have r10 := r1 0 _ rfl
  have r11 := r1 1 _ rfl
  have rf0 := rf 0
  have rf1 := rf 1
  clear r1 rf
  clear hS hb
  have HS1 := Lib.hid hS1
  clear hS1
  go_wp2
  have hZ := (HS1.out.store (i := 0) rfl 0 .nilFunc).store (i := 0) rfl 1 .nilFunc
  exact bodyPost_ret (v := .tuple #[.agg #[.nilFunc, .nilFunc], .bool false]) (by simp [results, Tryd.results37, go_sem, r10, r11, rf0, rf1]) rfl ⟨rfl, hZ.base⟩

set_option maxRecDepth 100000 in
set_option maxHeartbeats 1600000 in
theorem cvOf_bad2 (hf : isFn n xs = true) (hg : isFn m ys = false) :
    Calls Tryd.prog 37 #[.agg #[.int .i64 n, .slice A xs.length cap], .agg #[.int .i64 m, .slice D ys.length dap]] w (RetNo w) := by
  have HF := Lib.hid hf
  have HG := Lib.hid hg
  clear hf hg
  have HW := Lib.hid (St.start w)
  have hmf : ∀ (fn : Fn) (first cap : Array Value) (w : World), (Instr.makeFunc fn first cap).run Tryd.prog w = .ok (.func fn first cap) w := fun _ _ _ _ => rfl
  go_enter Tryd.func37, Tryd.ntmps37
  go_wp2_with fail
  refine St.use (w0 := w) (by exact ((HW.out.alloc _ _).alloc _ _).alloc _ _) ?_
  intro hS
  simp only [World.size_alloc] at hS
  refine (isFnI_yes n A xs cap _ (Lib.hid ((h.out.below hS.base).mono hS.size)) HF.out).mono ?_
  rintro e w1 ⟨rfl, hb⟩
  have hS1 := hS.below hb
  obtain ⟨b, -⟩ := hS1.box (i := 2) rfl
  have b0 := b 0 _ rfl
  have b1 := b 1 _ rfl
  clear b
  obtain ⟨c, -⟩ := hS1.box (i := 1) rfl
  have c0 := c 0 _ rfl
  have c1 := c 1 _ rfl
  clear c
  clear hS hb
  have HS1 := Lib.hid hS1
  clear hS1
  go_wp2_with fail
  have hS := HS1.out
  refine (isFnI_no m D ys dap _ (Lib.hid ((g.out.below hS.base).mono hS.size)) HG.out).mono ?_
  rintro e w2 ⟨rfl, hb⟩
  have hS1 := hS.below hb
  clear b0 b1 c0 c1
  obtain ⟨r1, rf⟩ := hS1.box (i := 0) rfl
  have r10 := r1 0 _ rfl
  have r11 := r1 1 _ rfl
  have rf0 := rf 0
  have rf1 := rf 1
  clear r1 rf
  clear hS hb
  have HS2 := Lib.hid hS1
  clear hS1
  go_wp2
  have hZ := (HS2.out.store (i := 0) rfl 0 .nilFunc).store (i := 0) rfl 1 .nilFunc
  exact bodyPost_ret (v := .tuple #[.agg #[.nilFunc, .nilFunc], .bool false]) (by simp [results, Tryd.results37, go_sem, r10, r11, rf0, rf1]) rfl ⟨rfl, hZ.base⟩

set_option maxRecDepth 100000 in
set_option maxHeartbeats 1600000 in
theorem cvOf_ne (hf : isFn n xs = true) (hg : isFn m ys = true) (hn : n ≠ m) :
    Calls Tryd.prog 37 #[.agg #[.int .i64 n, .slice A xs.length cap], .agg #[.int .i64 m, .slice D ys.length dap]] w (RetNo w) := by
  have hb1 : (n == m) = false := beq_eq_false_iff_ne.2 hn
  have hb2 : (n != m) = true := bne_iff_ne.2 hn
  have HF := Lib.hid hf
  have HG := Lib.hid hg
  clear hf hg hn
  have HW := Lib.hid (St.start w)
  have hmf : ∀ (fn : Fn) (first cap : Array Value) (w : World), (Instr.makeFunc fn first cap).run Tryd.prog w = .ok (.func fn first cap) w := fun _ _ _ _ => rfl
  go_enter Tryd.func37, Tryd.ntmps37
  go_wp2_with fail
  refine St.use (w0 := w) (by exact ((HW.out.alloc _ _).alloc _ _).alloc _ _) ?_
  intro hS
  simp only [World.size_alloc] at hS
  refine (isFnI_yes n A xs cap _ (Lib.hid ((h.out.below hS.base).mono hS.size)) HF.out).mono ?_
  rintro e w1 ⟨rfl, hb⟩
  have hS1 := hS.below hb
  obtain ⟨b, -⟩ := hS1.box (i := 2) rfl
  have b0 := b 0 _ rfl
  have b1 := b 1 _ rfl
  clear b
  obtain ⟨c, -⟩ := hS1.box (i := 1) rfl
  have c0 := c 0 _ rfl
  have c1 := c 1 _ rfl
  clear c
  clear hS hb
  have HS1 := Lib.hid hS1
  clear hS1
  go_wp2_with fail
  have hS := HS1.out
  refine (isFnI_yes m D ys dap _ (Lib.hid ((g.out.below hS.base).mono hS.size)) HG.out).mono ?_
  rintro e w2 ⟨rfl, hb⟩
  have hS1 := hS.below hb
  clear b0 b1 c0 c1
  obtain ⟨b, -⟩ := hS1.box (i := 2) rfl
  have b0 := b 0 _ rfl
  have b1 := b 1 _ rfl
  clear b
  obtain ⟨c, -⟩ := hS1.box (i := 1) rfl
  have c0 := c 0 _ rfl
  have c1 := c 1 _ rfl
  clear c
  obtain ⟨r1, rf⟩ := hS1.box (i := 0) rfl
  have r10 := r1 0 _ rfl
  have r11 := r1 1 _ rfl
  have rf0 := rf 0
  have rf1 := rf 1
  clear r1 rf
  clear hS hb
  have HS2 := Lib.hid hS1
  clear hS1
  go_wp2
  have hZ := (HS2.out.store (i := 0) rfl 0 .nilFunc).store (i := 0) rfl 1 .nilFunc
  exact bodyPost_ret (v := .tuple #[.agg #[.nilFunc, .nilFunc], .bool false]) (by simp [results, Tryd.results37, go_sem, r10, r11, rf0, rf1]) rfl ⟨rfl, hZ.base⟩

theorem cvOf_no (hf : fits n xs m ys = false) :
    Calls Tryd.prog 37 #[.agg #[.int .i64 n, .slice A xs.length cap], .agg #[.int .i64 m, .slice D ys.length dap]] w (RetNo w) := by
  unfold fits at hf
  cases h1 : isFn n xs
  · exact cvOf_bad1 n A xs cap m D ys dap w h h1
  · cases h2 : isFn m ys
    · exact cvOf_bad2 n A xs cap m D ys dap w h g h1 h2
    · exact cvOf_ne n A xs cap m D ys dap w h g h1 h2 (by rw [h1, h2] at hf; simpa using hf)


end


set_option maxRecDepth 100000 in
set_option maxHeartbeats 1600000 in
theorem cvOf_yes (n : Int) (A : Option Addr) (xs : List Int) (cap : Nat) (D : Option Addr) (ys : List Int) (dap : Nat) (w : World) (h : Hid (Ints w w.heap.size A xs)) (g : Hid (Ints w w.heap.size D ys)) (hf : isFn n xs = true) (hg : isFn n ys = true) :
    Calls Tryd.prog 37 #[.agg #[.int .i64 n, .slice A xs.length cap], .agg #[.int .i64 n, .slice D ys.length dap]] w (RetPair w xs ys) := by
  obtain ⟨h0, h5, hl, hv⟩ := isFn_yes hf
  have hm := (isFn_len hf).2
  have HF := Lib.hid hf
  have HV := Lib.hid hv
  obtain ⟨_, _, hyl, hv2⟩ := isFn_yes hg
  rw [← hl] at hyl
  have HG := Lib.hid hg
  have HY := Lib.hid hyl
  have HV2 := Lib.hid hv2
  clear hf hv hl hg hyl hv2
  have HW := Lib.hid (St.start w)
  have hmf : ∀ (fn : Fn) (first cap : Array Value) (w : World), (Instr.makeFunc fn first cap).run Tryd.prog w = .ok (.func fn first cap) w := fun _ _ _ _ => rfl
  go_enter Tryd.func37, Tryd.ntmps37
  go_wp2_with fail
  refine St.use (w0 := w) (by exact ((HW.out.alloc _ _).alloc _ _).alloc _ _) ?_
  intro hS
  simp only [World.size_alloc] at hS
  refine (isFnI_yes n A xs cap _ (Lib.hid ((h.out.below hS.base).mono hS.size)) HF.out).mono ?_
  rintro e w1 ⟨rfl, hb⟩
  have hS1 := hS.below hb
  obtain ⟨b, -⟩ := hS1.box (i := 2) rfl
  have b0 := b 0 _ rfl
  have b1 := b 1 _ rfl
  clear b
  obtain ⟨c, -⟩ := hS1.box (i := 1) rfl
  have c0 := c 0 _ rfl
  have c1 := c 1 _ rfl
  clear c
  clear hS hb
  have HS1 := Lib.hid hS1
  clear hS1
  go_wp2_with fail
  have hS := HS1.out
  refine (isFnI_yes n D ys dap _ (Lib.hid ((g.out.below hS.base).mono hS.size)) HG.out).mono ?_
  rintro e w2 ⟨rfl, hb⟩
  have hS1 := hS.below hb
  clear b0 b1 c0 c1
  obtain ⟨b, -⟩ := hS1.box (i := 2) rfl
  have b0 := b 0 _ rfl
  have b1 := b 1 _ rfl
  clear b
  obtain ⟨c, -⟩ := hS1.box (i := 1) rfl
  have c0 := c 0 _ rfl
  have c1 := c 1 _ rfl
  clear c
  obtain ⟨r1, rf⟩ := hS1.box (i := 0) rfl
  have r10 := r1 0 _ rfl
  have r11 := r1 1 _ rfl
  have rf0 := rf 0
  have rf1 := rf 1
  clear r1 rf
  clear hS hb
  have HS2 := Lib.hid hS1
  clear hS1
  go_wp2
  have hZ := (HS2.out.store (i := 0) rfl 0 (f1 w.heap.size)).store (i := 0) rfl 1 (f2 (w.heap.size + 1))
  refine bodyPost_ret (v := .tuple #[.agg #[f1 w.heap.size, f2 (w.heap.size + 1)], .bool true]) (by simp [results, Tryd.results37, go_sem, r10, r11, rf0, rf1]) rfl ⟨_, _, rfl, ⟨fun x hx W hW => ?_, fun x hx W hW => ?_, hm, HV.out, fun x hx => HV2.out x (by rw [HY.out]; exact hx)⟩, hZ.base⟩
  · obtain ⟨b, off, rfl, hbl, hc⟩ := h.out.at_ (k := x) hx
    have hW1 := hZ.below hW
    exact conv1C _ x _ b off xs.length cap W hx ((hW1.box (i := 2) rfl).1 1 _ rfl) ((hW1.base.cell (p := ⟨b, off + x, none⟩) hbl).trans hc)
  · obtain ⟨b, off, rfl, hbl, hc⟩ := g.out.at_ (k := x) (by rw [HY.out]; exact hx)
    have hW1 := hZ.below hW
    exact conv2C _ x _ b off ys.length dap W (by rw [HY.out]; exact hx) ((hW1.box (i := 1) rfl).1 1 _ rfl) ((hW1.base.cell (p := ⟨b, off + x, none⟩) hbl).trans hc)

set_option maxRecDepth 100000 in
set_option maxHeartbeats 1600000 in
theorem convI_no (n : Int) (A : Option Addr) (xs : List Int) (cap : Nat) (m : Int) (D : Option Addr) (ys : List Int) (dap : Nat) (w : World) (h : Hid (Ints w w.heap.size A xs)) (g : Hid (Ints w w.heap.size D ys)) (hf : fits n xs m ys = false) :
    Calls Tryd.prog 7 #[.agg #[.int .i64 n, .slice A xs.length cap], .agg #[.int .i64 m, .slice D ys.length dap]] w (RetFB w 0 [] false) := by
  have HF := Lib.hid hf
  clear hf
  have HW := Lib.hid (St.start w)
  have hmf : ∀ (fn : Fn) (first cap : Array Value) (w : World), (Instr.makeFunc fn first cap).run Tryd.prog w = .ok (.func fn first cap) w := fun _ _ _ _ => rfl
  go_enter Tryd.func7, Tryd.ntmps7
  go_wp2_with fail
  refine St.use (w0 := w) (by exact ((HW.out.alloc _ _).alloc _ _).alloc _ _) ?_
  intro hS
  simp only [World.size_alloc] at hS
  refine (cvOf_no n A xs cap m D ys dap _ (Lib.hid ((h.out.below hS.base).mono hS.size)) (Lib.hid ((g.out.below hS.base).mono hS.size)) HF.out).mono ?_
  rintro e w1 ⟨rfl, hb⟩
  have hS1 := hS.below hb
  obtain ⟨r1, rf⟩ := hS1.box (i := 0) rfl
  have r10 := r1 0 _ rfl
  have r11 := r1 1 _ rfl
  have rf0 := rf 0
  have rf1 := rf 1
  clear r1 rf
  have hlt := (hS1.lt (i := 0) rfl).2
  clear hS hb
  have HS1 := Lib.hid hS1
  clear hS1
  go_wp2
  have hZ := ((HS1.out.store (i := 0) rfl 0 (.int .i64 0)).store (i := 0) rfl 1 (.slice none 0 0)).alloc [.nilFunc, .nilFunc] 55
  exact bodyPost_ret (v := .tuple #[.agg #[.int .i64 0, .slice none 0 0], .bool false]) (by simp [results, Tryd.results7, go_sem, r10, r11, rf0, rf1, hlt]) rfl ⟨none, 0, rfl, K.Own.nil _ _, hZ.base⟩

set_option maxRecDepth 100000 in
set_option maxHeartbeats 1600000 in
theorem convI_yes (n : Int) (A : Option Addr) (xs : List Int) (cap : Nat) (D : Option Addr) (ys : List Int) (dap : Nat) (w : World) (h : Hid (Ints w w.heap.size A xs)) (g : Hid (Ints w w.heap.size D ys)) (hf : isFn n xs = true) (hg : isFn n ys = true) :
    Calls Tryd.prog 7 #[.agg #[.int .i64 n, .slice A xs.length cap], .agg #[.int .i64 n, .slice D ys.length dap]] w (RetFB w (made n (tab xs.length (convV xs ys))).1 (made n (tab xs.length (convV xs ys))).2.1 (made n (tab xs.length (convV xs ys))).2.2) := by
  have HF := Lib.hid hf
  have HG := Lib.hid hg
  obtain ⟨h0, h5, hl, hv⟩ := isFn_yes hf
  have HL := Lib.hid hl
  obtain ⟨rn, rx, rb, hr⟩ : ∃ rn rx rb, made n (tab xs.length (convV xs ys)) = (rn, rx, rb) := ⟨_, _, _, rfl⟩
  rw [hr]
  have HR := Lib.hid hr
  clear hf hg hl hv hr
  have HW := Lib.hid (St.start w)
  have hmf : ∀ (fn : Fn) (first cap : Array Value) (w : World), (Instr.makeFunc fn first cap).run Tryd.prog w = .ok (.func fn first cap) w := fun _ _ _ _ => rfl
  go_enter Tryd.func7, Tryd.ntmps7
  go_wp2_with fail
  refine St.use (w0 := w) (by exact ((HW.out.alloc _ _).alloc _ _).alloc _ _) ?_
  intro hS
  simp only [World.size_alloc] at hS
  refine (cvOf_yes n A xs cap D ys dap _ (Lib.hid ((h.out.below hS.base).mono hS.size)) (Lib.hid ((g.out.below hS.base).mono hS.size)) HF.out HG.out).mono ?_
  rintro e w1 ⟨fb, gb, rfl, hp, hb⟩
  have hS1 := hS.below hb
  obtain ⟨b, -⟩ := hS1.box (i := 2) rfl
  have b0 := b 0 _ rfl
  have b1 := b 1 _ rfl
  clear b
  have bl := (hS1.lt (i := 2) rfl).2
  have HP := Lib.hid hp
  clear hp
  clear hS hb
  have HS1 := Lib.hid hS1
  clear hS1
  go_wp2_with fail
  refine St.use (w0 := w) (by exact HS1.out.alloc [f1 fb, f2 gb] 55) ?_
  intro hS3
  have HS3 := Lib.hid hS3
  clear hS3
  refine (make_conv n xs.length (convV xs ys) _ _ h0 h5 HL.out rn rx rb HR ?_).mono ?_
  · refine Lib.hid ?_
    intro j hj W hW
    have hS := HS3.out.below hW
    exact convF j xs.length xs ys fb gb _ W hj (Lib.hid (HP.out.below (((Below.refl _ w1).alloc (Nat.le_refl _) _).trans (hW.mono (by simp))))) ((hS.box (i := 0) rfl).1 0 _ rfl) ((hS.box (i := 0) rfl).1 1 _ rfl)
  rintro e w3 ⟨B, d, rfl, ho, hb⟩
  have hS4 := HS3.out.newI hb ho
  obtain ⟨r1, rf⟩ := hS4.box (i := 2) rfl
  have s10 := r1 0 _ rfl
  have s11 := r1 1 _ rfl
  have sf0 := rf 0
  have sf1 := rf 1
  have HS4 := Lib.hid hS4
  clear r1 rf hb ho hS4
  go_wp2
  have hZ := (HS4.out.store (i := 2) rfl 0 (.int .i64 rn)).store (i := 2) rfl 1 (.slice B rx.length d)
  exact bodyPost_ret (v := .tuple #[.agg #[.int .i64 rn, .slice B rx.length d], .bool rb]) (by simp [results, Tryd.results7, go_sem, s10, s11, sf0, sf1]) rfl ⟨B, d, rfl, hZ.ownI (i := 0) rfl, hZ.base⟩

theorem convI_any (n : Int) (A : Option Addr) (xs : List Int) (cap : Nat) (m : Int) (D : Option Addr) (ys : List Int) (dap : Nat) (w : World) (h : Hid (Ints w w.heap.size A xs)) (g : Hid (Ints w w.heap.size D ys)) :
    Calls Tryd.prog 7 #[.agg #[.int .i64 n, .slice A xs.length cap], .agg #[.int .i64 m, .slice D ys.length dap]] w (RetFB w (convFn n xs m ys).1 (convFn n xs m ys).2.1 (convFn n xs m ys).2.2) := by
  cases hf : fits n xs m ys
  · unfold convFn
    rw [if_neg (by rw [hf]; simp)]
    exact convI_no n A xs cap m D ys dap w h g hf
  · unfold convFn
    rw [if_pos hf]
    obtain ⟨h1, h2, rfl⟩ := fits_yes hf
    exact convI_yes n A xs cap D ys dap w h g h1 h2

-- splits
set_option maxRecDepth 100000 in
set_option maxHeartbeats 1600000 in
theorem splitOfI_no (n : Int) (A : Option Addr) (xs : List Int) (cap : Nat) (m : Int) (D : Option Addr) (ys : List Int) (dap : Nat) (s : Int) (w : World) (h : Hid (Ints w w.heap.size A xs)) (g : Hid (Ints w w.heap.size D ys)) (hf : fits n xs m ys = false) :
    Calls Tryd.prog 10 #[.agg #[.int .i64 n, .slice A xs.length cap], .agg #[.int .i64 m, .slice D ys.length dap], .int .i64 s] w (RetV w (.tuple #[.int .i64 0, .bool false])) := by
  have HF := Lib.hid hf
  clear hf
  have HW := Lib.hid (St.start w)
  go_enter Tryd.func10, Tryd.ntmps10
  go_wp2_with fail
  refine St.use (w0 := w) (by exact (HW.out.alloc _ _).alloc _ _) ?_
  intro hS
  simp only [World.size_alloc] at hS
  refine (cvOf_no n A xs cap m D ys dap _ (Lib.hid ((h.out.below hS.base).mono hS.size)) (Lib.hid ((g.out.below hS.base).mono hS.size)) HF.out).mono ?_
  rintro e w1 ⟨rfl, hb⟩
  have HS1 := Lib.hid (hS.below hb)
  clear hS hb
  go_wp2
  have hZ := HS1.out.alloc [.nilFunc, .nilFunc] 55
  exact bodyPost_ret (v := .tuple #[.int .i64 0, .bool false]) (by simp [results, Tryd.results10, go_sem]) rfl ⟨rfl, hZ.base⟩

set_option maxRecDepth 100000 in
set_option maxHeartbeats 1600000 in
theorem splitOfI_set (n : Int) (A : Option Addr) (xs : List Int) (cap : Nat) (D : Option Addr) (ys : List Int) (dap : Nat) (s : Int) (w : World) (h : Hid (Ints w w.heap.size A xs)) (g : Hid (Ints w w.heap.size D ys)) (hf : isFn n xs = true) (hg : isFn n ys = true) (hs : isSet n s = false) :
    Calls Tryd.prog 10 #[.agg #[.int .i64 n, .slice A xs.length cap], .agg #[.int .i64 n, .slice D ys.length dap], .int .i64 s] w (RetV w (.tuple #[.int .i64 0, .bool false])) := by
  have HF := Lib.hid hf
  have HG := Lib.hid hg
  have HN := Lib.hid hs
  obtain ⟨h0, h5, -, -⟩ := isFn_yes hf
  clear hf hg hs
  have HW := Lib.hid (St.start w)
  go_enter Tryd.func10, Tryd.ntmps10
  go_wp2_with fail
  refine St.use (w0 := w) (by exact (HW.out.alloc _ _).alloc _ _) ?_
  intro hS
  simp only [World.size_alloc] at hS
  refine (cvOf_yes n A xs cap D ys dap _ (Lib.hid ((h.out.below hS.base).mono hS.size)) (Lib.hid ((g.out.below hS.base).mono hS.size)) HF.out HG.out).mono ?_
  rintro e w1 ⟨fb, gb, rfl, hp, hb⟩
  have hS1 := hS.below hb
  obtain ⟨b, -⟩ := hS1.box (i := 1) rfl
  have b0 := b 0 _ rfl
  have bl := (hS1.lt (i := 1) rfl).2
  have HS1 := Lib.hid hS1
  clear hS hb hp b hS1
  go_wp2_with (go_at_call 45; refine (isOf_no _ n _ h0 (by omega) HN.out).mono ?_; rintro e' w' ⟨rfl, rfl⟩)
  have hZ := HS1.out.alloc [f1 fb, f2 gb] 55
  exact bodyPost_ret (v := .tuple #[.int .i64 0, .bool false]) (by simp [results, Tryd.results10, go_sem]) rfl ⟨rfl, hZ.base⟩

set_option maxRecDepth 100000 in
set_option maxHeartbeats 1600000 in
theorem splitOfI_yes (n : Int) (A : Option Addr) (xs : List Int) (cap : Nat) (D : Option Addr) (ys : List Int) (dap : Nat) (s : Int) (w : World) (h : Hid (Ints w w.heap.size A xs)) (g : Hid (Ints w w.heap.size D ys)) (hf : isFn n xs = true) (hg : isFn n ys = true) (hs : isSet n s = true) :
    Calls Tryd.prog 10 #[.agg #[.int .i64 n, .slice A xs.length cap], .agg #[.int .i64 n, .slice D ys.length dap], .int .i64 s] w (RetV w (.tuple #[.int .i64 (split xs ys s.toNat : Nat), .bool true])) := by
  have HF := Lib.hid hf
  have HG := Lib.hid hg
  have HN := Lib.hid hs
  obtain ⟨h0, h5, hl, -⟩ := isFn_yes hf
  obtain ⟨s0, s1⟩ := isSet_yes hs
  obtain ⟨S, rfl⟩ := Int.eq_ofNat_of_zero_le s0
  rw [Int.toNat_natCast]
  have hS : S < xs.length := by omega
  have HI := Lib.hid (fun fb gb W hp => splitI S xs.length xs ys fb gb W hS hp)
  generalize split xs ys S = r at HI ⊢
  generalize convV xs ys S = u at HI
  clear hf hg hs hl s0 s1 hS
  have HW := Lib.hid (St.start w)
  go_enter Tryd.func10, Tryd.ntmps10
  go_wp2_with fail
  refine St.use (w0 := w) (by exact (HW.out.alloc _ _).alloc _ _) ?_
  intro hS
  simp only [World.size_alloc] at hS
  refine (cvOf_yes n A xs cap D ys dap _ (Lib.hid ((h.out.below hS.base).mono hS.size)) (Lib.hid ((g.out.below hS.base).mono hS.size)) HF.out HG.out).mono ?_
  rintro e w1 ⟨fb, gb, rfl, hp, hb⟩
  have hS1 := hS.below hb
  obtain ⟨b, -⟩ := hS1.box (i := 1) rfl
  have b0 := b 0 _ rfl
  have bl := (hS1.lt (i := 1) rfl).2
  have HP := Lib.hid hp
  have HS1 := Lib.hid hS1
  clear hS hb hp b hS1
  go_wp2_with (go_at_call 45; refine (isOf_yes _ n _ h0 (by omega) HN.out).mono ?_; rintro e' w' ⟨rfl, rfl⟩)
  refine St.use (w0 := w) (by exact HS1.out.alloc [f1 fb, f2 gb] 55) ?_
  intro hS3
  have HS3 := Lib.hid hS3
  clear hS3
  refine (HI.out fb gb _ (Lib.hid (HP.out.below ((Below.refl _ w1).alloc (Nat.le_refl _) _)))).mono ?_
  rintro e w3 ⟨rfl, hb⟩
  have HS4 := Lib.hid (HS3.out.below hb)
  clear hb
  go_wp2
  exact bodyPost_ret (v := .tuple #[.int .i64 (r : Nat), .bool true]) (by simp [results, Tryd.results10, go_sem]) rfl ⟨rfl, HS4.out.base⟩

theorem splitOfI_any (n : Int) (A : Option Addr) (xs : List Int) (cap : Nat) (m : Int) (D : Option Addr) (ys : List Int) (dap : Nat) (s : Int) (w : World) (h : Hid (Ints w w.heap.size A xs)) (g : Hid (Ints w w.heap.size D ys)) :
    Calls Tryd.prog 10 #[.agg #[.int .i64 n, .slice A xs.length cap], .agg #[.int .i64 m, .slice D ys.length dap], .int .i64 s] w (RetV w (.tuple #[.int .i64 (splitOf n xs m ys s).1, .bool (splitOf n xs m ys s).2])) := by
  unfold splitOf
  cases hf : fits n xs m ys
  · rw [if_neg (by simp)]
    exact splitOfI_no n A xs cap m D ys dap s w h g hf
  · obtain ⟨h1, h2, rfl⟩ := fits_yes hf
    cases hs : isSet n s
    · rw [if_neg (by simp)]
      exact splitOfI_set n A xs cap D ys dap s w h g h1 h2 hs
    · rw [if_pos ⟨rfl, rfl⟩]
      exact splitOfI_yes n A xs cap D ys dap s w h g h1 h2 hs

-- hulls

section

variable (n : Int) (A : Option Addr) (xs : List Int) (cap : Nat) (w : World) (h : Hid (Ints w w.heap.size A xs))
include h
set_option maxRecDepth 100000 in
set_option maxHeartbeats 1600000 in
theorem hullI_no (hf : isFn n xs = false) :
    Calls Tryd.prog 18 #[.agg #[.int .i64 n, .slice A xs.length cap]] w (RetFB w 0 [] false) := by
  have HW := Lib.hid (St.start w)
  have HF := Lib.hid hf
  clear hf
  go_enter Tryd.func18, Tryd.ntmps18
  go_wp2_with (go_at_call 46; refine St.use (w0 := w) (by exact (HW.out.alloc _ _).alloc _ _) ?_; intro hS; (try simp only [World.size_alloc] at hS); refine (isFnI_no n A xs cap _ (Lib.hid ((h.out.below hS.base).mono hS.size)) HF.out).mono ?_; rintro e w2 ⟨rfl, hb⟩; have hS2 := hS.below hb; obtain ⟨u0, uf⟩ := hS2.box (i := 0) rfl; have u00 := u0 0 _ rfl; have u01 := u0 1 _ rfl; have uf0 := uf 0; have uf1 := uf 1; have ul := (hS2.lt (i := 0) rfl).2; have HS2 := Lib.hid hS2; clear hS hb hS2 u0 uf)
  have hZ := (HS2.out.store (i := 0) rfl 0 (.int .i64 0)).store (i := 0) rfl 1 (.slice none 0 0)
  exact bodyPost_ret (v := .tuple #[.agg #[.int .i64 0, .slice none 0 0], .bool false]) (by simp [results, Tryd.results18, go_sem, u00, u01, uf0, uf1, ul]) rfl ⟨none, 0, rfl, K.Own.nil _ _, by first | exact hZ.base | exact HS2.out.base⟩

set_option maxRecDepth 100000 in
set_option maxHeartbeats 1600000 in
theorem hullI_yes (hf : isFn n xs = true) :
    Calls Tryd.prog 18 #[.agg #[.int .i64 n, .slice A xs.length cap]] w (RetFB w (made n (tab xs.length (hullV xs))).1 (made n (tab xs.length (hullV xs))).2.1 (made n (tab xs.length (hullV xs))).2.2) := by
  have HW := Lib.hid (St.start w)
  have HF := Lib.hid hf
  obtain ⟨h0, h5, hl, -⟩ := isFn_yes hf
  obtain ⟨N, rfl⟩ := Int.eq_ofNat_of_zero_le h0
  rw [Int.toNat_natCast] at hl
  have HC := Lib.hid (fun s (hs : s < xs.length) W hb c0 c1 hlt => hullF N s A xs cap w.heap.size w W (by omega) hl (by omega) h hb c0 c1 hlt)
  have HL := Lib.hid hl
  obtain ⟨rn, rx, rb, hr⟩ : ∃ rn rx rb, made (N : Int) (tab xs.length (hullV xs)) = (rn, rx, rb) := ⟨_, _, _, rfl⟩
  rw [hr]
  have HR := Lib.hid hr
  generalize hullV xs = f at HC HR
  clear hf hl hr
  have hmf : ∀ (fn : Fn) (first cap : Array Value) (w : World), (Instr.makeFunc fn first cap).run Tryd.prog w = .ok (.func fn first cap) w := fun _ _ _ _ => rfl
  go_enter Tryd.func18, Tryd.ntmps18
  go_wp2_with (go_at_call 46; refine St.use (w0 := w) (by exact (HW.out.alloc _ _).alloc _ _) ?_; intro hS; (try simp only [World.size_alloc] at hS); refine (isFnI_yes N A xs cap _ (Lib.hid ((h.out.below hS.base).mono hS.size)) HF.out).mono ?_; rintro e w2 ⟨rfl, hb⟩; have hS2 := hS.below hb; obtain ⟨b0, -⟩ := hS2.box (i := 1) rfl; have b00 := b0 0 _ rfl; have HS3 := Lib.hid hS2; clear hS hb hS2 b0)
  refine (make_hull N xs.length f _ _ h0 h5 (by rw [Int.toNat_natCast]; exact HL.out) rn rx rb HR ?_).mono ?_
  · refine Lib.hid ?_
    intro j hj W hW
    have hS := HS3.out.below hW
    exact HC.out j hj W (Lib.hid hS.base) ((hS.box (i := 1) rfl).1 0 _ rfl) ((hS.box (i := 1) rfl).1 1 _ rfl) (hS.lt (i := 1) rfl).2
  rintro e w3 ⟨B, d, rfl, ho, hb⟩
  have hS4 := HS3.out.newI hb ho
  obtain ⟨r1, rf⟩ := hS4.box (i := 1) rfl
  have s10 := r1 0 _ rfl
  have s11 := r1 1 _ rfl
  have sf0 := rf 0
  have sf1 := rf 1
  have HS4 := Lib.hid hS4
  clear r1 rf hb ho hS4
  go_wp2
  have hZ := (HS4.out.store (i := 1) rfl 0 (.int .i64 rn)).store (i := 1) rfl 1 (.slice B rx.length d)
  exact bodyPost_ret (v := .tuple #[.agg #[.int .i64 rn, .slice B rx.length d], .bool rb]) (by simp [results, Tryd.results18, go_sem, s10, s11, sf0, sf1]) rfl ⟨B, d, rfl, hZ.ownI (i := 0) rfl, hZ.base⟩

theorem hullI_any :
    Calls Tryd.prog 18 #[.agg #[.int .i64 n, .slice A xs.length cap]] w (RetFB w (hullFn n xs).1 (hullFn n xs).2.1 (hullFn n xs).2.2) := by
  cases hf : isFn n xs
  · unfold hullFn
    rw [if_neg (by rw [hf]; simp)]
    exact hullI_no n A xs cap w h hf
  · rw [hull_made hf]
    exact hullI_yes n A xs cap w h hf


end


end Go.Proofs.YtelihjanjlklpaaDoor.C
