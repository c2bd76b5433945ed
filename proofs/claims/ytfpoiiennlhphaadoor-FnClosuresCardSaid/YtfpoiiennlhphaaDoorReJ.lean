/-
  The contracts of impl.RestrictFunction, ContractFunction and OppositeFunction.
-/
import Derived.Test.YtfpoiiennlhphaaDoorImB
import Derived.Test.YtfpoiiennlhphaaDoorMakeOpp
namespace Go.Proofs.YtfpoiiennlhphaaDoor.C
open Go.RowKit K M
set_option linter.unusedVariables false
set_option linter.unusedSimpArgs false


section

variable (n : Int) (A : Option Addr) (xs : List Int) (cap : Nat) (s : Int) (w : World) (h : Hid (Ints w w.heap.size A xs))
include h

set_option maxRecDepth 100000 in
set_option maxHeartbeats 1600000 in
theorem restI_fn (hf : isFn n xs = false) :
    Calls Tryd.prog 18 #[.agg #[.int .i64 n, .slice A xs.length cap], .int .i64 s] w (RetFB w 0 [] false) := by
  have HW := Lib.hid (St.start w)
  have HF := Lib.hid hf
  clear hf
  go_enter Tryd.func18, Tryd.ntmps18
  go_wp2_with (go_at_call 67; refine St.use (w0 := w) (by exact (HW.out.alloc _ _).alloc _ _) ?_; intro hS; (try simp only [World.size_alloc] at hS); refine (isFnI_no n A xs cap _ (Lib.hid ((h.out.below hS.base).mono hS.size)) HF.out).mono ?_; rintro e w2 ⟨rfl, hb⟩; have hS2 := hS.below hb; obtain ⟨u0, uf⟩ := hS2.box (i := 0) rfl; have u00 := u0 0 _ rfl; have u01 := u0 1 _ rfl; have uf0 := uf 0; have uf1 := uf 1; have ul := (hS2.lt (i := 0) rfl).2; have HS2 := Lib.hid hS2; clear hS hb hS2 u0 uf)
  have hZ := (HS2.out.store (i := 0) rfl 0 (.int .i64 0)).store (i := 0) rfl 1 (.slice none 0 0)
  exact bodyPost_ret (v := .tuple #[.agg #[.int .i64 0, .slice none 0 0], .bool false]) (by simp [results, Tryd.results18, go_sem, u00, u01, uf0, uf1, ul]) rfl ⟨none, 0, rfl, K.Own.nil _ _, by first | exact hZ.base | exact HS2.out.base⟩

set_option maxRecDepth 100000 in
set_option maxHeartbeats 1600000 in
theorem restI_set (hf : isFn n xs = true) (hs : isSet n s = false) :
    Calls Tryd.prog 18 #[.agg #[.int .i64 n, .slice A xs.length cap], .int .i64 s] w (RetFB w 0 [] false) := by
  have HW := Lib.hid (St.start w)
  have HF := Lib.hid hf
  have HN := Lib.hid hs
  obtain ⟨h0, h5, -, -⟩ := isFn_yes hf
  clear hf hs
  go_enter Tryd.func18, Tryd.ntmps18
  go_wp2_with (first
    | (go_at_call 67; refine St.use (w0 := w) (by exact (HW.out.alloc _ _).alloc _ _) ?_; intro hS; (try simp only [World.size_alloc] at hS); refine (isFnI_yes n A xs cap _ (Lib.hid ((h.out.below hS.base).mono hS.size)) HF.out).mono ?_; rintro e w2 ⟨rfl, hb⟩; have hS2 := hS.below hb; obtain ⟨b0, -⟩ := hS2.box (i := 1) rfl; have b00 := b0 0 _ rfl; obtain ⟨u0, uf⟩ := hS2.box (i := 0) rfl; have u00 := u0 0 _ rfl; have u01 := u0 1 _ rfl; have uf0 := uf 0; have uf1 := uf 1; have ul := (hS2.lt (i := 0) rfl).2; have HS2 := Lib.hid hS2; clear hS hb hS2 u0 uf b0)
    | (go_at_call 62; refine (isOf_no _ n _ h0 (by omega) HN.out).mono ?_; rintro e' w' ⟨rfl, rfl⟩))
  have hZ := (HS2.out.store (i := 0) rfl 0 (.int .i64 0)).store (i := 0) rfl 1 (.slice none 0 0)
  exact bodyPost_ret (v := .tuple #[.agg #[.int .i64 0, .slice none 0 0], .bool false]) (by simp [results, Tryd.results18, go_sem, u00, u01, uf0, uf1, ul]) rfl ⟨none, 0, rfl, K.Own.nil _ _, by first | exact hZ.base | exact HS2.out.base⟩


set_option maxRecDepth 100000 in
set_option maxHeartbeats 1600000 in
theorem contI_fn (hf : isFn n xs = false) :
    Calls Tryd.prog 20 #[.agg #[.int .i64 n, .slice A xs.length cap], .int .i64 s] w (RetFB w 0 [] false) := by
  have HW := Lib.hid (St.start w)
  have HF := Lib.hid hf
  clear hf
  go_enter Tryd.func20, Tryd.ntmps20
  go_wp2_with (go_at_call 67; refine St.use (w0 := w) (by exact ((HW.out.alloc _ _).alloc _ _).alloc _ _) ?_; intro hS; (try simp only [World.size_alloc] at hS); refine (isFnI_no n A xs cap _ (Lib.hid ((h.out.below hS.base).mono hS.size)) HF.out).mono ?_; rintro e w2 ⟨rfl, hb⟩; have hS2 := hS.below hb; obtain ⟨u0, uf⟩ := hS2.box (i := 0) rfl; have u00 := u0 0 _ rfl; have u01 := u0 1 _ rfl; have uf0 := uf 0; have uf1 := uf 1; have ul := (hS2.lt (i := 0) rfl).2; have HS2 := Lib.hid hS2; clear hS hb hS2 u0 uf)
  have hZ := (HS2.out.store (i := 0) rfl 0 (.int .i64 0)).store (i := 0) rfl 1 (.slice none 0 0)
  exact bodyPost_ret (v := .tuple #[.agg #[.int .i64 0, .slice none 0 0], .bool false]) (by simp [results, Tryd.results20, go_sem, u00, u01, uf0, uf1, ul]) rfl ⟨none, 0, rfl, K.Own.nil _ _, by first | exact hZ.base | exact HS2.out.base⟩

set_option maxRecDepth 100000 in
set_option maxHeartbeats 1600000 in
theorem contI_set (hf : isFn n xs = true) (hs : isSet n s = false) :
    Calls Tryd.prog 20 #[.agg #[.int .i64 n, .slice A xs.length cap], .int .i64 s] w (RetFB w 0 [] false) := by
  have HW := Lib.hid (St.start w)
  have HF := Lib.hid hf
  have HN := Lib.hid hs
  obtain ⟨h0, h5, -, -⟩ := isFn_yes hf
  clear hf hs
  go_enter Tryd.func20, Tryd.ntmps20
  go_wp2_with (first
    | (go_at_call 67; refine St.use (w0 := w) (by exact ((HW.out.alloc _ _).alloc _ _).alloc _ _) ?_; intro hS; (try simp only [World.size_alloc] at hS); refine (isFnI_yes n A xs cap _ (Lib.hid ((h.out.below hS.base).mono hS.size)) HF.out).mono ?_; rintro e w2 ⟨rfl, hb⟩; have hS2 := hS.below hb; obtain ⟨b0, -⟩ := hS2.box (i := 2) rfl; have b00 := b0 0 _ rfl; obtain ⟨s0, -⟩ := hS2.box (i := 1) rfl; have s00 := s0 0 _ rfl; obtain ⟨u0, uf⟩ := hS2.box (i := 0) rfl; have u00 := u0 0 _ rfl; have u01 := u0 1 _ rfl; have uf0 := uf 0; have uf1 := uf 1; have ul := (hS2.lt (i := 0) rfl).2; have HS2 := Lib.hid hS2; clear hS hb hS2 u0 uf b0)
    | (go_at_call 62; refine (isOf_no _ n _ h0 (by omega) HN.out).mono ?_; rintro e' w' ⟨rfl, rfl⟩))
  have hZ := (HS2.out.store (i := 0) rfl 0 (.int .i64 0)).store (i := 0) rfl 1 (.slice none 0 0)
  exact bodyPost_ret (v := .tuple #[.agg #[.int .i64 0, .slice none 0 0], .bool false]) (by simp [results, Tryd.results20, go_sem, u00, u01, uf0, uf1, ul]) rfl ⟨none, 0, rfl, K.Own.nil _ _, by first | exact hZ.base | exact HS2.out.base⟩


end


set_option maxRecDepth 100000 in
set_option maxHeartbeats 4000000 in
theorem restI_good (n : Int) (A : Option Addr) (xs : List Int) (cap : Nat) (s : Int) (w : World) (h : Hid (Ints w w.heap.size A xs)) (hf : isFn n xs = true) (hs : isSet n s = true) :
    Calls Tryd.prog 18 #[.agg #[.int .i64 n, .slice A xs.length cap], .int .i64 s] w (RetFB w (restrictFn n xs s).1 (restrictFn n xs s).2.1 (restrictFn n xs s).2.2) := by
  have HW := Lib.hid (St.start w)
  have HF := Lib.hid hf
  have HN := Lib.hid hs
  rw [restrict_made hf hs]
  obtain ⟨h0, h5, hl, -⟩ := isFn_yes hf
  obtain ⟨s0, s1⟩ := isSet_yes hs
  obtain ⟨S, rfl⟩ := Int.eq_ofNat_of_zero_le s0
  rw [Int.toNat_natCast]
  have hm32 := (isFn_len hf).2
  have hSm : S < xs.length := by omega
  have hS32 : S < 32 := by omega
  have HP := Lib.hid (fun i (hi : i < 2 ^ ones S) => part_le S hS32 i (by have := ones_pow hS32; omega))
  have HV := Lib.hid (fun i => show restV xs S i = xs.getD (partN S i) 0 from rfl)
  have HO := Lib.hid (fun fb W hh => fonI_rest S fb hS32 (restV xs S) W hh)
  generalize restV xs S = f at *
  obtain ⟨rn, rx, rb, hr⟩ : ∃ rn rx rb, made (ones S : Nat) (tab (2 ^ ones S) f) = (rn, rx, rb) := ⟨_, _, _, rfl⟩
  rw [hr] at HO ⊢
  have hmf : ∀ (fn : Fn) (first cap : Array Value) (w : World), (Instr.makeFunc fn first cap).run Tryd.prog w = .ok (.func fn first cap) w := fun _ _ _ _ => rfl
  clear hf hs hr hl s1
  go_enter Tryd.func18, Tryd.ntmps18
  go_wp2_with (first
    | (go_at_call 67; refine St.use (w0 := w) (by exact (HW.out.alloc _ _).alloc _ _) ?_; intro hS; (try simp only [World.size_alloc] at hS); refine (isFnI_yes n A xs cap _ (Lib.hid ((h.out.below hS.base).mono hS.size)) HF.out).mono ?_; rintro e w2 ⟨rfl, hb⟩; have hS2 := hS.below hb; obtain ⟨b0, -⟩ := hS2.box (i := 1) rfl; have b00 := b0 0 _ rfl; have HS2 := Lib.hid hS2; clear hS hb hS2 b0)
    | (go_at_call 62; refine (isOf_yes _ n _ h0 (by omega) HN.out).mono ?_; rintro e' w' ⟨rfl, rfl⟩))
  refine (HO.out _ _ ?_).mono ?_
  · refine Lib.hid ?_
    intro i hi W hW
    have hS := HS2.out.below hW
    have hp := HP.out i hi
    obtain ⟨b, off, rfl, hbl, hc⟩ := h.out.at_ (k := partN S i) (by omega)
    rw [HV.out]
    exact restC _ (partN S i) _ b off xs.length cap W (by omega) ((hS.box (i := 1) rfl).1 1 _ rfl) ((hS.base.cell (p := ⟨b, off + partN S i, none⟩) hbl).trans hc)
  rintro e w3 ⟨B, d, rfl, ho, hb⟩
  have hS4 := HS2.out.newI hb ho
  obtain ⟨r1, rf⟩ := hS4.box (i := 1) rfl
  have s10 := r1 0 _ rfl
  have s11 := r1 1 _ rfl
  have sf0 := rf 0
  have sf1 := rf 1
  have HS4 := Lib.hid hS4
  clear r1 rf hb ho hS4
  go_wp2
  have hZ := (HS4.out.store (i := 1) rfl 0 (.int .i64 rn)).store (i := 1) rfl 1 (.slice B rx.length d)
  exact bodyPost_ret (v := .tuple #[.agg #[.int .i64 rn, .slice B rx.length d], .bool rb]) (by simp [results, Tryd.results18, go_sem, s10, s11, sf0, sf1]) rfl ⟨B, d, rfl, hZ.ownI (i := 0) rfl, hZ.base⟩

theorem restI_any (n : Int) (A : Option Addr) (xs : List Int) (cap : Nat) (s : Int) (w : World) (h : Hid (Ints w w.heap.size A xs)) :
    Calls Tryd.prog 18 #[.agg #[.int .i64 n, .slice A xs.length cap], .int .i64 s] w (RetFB w (restrictFn n xs s).1 (restrictFn n xs s).2.1 (restrictFn n xs s).2.2) := by
  cases hf : isFn n xs
  · unfold restrictFn
    rw [if_neg (by rw [hf]; simp)]
    exact restI_fn n A xs cap s w h hf
  · cases hs : isSet n s
    · unfold restrictFn
      rw [if_neg (by rw [hs]; simp)]
      exact restI_set n A xs cap s w h hf hs
    · exact restI_good n A xs cap s w h hf hs

set_option maxRecDepth 100000 in
set_option maxHeartbeats 4000000 in
theorem contI_good (n : Int) (A : Option Addr) (xs : List Int) (cap : Nat) (s : Int) (w : World) (h : Hid (Ints w w.heap.size A xs)) (hf : isFn n xs = true) (hs : isSet n s = true) :
    Calls Tryd.prog 20 #[.agg #[.int .i64 n, .slice A xs.length cap], .int .i64 s] w (RetFB w (contractFn n xs s).1 (contractFn n xs s).2.1 (contractFn n xs s).2.2) := by
  have HW := Lib.hid (St.start w)
  have HF := Lib.hid hf
  have HN := Lib.hid hs
  unfold contractFn
  rw [if_pos ⟨hf, hs⟩]
  obtain ⟨h0, h5, hl, hv⟩ := isFn_yes hf
  obtain ⟨s0, s1⟩ := isSet_yes hs
  obtain ⟨S, rfl⟩ := Int.eq_ofNat_of_zero_le s0
  obtain ⟨N, rfl⟩ := Int.eq_ofNat_of_zero_le h0
  rw [Int.toNat_natCast] at s1 hl
  rw [Int.toNat_natCast, Int.toNat_natCast]
  have hm32 := (isFn_len hf).2
  have hSN : S < 2 ^ N := by omega
  have hSm : S < xs.length := by omega
  have hR : compl N S < 2 ^ N := compl_lt
  have HK := Lib.hid (fun W => complI N S W (by omega) hSN)
  generalize compl N S = R at *
  have hR32 : R < 32 := by omega
  have HP := Lib.hid (fun i (hi : i < 2 ^ ones R) => part_le R hR32 i (by have := ones_pow hR32; omega))
  have HQ := Lib.hid (fun i (hi : i < 2 ^ ones R) => show S ||| partN R i < xs.length by rw [hl]; exact Nat.or_lt_two_pow hSN (Nat.lt_of_le_of_lt (HP.out i hi) hR))
  have HV := Lib.hid (fun i => show contV xs S R i = xs.getD (S ||| partN R i) 0 - xs.getD S 0 from rfl)
  have HO := Lib.hid (fun fb sb W hh => fonI_cont R fb sb hR32 (contV xs S R) W hh)
  have HVV := Lib.hid hv
  generalize contV xs S R = f at *
  obtain ⟨rn, rx, rb, hr⟩ : ∃ rn rx rb, made (ones R : Nat) (tab (2 ^ ones R) f) = (rn, rx, rb) := ⟨_, _, _, rfl⟩
  rw [hr] at HO ⊢
  have hmf : ∀ (fn : Fn) (first cap : Array Value) (w : World), (Instr.makeFunc fn first cap).run Tryd.prog w = .ok (.func fn first cap) w := fun _ _ _ _ => rfl
  clear hf hs hr hl hv s1 hSN hR
  go_enter Tryd.func20, Tryd.ntmps20
  go_wp2_with (first
    | (go_at_call 67; refine St.use (w0 := w) (by exact ((HW.out.alloc _ _).alloc _ _).alloc _ _) ?_; intro hS; (try simp only [World.size_alloc] at hS); refine (isFnI_yes N A xs cap _ (Lib.hid ((h.out.below hS.base).mono hS.size)) HF.out).mono ?_; rintro e w2 ⟨rfl, hb⟩; have hS2 := hS.below hb; obtain ⟨b0, -⟩ := hS2.box (i := 2) rfl; have b00 := b0 0 _ rfl; obtain ⟨c0, -⟩ := hS2.box (i := 1) rfl; have c00 := c0 0 _ rfl; have HS2 := Lib.hid hS2; clear hS hb hS2 b0 c0)
    | (go_at_call 62; refine (isOf_yes _ N _ h0 (by omega) HN.out).mono ?_; rintro e' w' ⟨rfl, rfl⟩)
    | (go_at_call 75; refine (HK.out _).mono ?_; rintro e' w' ⟨rfl, rfl⟩))
  refine (HO.out _ _ _ ?_).mono ?_
  · refine Lib.hid ?_
    intro i hi W hW
    have hS := HS2.out.below hW
    have hp := HP.out i hi
    have hq := HQ.out i hi
    obtain ⟨b, off, rfl, hbl, hc⟩ := h.out (by omega)
    obtain ⟨v1, v2⟩ := HVV.out _ hq
    obtain ⟨u1, u2⟩ := HVV.out S hSm
    rw [HV.out]
    exact contC _ _ (partN R i) S (S ||| partN R i) _ _ b off xs.length cap W v1 v2 u1 u2 hSm hq (or_num S (by omega) _ (by omega)) ((hS.box (i := 2) rfl).1 1 _ rfl) ((hS.box (i := 1) rfl).1 0 _ rfl) ((hS.base.cell (p := ⟨b, off + (S ||| partN R i), none⟩) hbl).trans (hc _ hq)) ((hS.base.cell (p := ⟨b, off + S, none⟩) hbl).trans (hc _ hSm))
  rintro e w3 ⟨B, d, rfl, ho, hb⟩
  have hS4 := HS2.out.newI hb ho
  obtain ⟨r1, rf⟩ := hS4.box (i := 1) rfl
  have s10 := r1 0 _ rfl
  have s11 := r1 1 _ rfl
  have sf0 := rf 0
  have sf1 := rf 1
  have HS4 := Lib.hid hS4
  clear r1 rf hb ho hS4
  go_wp2
  have hZ := (HS4.out.store (i := 1) rfl 0 (.int .i64 rn)).store (i := 1) rfl 1 (.slice B rx.length d)
  exact bodyPost_ret (v := .tuple #[.agg #[.int .i64 rn, .slice B rx.length d], .bool rb]) (by simp [results, Tryd.results20, go_sem, s10, s11, sf0, sf1]) rfl ⟨B, d, rfl, hZ.ownI (i := 0) rfl, hZ.base⟩

theorem contI_any (n : Int) (A : Option Addr) (xs : List Int) (cap : Nat) (s : Int) (w : World) (h : Hid (Ints w w.heap.size A xs)) :
    Calls Tryd.prog 20 #[.agg #[.int .i64 n, .slice A xs.length cap], .int .i64 s] w (RetFB w (contractFn n xs s).1 (contractFn n xs s).2.1 (contractFn n xs s).2.2) := by
  cases hf : isFn n xs
  · unfold contractFn
    rw [if_neg (by rw [hf]; simp)]
    exact contI_fn n A xs cap s w h hf
  · cases hs : isSet n s
    · unfold contractFn
      rw [if_neg (by rw [hs]; simp)]
      exact contI_set n A xs cap s w h hf hs
    · exact contI_good n A xs cap s w h hf hs


section

variable (n : Int) (A : Option Addr) (xs : List Int) (cap : Nat) (w : World) (h : Hid (Ints w w.heap.size A xs))
include h

set_option maxRecDepth 100000 in
set_option maxHeartbeats 1600000 in
theorem oppI_fn (hf : isFn n xs = false) :
    Calls Tryd.prog 27 #[.agg #[.int .i64 n, .slice A xs.length cap]] w (RetFB w 0 [] false) := by
  have HW := Lib.hid (St.start w)
  have HF := Lib.hid hf
  clear hf
  go_enter Tryd.func27, Tryd.ntmps27
  go_wp2_with (go_at_call 67; refine St.use (w0 := w) (by exact (HW.out.alloc _ _).alloc _ _) ?_; intro hS; (try simp only [World.size_alloc] at hS); refine (isFnI_no n A xs cap _ (Lib.hid ((h.out.below hS.base).mono hS.size)) HF.out).mono ?_; rintro e w2 ⟨rfl, hb⟩; have hS2 := hS.below hb; obtain ⟨u0, uf⟩ := hS2.box (i := 0) rfl; have u00 := u0 0 _ rfl; have u01 := u0 1 _ rfl; have uf0 := uf 0; have uf1 := uf 1; have ul := (hS2.lt (i := 0) rfl).2; have HS2 := Lib.hid hS2; clear hS hb hS2 u0 uf)
  have hZ := (HS2.out.store (i := 0) rfl 0 (.int .i64 0)).store (i := 0) rfl 1 (.slice none 0 0)
  exact bodyPost_ret (v := .tuple #[.agg #[.int .i64 0, .slice none 0 0], .bool false]) (by simp [results, Tryd.results27, go_sem, u00, u01, uf0, uf1, ul]) rfl ⟨none, 0, rfl, K.Own.nil _ _, by first | exact hZ.base | exact HS2.out.base⟩

end


set_option maxRecDepth 100000 in
set_option maxHeartbeats 4000000 in
theorem oppI_good (n : Int) (A : Option Addr) (xs : List Int) (cap : Nat) (w : World) (h : Hid (Ints w w.heap.size A xs)) (hf : isFn n xs = true) :
    Calls Tryd.prog 27 #[.agg #[.int .i64 n, .slice A xs.length cap]] w (RetFB w (oppositeFn n xs).1 (oppositeFn n xs).2.1 (oppositeFn n xs).2.2) := by
  have HW := Lib.hid (St.start w)
  have HF := Lib.hid hf
  rw [opposite_made hf]
  obtain ⟨h0, h5, hl, -⟩ := isFn_yes hf
  obtain ⟨N, rfl⟩ := Int.eq_ofNat_of_zero_le h0
  rw [Int.toNat_natCast] at hl
  have HV := Lib.hid (fun s => show oppV xs s = xs.getD (xs.length - 1 - s) 0 from rfl)
  generalize oppV xs = f at *
  obtain ⟨rn, rx, rb, hr⟩ : ∃ rn rx rb, made (N : Int) (tab xs.length f) = (rn, rx, rb) := ⟨_, _, _, rfl⟩
  rw [hr]
  have HM := Lib.hid (fun p1 W hh => make_opp N xs.length f p1 W (by omega) (by omega) (by rw [Int.toNat_natCast]; exact hl) rn rx rb (Lib.hid hr) hh)
  have HL := Lib.hid hl
  have hmf : ∀ (fn : Fn) (first cap : Array Value) (w : World), (Instr.makeFunc fn first cap).run Tryd.prog w = .ok (.func fn first cap) w := fun _ _ _ _ => rfl
  clear hf hr hl
  go_enter Tryd.func27, Tryd.ntmps27
  go_wp2_with (first
    | (go_at_call 67; refine St.use (w0 := w) (by exact (HW.out.alloc _ _).alloc _ _) ?_; intro hS; (try simp only [World.size_alloc] at hS); refine (isFnI_yes N A xs cap _ (Lib.hid ((h.out.below hS.base).mono hS.size)) HF.out).mono ?_; rintro e w2 ⟨rfl, hb⟩; have hS2 := hS.below hb; obtain ⟨b0, -⟩ := hS2.box (i := 1) rfl; have b00 := b0 0 _ rfl; have HS2 := Lib.hid hS2; clear hS hb hS2 b0))
  refine (HM.out _ _ ?_).mono ?_
  · refine Lib.hid ?_
    intro i hi W hW
    have hS := HS2.out.below hW
    obtain ⟨b, off, rfl, hbl, hc⟩ := h.out.at_ (k := compl N i) (by rw [HL.out]; exact compl_lt)
    rw [HV.out, show xs.length - 1 - i = compl N i by rw [HL.out]; rfl]
    exact (oppC _ 0 N i (compl N i) _ b off xs.length cap W (by omega) (by rw [← HL.out]; exact hi) rfl (by rw [HL.out]; exact compl_lt) ((hS.box (i := 1) rfl).1 0 _ rfl) ((hS.box (i := 1) rfl).1 1 _ rfl) ((hS.base.cell (p := ⟨b, off + compl N i, none⟩) hbl).trans hc)).mono fun e W' ⟨h1, q, h2⟩ => ⟨h1, h2 ▸ below_drewN (Below.refl _ _) q⟩
  rintro e w3 ⟨B, d, rfl, ho, hb⟩
  have hS4 := HS2.out.newI hb ho
  obtain ⟨r1, rf⟩ := hS4.box (i := 1) rfl
  have s10 := r1 0 _ rfl
  have s11 := r1 1 _ rfl
  have sf0 := rf 0
  have sf1 := rf 1
  have HS4 := Lib.hid hS4
  clear r1 rf hb ho hS4
  go_wp2
  have hZ := (HS4.out.store (i := 1) rfl 0 (.int .i64 rn)).store (i := 1) rfl 1 (.slice B rx.length d)
  exact bodyPost_ret (v := .tuple #[.agg #[.int .i64 rn, .slice B rx.length d], .bool rb]) (by simp [results, Tryd.results27, go_sem, s10, s11, sf0, sf1]) rfl ⟨B, d, rfl, hZ.ownI (i := 0) rfl, hZ.base⟩

theorem oppI_any (n : Int) (A : Option Addr) (xs : List Int) (cap : Nat) (w : World) (h : Hid (Ints w w.heap.size A xs)) :
    Calls Tryd.prog 27 #[.agg #[.int .i64 n, .slice A xs.length cap]] w (RetFB w (oppositeFn n xs).1 (oppositeFn n xs).2.1 (oppositeFn n xs).2.2) := by
  cases hf : isFn n xs
  · unfold oppositeFn
    rw [if_neg (by rw [hf]; simp)]
    exact oppI_fn n A xs cap w h hf
  · exact oppI_good n A xs cap w h hf

end Go.Proofs.YtfpoiiennlhphaaDoor.C
