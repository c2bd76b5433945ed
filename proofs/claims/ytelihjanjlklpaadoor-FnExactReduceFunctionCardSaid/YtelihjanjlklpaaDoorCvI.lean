/-
  The contracts of impl.convolutionOf, of the method split, and of chapter 6's exported functions on convolutions.
-/
import Derived.Test.YtelihjanjlklpaaDoorLpI
import Derived.Test.YtelihjanjlklpaaDoorMakeConv
import Derived.Test.YtelihjanjlklpaaDoorMakeHull
import Derived.Test.YtelihjanjlklpaaDoorMakeTrunc
import Derived.Test.YtelihjanjlklpaaDoorReI
import Derived.Test.YtelihjanjlklpaaDoorCvN
namespace Go.Proofs.YtelihjanjlklpaaDoor.C
open Go.RowKit K M
set_option linter.unusedVariables false
set_option linter.unusedSimpArgs false

/-- What two functions' closures give, whatever is made behind w. -/
structure Pair (w : World) (m : Nat) (xs ys : List Int) (fb gb : Nat) : Prop where
  one : ∀ x, x < m → ∀ W, Below w.heap.size w W → Calls Tryd.prog 68 #[.int .i64 (x : Nat), .pointer (some ⟨fb, 0, none⟩)] W (Gives W (xs.getD x 0))
  two : ∀ x, x < m → ∀ W, Below w.heap.size w W → Calls Tryd.prog 69 #[.int .i64 (x : Nat), .pointer (some ⟨gb, 0, none⟩)] W (Gives W (ys.getD x 0))
  le32 : m ≤ 32
  bd1 : ∀ x, x < m → -1000 ≤ xs.getD x 0 ∧ xs.getD x 0 ≤ 1000
  bd2 : ∀ x, x < m → -1000 ≤ ys.getD x 0 ∧ ys.getD x 0 ≤ 1000
theorem Pair.below {w w' : World} {m : Nat} {xs ys : List Int} {fb gb : Nat} (h : Pair w m xs ys fb gb) (hb : Below w.heap.size w w') : Pair w' m xs ys fb gb :=
  ⟨fun x hx W hW => h.one x hx W (hb.trans (hW.mono hb.size)), fun x hx W hW => h.two x hx W (hb.trans (hW.mono hb.size)), h.le32, h.bd1, h.bd2⟩

abbrev f1 (fb : Nat) : Value := .func (.func 68) #[] #[.pointer (some ⟨fb, 0, none⟩)]
abbrev f2 (gb : Nat) : Value := .func (.func 69) #[] #[.pointer (some ⟨gb, 0, none⟩)]

set_option maxRecDepth 100000 in
set_option maxHeartbeats 1600000 in
theorem splitI (S m : Nat) (xs ys : List Int) (fb gb : Nat) (w : World) (hS : S < m) (hp : Hid (Pair w m xs ys fb gb)) :
    Calls Tryd.prog 40 #[.agg #[f1 fb, f2 gb], .int .i64 S] w fun e w' => e = .returned (.tuple #[.int .i64 (split xs ys S : Nat), .int .i64 (convV xs ys S)]) ∧ Below w.heap.size w w' := by
  have h32 := hp.out.le32
  have hS32 : S < 32 := by omega
  have HL := Lib.hid (fun p1 p2 W hh => least_split_any S hS32 (partV xs ys S) p1 p2 W hh)
  have hr : leastTo (partV xs ys S) S S = split xs ys S := least_split xs ys S S
  have hv : partV xs ys S (split xs ys S) = convV xs ys S := rfl
  rw [hr, hv] at HL
  generalize split xs ys S = r at HL ⊢
  generalize convV xs ys S = u at HL ⊢
  clear hr hv
  have HV := Lib.hid (fun x => show partV xs ys S x = xs.getD x 0 + ys.getD (S - x) 0 from rfl)
  generalize partV xs ys S = v at HL HV
  have HW := Lib.hid (St.start w)
  have hmf : ∀ (fn : Fn) (first cap : Array Value) (w : World), (Instr.makeFunc fn first cap).run Tryd.prog w = .ok (.func fn first cap) w := fun _ _ _ _ => rfl
  go_enter Tryd.func40, Tryd.ntmps40
  go_wp2_with fail
  refine St.use (w0 := w) (by exact (HW.out.alloc _ _).alloc _ _) ?_
  intro hS1
  simp only [World.size_alloc] at hS1
  have HS1 := Lib.hid hS1
  clear hS1
  refine (HL.out _ _ _ ?_).mono ?_
  · refine Lib.hid ?_
    intro x hx W hW
    have hle := and_le_of hx
    have hW1 := HS1.out.below hW
    rw [HV.out]
    obtain ⟨a1, a2⟩ := hp.out.bd1 x (by omega)
    obtain ⟨b1, b2⟩ := hp.out.bd2 (S - x) (by omega)
    exact splitC _ _ S x (S - x) _ _ fb gb W a1 a2 b1 b2 (xor_part S hS32 x (by omega) hx) ((hW1.box (i := 1) rfl).1 0 _ rfl) ((hW1.box (i := 1) rfl).1 1 _ rfl) ((hW1.box (i := 0) rfl).1 0 _ rfl)
      (Lib.hid fun k => hp.out.one x (by omega) _ (below_drewN hW1.base k)) (Lib.hid fun k => hp.out.two (S - x) (by omega) _ (below_drewN hW1.base k))
  rintro e w2 ⟨rfl, hb⟩
  have HS2 := Lib.hid (HS1.out.below hb)
  clear hb
  go_wp2
  exact bodyPost_ret (v := .tuple #[.int .i64 (r : Nat), .int .i64 u]) (by simp [results, Tryd.results40, go_sem]) rfl ⟨rfl, HS2.out.base⟩

set_option maxRecDepth 100000 in
set_option maxHeartbeats 1600000 in
theorem convF (S m : Nat) (xs ys : List Int) (fb gb cb : Nat) (w : World) (hS : S < m) (hp : Hid (Pair w m xs ys fb gb)) (h0 : w.cell? ⟨cb, 0, none⟩ = some (f1 fb)) (h1 : w.cell? ⟨cb, 1, none⟩ = some (f2 gb)) :
    Calls Tryd.prog 39 #[.int .i64 S, .pointer (some ⟨cb, 0, none⟩)] w (RetV w (.int .i64 (convV xs ys S))) := by
  have HS := Lib.hid (splitI S m xs ys fb gb w hS hp)
  generalize split xs ys S = r at HS
  generalize convV xs ys S = u at HS ⊢
  go_enter Tryd.func39, Tryd.ntmps39
  go_wp2_with fail
  refine HS.out.mono ?_
  rintro e w2 ⟨rfl, hb⟩
  have HB := Lib.hid hb
  clear hb
  go_wp2
  go_ret
  exact ⟨rfl, HB.out⟩

set_option maxRecDepth 100000 in
set_option maxHeartbeats 1600000 in
theorem hullF (N s : Nat) (A : Option Addr) (xs : List Int) (cap fb : Nat) (w0 w : World) (h5 : N ≤ 5) (hl : xs.length = 2 ^ N) (hs : s < 2 ^ N) (h : Hid (Ints w0 w0.heap.size A xs)) (hb : Hid (Below w0.heap.size w0 w)) (h0 : w.cell? ⟨fb, 0, none⟩ = some (.int .i64 N)) (h1 : w.cell? ⟨fb, 1, none⟩ = some (.slice A xs.length cap)) (hfb : fb < w.heap.size) :
    Calls Tryd.prog 55 #[.int .i64 s, .pointer (some ⟨fb, 0, none⟩)] w (RetV w (.int .i64 (hullV xs s))) := by
  have h32 : 2 ^ N ≤ 32 := Nat.le_trans (Nat.pow_le_pow_right (by decide) h5) (by decide)
  have hcl : compl N s < 2 ^ N := by unfold compl; have := Nat.two_pow_pos N; omega
  have HL := Lib.hid (fun p1 p2 W hh => least_hull_any (compl N s) (by omega) (supV xs s) p1 p2 W hh)
  have hv := hull_least h5 hl hs
  rw [hv] at HL
  generalize leastTo (supV xs s) (compl N s) (compl N s) = r at HL
  generalize hullV xs s = u at HL ⊢
  clear hv
  have HC := Lib.hid (fun W => complI N s W h5 hs)
  have HV := Lib.hid (fun x => show supV xs s x = xs.getD (s ||| x) 0 from rfl)
  have HO := Lib.hid (fun x (hx : x &&& compl N s = x) => show s ||| x < 2 ^ N ∧ x ≤ compl N s from ⟨Nat.or_lt_two_pow hs (Nat.lt_of_le_of_lt (and_le_of hx) hcl), and_le_of hx⟩)
  generalize supV xs s = v at HL HV
  generalize compl N s = c at HL HC HO hcl
  have HX := Lib.hid h1
  have HW := Lib.hid (St.start w)
  have hmf : ∀ (fn : Fn) (first cap : Array Value) (w : World), (Instr.makeFunc fn first cap).run Tryd.prog w = .ok (.func fn first cap) w := fun _ _ _ _ => rfl
  go_enter Tryd.func55, Tryd.ntmps55
  go_wp2_with (go_at_call 57; refine (HC.out _).mono ?_; rintro e w1 ⟨rfl, rfl⟩)
  refine St.use (w0 := w) (by exact HW.out.alloc _ _) ?_
  intro hS1
  have HS1 := Lib.hid hS1
  clear hS1
  refine (HL.out _ _ _ ?_).mono ?_
  · refine Lib.hid ?_
    intro x hx W hW
    obtain ⟨hq, hxc⟩ := HO.out x hx
    have hW1 := HS1.out.below hW
    obtain ⟨b, off, rfl, hbl, hc⟩ := h.out.at_ (k := s ||| x) (by omega)
    rw [HV.out]
    exact hullC _ s x (s ||| x) fb _ b off xs.length cap W (by omega) (by rw [or_num x (by omega) s (by omega), Nat.or_comm]) ((hW1.base.cell (p := ⟨fb, 1, none⟩) hfb).trans HX.out) ((hW1.box (i := 0) rfl).1 0 _ rfl) (((hb.out.trans (hW1.base.mono hb.out.size)).cell (p := ⟨b, off + (s ||| x), none⟩) hbl).trans hc)
  rintro e w2 ⟨rfl, hb2⟩
  have HS2 := Lib.hid (HS1.out.below hb2)
  clear hb2
  go_wp2
  go_ret
  exact ⟨rfl, HS2.out.base⟩

set_option maxRecDepth 100000 in
theorem truncF (k x : Int) (s : Nat) (kb fb b off m cap : Nat) (w : World) (hs : s < m) (hk : w.cell? ⟨kb, 0, none⟩ = some (.int .i64 k)) (hf : w.cell? ⟨fb, 1, none⟩ = some (.slice (some ⟨b, off, none⟩) m cap)) (hc : w.cell? ⟨b, off + s, none⟩ = some (.int .i64 x)) :
    Calls Tryd.prog 61 #[.int .i64 s, .pointer (some ⟨kb, 0, none⟩), .pointer (some ⟨fb, 0, none⟩)] w (RetV w (.int .i64 (min k x))) := by
  have hs0 : (0 : Int) ≤ (s : Int) := by omega
  have hsm : (s : Int) < (m : Int) := by omega
  rcases Int.lt_or_le x k with hlt | hlt
  · rw [Int.min_eq_right (by omega)]
    go_enter Tryd.func61, Tryd.ntmps61
    go_wp2
    go_region
    go_wp2
    go_ret
    exact ⟨rfl, (Below.refl _ _).drew⟩
  · rw [Int.min_eq_left hlt]
    have hle : ¬ x < k := by omega
    go_enter Tryd.func61, Tryd.ntmps61
    go_wp2
    go_region
    go_wp2
    go_ret
    exact ⟨rfl, (Below.refl _ _).drew⟩


end Go.Proofs.YtelihjanjlklpaaDoor.C
