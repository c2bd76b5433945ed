/-
  The contracts of the functions by which a law draws its inputs: the cursor and its bytes.
  The contracts of the cursor's making and of the draws of chapter 1.
  The draws in the words of what a call owns: the cursor is a row beside others.
  The contracts of the draws of chapter 2: a coverage function, a function.
  The contracts of the draws of chapter 2: any function, two, one with a set.
  The contracts of the draws of chapter 2, as the laws call them.
  The contracts of the draws of chapter 5.
-/
import Derived.Test.YtffbiflgmlabaaaGreatDoorNumK
import Derived.Outline
import Derived.Deep.QuietTactic
import Derived.BigQuiet
import Derived.Test.YtffbiflgmlabaaaGreatDoorBase
import Derived.Test.YtffbiflgmlabaaaGreatDoorFnA
import Derived.Deep.RegionHeld3
import Derived.StillTailTactics
namespace Go.Proofs.YtffbiflgmlabaaaGreatDoor.C
open Go.RowKit M K
set_option linter.unusedVariables false

/-- What is known of the bytes that came in: none, or a row of cells. -/
def Bytes (base : Nat) (w : World) (v : Value) (len : Nat) : Prop :=
  ((∃ a cap, v = .slice a 0 cap) ∧ len = 0) ∨
  ∃ (b off cap : Nat) (zs : List Int), v = .slice (some ⟨b, off, none⟩) len cap ∧ len ≤ cap ∧ cap ≤ maxLen ∧ zs.length = cap ∧ b < base ∧ (∀ i, i < zs.length → w.cell? ⟨b, off + i, none⟩ = some (.int .u8 (zs.getD i 0))) ∧ ∀ n ∈ zs, 0 ≤ n ∧ n ≤ 255

/-- The cursor in block B. -/
def Cur (w : World) (B : Nat) (v : Value) (len : Nat) : Prop :=
  ∃ (i : Nat) (h : Int), i ≤ len ∧ -9223372036854775808 ≤ h ∧ h ≤ 9223372036854775807 ∧ w.heap[B]? = some (.cells #[v, .int .i64 i, .int .i64 h] 88 (0, 0))

theorem cur_cells {w : World} {B : Nat} {x y z : Value} (h : w.heap[B]? = some (.cells #[x, y, z] 88 (0, 0))) :
    w.cell? ⟨B, 0, none⟩ = some x ∧ w.cell? ⟨B, 1, none⟩ = some y ∧ w.cell? ⟨B, 2, none⟩ = some z ∧ (∀ o, w.frozen? ⟨B, o, none⟩ = false) :=
  ⟨by simpa using cell_of_row w B 0 _ _ _ h, by simpa using cell_of_row w B 1 _ _ _ h, by simpa using cell_of_row w B 2 _ _ _ h, fun o => frozen_of_row w B o _ _ h⟩

theorem and255 (n : Int) : bits .and .i64 n 255 = n % 256 := by
  have h255 : (BitVec.ofInt 64 255).toNat = 2 ^ 8 - 1 := by decide
  have key : (BitVec.ofInt 64 n &&& BitVec.ofInt 64 255).toNat = (n % ((2 ^ 64 : Nat) : Int)).toNat % 2 ^ 8 := by
    rw [BitVec.toNat_and, BitVec.toNat_ofInt, h255, Nat.and_two_pow_sub_one_eq_mod]
  show IntKind.i64.wrap ((BitVec.ofInt 64 n &&& BitVec.ofInt 64 255).toNat : Nat) = n % 256
  rw [key, IntKind.wrap_i64]
  omega

theorem wrap64_bd (x : Int) : -9223372036854775808 ≤ wrap64 x ∧ wrap64 x ≤ 9223372036854775807 := by unfold wrap64; omega

/-- The world behind the first statement. -/
theorem cur_set {w : World} {B : Nat} {x y z : Value} (u : Value) (o : Nat) (h : w.heap[B]? = some (.cells #[x, y, z] 88 (0, 0))) :
    (w.setCell ⟨B, o, none⟩ u).heap[B]? = some (.cells (#[x, y, z].setIfInBounds o u) 88 (0, 0)) ∧ w.grownBy (w.setCell ⟨B, o, none⟩ u) (some B) :=
  ⟨heap_setCell_same w B o _ _ u h, ⟨rfl, rfl, rfl, by simp [World.setCell], fun k _ hk => Below.heap_setCell _ _ _ _ (fun e => hk (by rw [e]))⟩⟩

theorem grown_drewN {a w : World} {B : Option Nat} (h : a.grownBy w B) (n : Nat) : a.grownBy (w.drewN n) B := ⟨h.os, h.tape, h.output, h.size, h.block⟩
theorem grown_two {a b c : World} {B : Option Nat} (h : a.grownBy b B) (g : b.grownBy c B) : a.grownBy c B :=
  ⟨g.os.trans h.os, g.tape.trans h.tape, g.output.trans h.output, Nat.le_trans h.size g.size, fun k hk hb => (g.block k (Nat.lt_of_lt_of_le hk h.size) hb).trans (h.block k hk hb)⟩

set_option maxRecDepth 100000 in
set_option maxHeartbeats 1600000 in
theorem byte_end (B : Nat) (a : Option Addr) (len cap : Nat) (i : Nat) (h : Int) (w : World) (hi : ¬ i < len) (hil : i ≤ len)
    (hB : w.heap[B]? = some (.cells #[.slice a len cap, .int .i64 i, .int .i64 h] 88 (0, 0))) :
    Calls Tryz.prog 102 #[.pointer (some ⟨B, 0, none⟩)] w fun e w' => ∃ x : Int, e = .returned (.int .i64 x) ∧ 0 ≤ x ∧ x ≤ 255 ∧ Cur w' B (.slice a len cap) len ∧ w.grownBy w' (some B) := by
  obtain ⟨c0, c1, c2, hf⟩ := cur_cells hB
  have f2 := hf 2
  clear hf
  have hiI : ¬ (i : Int) < (len : Int) := by omega
  go_enter Tryz.func102, Tryz.ntmps102
  go_wp2
  generalize hh1 : wrap64 (wrap64 (h * 6364136223846793005) + 1442695040888963407) = h1
  have hb1 : -9223372036854775808 ≤ h1 ∧ h1 ≤ 9223372036854775807 := by rw [← hh1]; exact wrap64_bd _
  clear hh1
  obtain ⟨hB1, hg1⟩ := cur_set (.int .i64 h1) 2 hB
  generalize w.setCell ⟨B, 2, none⟩ (.int .i64 h1) = w1 at hB1 hg1 ⊢
  obtain ⟨d0, d1, d2, hf1⟩ := cur_cells (x := .slice a len cap) (y := .int .i64 i) (z := .int .i64 h1) hB1
  clear c0 c1 c2 f2 hB hf1
  have HB1 := Lib.hid hB1
  clear hB1
  go_quiet (fail)
  go_wp2
  generalize hx : bits .and .i64 (bits .xor .i64 (h1 / 8589934592) (h1 / 35184372088832)) 255 = x
  have hxb : 0 ≤ x ∧ x ≤ 255 := by rw [← hx, and255]; omega
  clear hx
  go_quiet (fail)
  go_wp2
  go_ret
  exact ⟨x, rfl, hxb.1, hxb.2, ⟨i, h1, hil, hb1.1, hb1.2, HB1.out⟩, grown_drewN (grown_drewN hg1 _) _⟩

set_option maxRecDepth 100000 in
set_option maxHeartbeats 3200000 in
theorem byte_some (B : Nat) (b off len cap : Nat) (zs : List Int) (i : Nat) (h : Int) (w : World) (hi : i < len) (hcap : len ≤ cap) (hmax : cap ≤ 9223372036854775807) (hz : zs.length = cap)
    (hcell : ∀ j, j < zs.length → w.cell? ⟨b, off + j, none⟩ = some (.int .u8 (zs.getD j 0))) (hzb : ∀ n ∈ zs, 0 ≤ n ∧ n ≤ 255) (hne : b ≠ B)
    (hB : w.heap[B]? = some (.cells #[.slice (some ⟨b, off, none⟩) len cap, .int .i64 i, .int .i64 h] 88 (0, 0))) :
    Calls Tryz.prog 102 #[.pointer (some ⟨B, 0, none⟩)] w fun e w' => ∃ x : Int, e = .returned (.int .i64 x) ∧ 0 ≤ x ∧ x ≤ 255 ∧ Cur w' B (.slice (some ⟨b, off, none⟩) len cap) len ∧ w.grownBy w' (some B) := by
  obtain ⟨c0, c1, c2, hf⟩ := cur_cells hB
  have f2 := hf 2
  clear hf
  have hiI : (i : Int) < (len : Int) := by omega
  have hi0 : 0 ≤ (i : Int) := by omega
  have hiz : i < zs.length := by omega
  have hc := hcell i hiz
  obtain ⟨z, hzd⟩ : ∃ z, zs.getD i 0 = z := ⟨_, rfl⟩
  have hz0 : 0 ≤ z ∧ z ≤ 255 := by
    rw [← hzd, List.getD_eq_getElem?_getD, List.getElem?_eq_getElem hiz]
    exact hzb _ (List.getElem_mem hiz)
  rw [hzd] at hc
  clear hcell hzd hzb hz hiz
  go_enter Tryz.func102, Tryz.ntmps102
  go_wp2
  generalize hh1 : wrap64 (wrap64 (h * 6364136223846793005) + 1442695040888963407) = h1
  have hb1 : -9223372036854775808 ≤ h1 ∧ h1 ≤ 9223372036854775807 := by rw [← hh1]; exact wrap64_bd _
  clear hh1
  obtain ⟨hB1, hg1⟩ := cur_set (.int .i64 h1) 2 hB
  have hcz : (w.setCell ⟨B, 2, none⟩ (.int .i64 h1)).cell? ⟨b, off + i, none⟩ = some (.int .u8 z) := hg1.cell hc (by simp; exact hne)
  generalize w.setCell ⟨B, 2, none⟩ (.int .i64 h1) = w1 at hB1 hg1 hcz ⊢
  obtain ⟨d0, d1, d2, hf1⟩ := cur_cells (x := .slice (some ⟨b, off, none⟩) len cap) (y := .int .i64 i) (z := .int .i64 h1) hB1
  have f1 := hf1 1
  clear c0 c1 c2 f2 hB hf1 hc
  have HB1 := Lib.hid hB1
  have HG1 := Lib.hid hg1
  clear hB1 hg1
  go_quiet (fail)
  go_wp2
  generalize hx : bits .and .i64 (bits .xor .i64 (h1 / 8589934592) (h1 / 35184372088832)) 255 = x
  have hxb : 0 ≤ x ∧ x ≤ 255 := by rw [← hx, and255]; omega
  clear hx
  go_quiet (fail)
  go_wp2
  go_quiet (fail)
  go_wp2
  go_ret
  obtain ⟨hB2, hg2⟩ := cur_set (w := w1.drewN _) (.int .i64 ((i : Int) + 1)) 1 HB1.out
  exact ⟨_, rfl, by rw [and255]; omega, by rw [and255]; omega, ⟨i + 1, h1, by omega, hb1.1, hb1.2, hB2⟩, grown_two (grown_drewN HG1.out _) hg2⟩

theorem Bytes.on {base B : Nat} {w w' : World} {v : Value} {len : Nat} (h : Bytes base w v len) (hb : base ≤ B) (hg : w.grownBy w' (some B)) : Bytes base w' v len := by
  rcases h with h | ⟨b, off, cap, zs, hv, h1, h2, h3, h4, h5, h6⟩
  · exact .inl h
  · exact .inr ⟨b, off, cap, zs, hv, h1, h2, h3, h4, fun i hi => hg.cell (h5 i hi) (by simp; omega), h6⟩
theorem Bytes.below {base : Nat} {w w' : World} {v : Value} {len : Nat} (h : Bytes base w v len) (hb : Below base w w') : Bytes base w' v len := by
  rcases h with h | ⟨b, off, cap, zs, hv, h1, h2, h3, h4, h5, h6⟩
  · exact .inl h
  · exact .inr ⟨b, off, cap, zs, hv, h1, h2, h3, h4, fun i hi => (hb.cell (p := ⟨b, off + i, none⟩) h4).trans (h5 i hi), h6⟩

/-- A cursor that can be asked: where it lies, and the bytes that it reads. -/
def Able (base : Nat) (w : World) (B : Nat) : Prop := base ≤ B ∧ ∃ v len, Bytes base w v len ∧ Cur w B v len
theorem Able.on {base B : Nat} {w w' : World} (h : Able base w B) (row : Option Nat) (hr : row ≠ some B) (hb : ∀ k, row = some k → base ≤ k) (hg : w.grownBy w' row) : Able base w' B := by
  obtain ⟨h1, v, len, hy, i, hh, a, b, c, hB⟩ := h
  refine ⟨h1, v, len, ?_, i, hh, a, b, c, ?_⟩
  · rcases hy with hy | ⟨b, off, cap, zs, hv, g1, g2, g3, g4, g5, g6⟩
    · exact .inl hy
    · exact .inr ⟨b, off, cap, zs, hv, g1, g2, g3, g4, fun i hi => hg.cell (g5 i hi) (fun e => by have := hb b e.symm; omega), g6⟩
  · rw [hg.block B (Array.getElem?_eq_some_iff.1 hB).1 (fun e => hr e.symm)]
    exact hB

theorem byte_any (base B : Nat) (w : World) (h : Able base w B) :
    Calls Tryz.prog 102 #[.pointer (some ⟨B, 0, none⟩)] w fun e w' => ∃ x : Int, e = .returned (.int .i64 x) ∧ 0 ≤ x ∧ x ≤ 255 ∧ Able base w' B ∧ w.grownBy w' (some B) := by
  obtain ⟨hbase, v, len, hy, i, hh, a, b, c, hB⟩ := h
  have hy0 := hy
  have key : Calls Tryz.prog 102 #[.pointer (some ⟨B, 0, none⟩)] w fun e w' => ∃ x : Int, e = .returned (.int .i64 x) ∧ 0 ≤ x ∧ x ≤ 255 ∧ Cur w' B v len ∧ w.grownBy w' (some B) := by
    rcases hy with ⟨⟨a', cap, rfl⟩, rfl⟩ | ⟨b', off, cap, zs, rfl, g1, g2, g3, g4, g5, g6⟩
    · exact byte_end B a' 0 cap i hh w (by omega) (by omega) hB
    · by_cases hi : i < len
      · exact byte_some B b' off len cap zs i hh w hi g1 (by unfold maxLen at g2; omega) g3 g5 g6 (by omega) hB
      · exact byte_end B _ len cap i hh w hi a hB
  refine key.mono fun e w' ⟨x, he, h0, h1, hc, hg⟩ => ⟨x, he, h0, h1, ⟨hbase, v, len, hy0.on hbase hg, hc⟩, hg⟩

/-- A number that was drawn: what the walk is told of it. -/
def Drawn (base B : Nat) (P : Int → Prop) (w : World) (e : Ending) (w' : World) : Prop := ∃ x : Int, e = .returned (.int .i64 x) ∧ P x ∧ Able base w' B ∧ w.grownBy w' (some B)

set_option maxHeartbeats 1600000 in
theorem below_any (base B : Nat) (n : Int) (w : World) (h : Hid (Able base w B)) (hn : 1 ≤ n) (hn2 : n ≤ 4000000000) :
    Calls Tryz.prog 78 #[.pointer (some ⟨B, 0, none⟩), .int .i64 n] w (Drawn base B (fun x => 0 ≤ x ∧ x < n) w) := by
  by_cases h256 : n ≤ 256
  · go_enter Tryz.func78, Tryz.ntmps78
    go_wp2_with fail
    refine (byte_any base B _ h.out).mono ?_
    rintro e w1 ⟨x, rfl, x0, x1, ha, hg⟩
    have HA := Lib.hid ha
    have HG := Lib.hid hg
    clear ha hg
    go_wp2
    go_ret
    exact ⟨_, rfl, ⟨Int.emod_nonneg _ (by omega), Int.emod_lt_of_pos _ (by omega)⟩, HA.out, HG.out⟩
  · go_enter Tryz.func78, Tryz.ntmps78
    go_wp2_with fail
    refine (byte_any base B _ h.out).mono ?_
    rintro e w1 ⟨x, rfl, x0, x1, ha1, hg1⟩
    have HA1 := Lib.hid ha1
    have HG1 := Lib.hid hg1
    clear ha1 hg1
    go_wp2_with fail
    refine (byte_any base B _ HA1.out).mono ?_
    rintro e w2 ⟨y, rfl, y0, y1, ha2, hg2⟩
    have HA2 := Lib.hid ha2
    have HG2 := Lib.hid (grown_two HG1.out hg2)
    clear ha2 hg2
    go_wp2_with fail
    refine (byte_any base B _ HA2.out).mono ?_
    rintro e w3 ⟨z, rfl, z0, z1, ha3, hg3⟩
    have HA3 := Lib.hid ha3
    have HG3 := Lib.hid (grown_two HG2.out hg3)
    clear ha3 hg3
    go_wp2_with fail
    refine (byte_any base B _ HA3.out).mono ?_
    rintro e w4 ⟨u, rfl, u0, u1, ha4, hg4⟩
    have HA4 := Lib.hid ha4
    have HG4 := Lib.hid (grown_two HG3.out hg4)
    clear ha4 hg4
    go_wp2
    go_ret
    exact ⟨_, rfl, ⟨Int.emod_nonneg _ (by omega), Int.emod_lt_of_pos _ (by omega)⟩, HA4.out, HG4.out⟩

def Fits (x : Int) : Prop := -9223372036854775808 ≤ x ∧ x ≤ 9223372036854775807

set_option maxHeartbeats 800000 in
theorem pick_any (base B L n : Nat) (w : World) (h : Hid (Able base w B)) (hn : 1 ≤ n) (hn2 : n ≤ 1000) (hL : L ≠ B) (hcell : Hid (∀ j, j < n → ∃ y, w.cell? ⟨L, j, none⟩ = some (.int .i64 y) ∧ Fits y)) :
    Calls Tryz.prog 77 #[.pointer (some ⟨B, 0, none⟩), .slice (some ⟨L, 0, none⟩) n n] w (Drawn base B Fits w) := by
  go_enter Tryz.func77, Tryz.ntmps77
  go_wp2_with fail
  refine (below_any base B n _ h (by omega) (by omega)).mono ?_
  rintro e w1 ⟨x, rfl, ⟨x0, x1⟩, ha, hg⟩
  obtain ⟨k, rfl⟩ := Int.eq_ofNat_of_zero_le x0
  obtain ⟨y, hy, hf⟩ := hcell.out k (by omega)
  have hc := hg.cell hy (by simp; exact hL)
  have HA := Lib.hid ha
  have HG := Lib.hid hg
  clear ha hg hy
  go_wp2
  go_ret
  exact ⟨y, rfl, hf, HA.out, HG.out⟩

def fitB : Value → Bool
  | .int .i64 y => decide (-9223372036854775808 ≤ y) && decide (y ≤ 9223372036854775807)
  | _ => false
theorem fitB_spec {v : Value} (h : fitB v = true) : ∃ y, v = .int .i64 y ∧ Fits y := by
  unfold fitB at h
  split at h
  · rename_i y
    simp at h
    exact ⟨y, rfl, h.1, h.2⟩
  · cases h
theorem new_fits (w : World) (cs : Array Value) (T : TypeId) (n : Nat) (hn : cs.size = n) (h : cs.all fitB = true) : ∀ j, j < n → ∃ y, (w.alloc (.cells cs T)).cell? ⟨w.heap.size, j, none⟩ = some (.int .i64 y) ∧ Fits y := by
  intro j hj
  have hj' : j < cs.size := by omega
  obtain ⟨y, hy, hf⟩ := fitB_spec (by have := Array.all_eq_true.1 h j hj'; exact this)
  refine ⟨y, ?_, hf⟩
  rw [cell_of_row _ w.heap.size j cs T (0, 0) (heap_alloc_new w _), Array.getElem?_eq_getElem hj', hy]

theorem grown_alloc {w : World} (o : Obj) (B : Option Nat) : w.grownBy (w.alloc o) B := World.grownBy_alloc w o B

/-- A text that was drawn. -/
def DrawnT (base B most : Nat) (w : World) (e : Ending) (w' : World) : Prop := ∃ l : List UInt8, e = .returned (.string ⟨l.toArray⟩) ∧ l.length ≤ most ∧ Able base w' B ∧ w.grownBy w' (some B)

/-- An append to a row of the call's own, seen from the world ahead of the call. -/
theorem grown_own {w wr w1 : World} {B : Nat} {e : TypeId} {v : Value} {n : Nat} {xs : List Value} {o : Obj} (hg : w.grownBy wr (some B)) (hown : wr.ownsRow w.heap.size e 1 v n xs) (hg1 : (wr.alloc o).grownBy w1 v.ownBlock) : w.grownBy w1 (some B) := by
  have hs := hg.size
  have hz : (wr.alloc o).heap.size = wr.heap.size + 1 := by simp
  have hs1 := hg1.size
  refine ⟨hg1.os.trans hg.os, hg1.tape.trans hg.tape, hg1.output.trans hg.output, by omega, fun k hk hb => ?_⟩
  rw [hg1.block k (by omega) (fun e => by have := (hown.lt k e.symm).1; omega), Below.heap_alloc _ _ _ (by omega)]
  exact hg.block k hk hb
theorem able_own {base B : Nat} {w wr w1 : World} {e : TypeId} {v : Value} {n : Nat} {xs : List Value} {o : Obj} (h : Able base wr B) (hB : B < w.heap.size) (hbw : base ≤ w.heap.size) (hown : wr.ownsRow w.heap.size e 1 v n xs) (hg1 : (wr.alloc o).grownBy w1 v.ownBlock) : Able base w1 B :=
  (h.on none (by simp) (by simp) (grown_alloc o _)).on v.ownBlock (fun e => by have := (hown.lt B e).1; omega) (fun k hk => by have := (hown.lt k hk).1; omega) hg1
theorem own_kept {base B : Nat} {wr w1 : World} {e : TypeId} {v : Value} {n : Nat} {xs : List Value} (hown : wr.ownsRow base e 1 v n xs) (hB : B < base) (hg : wr.grownBy w1 (some B)) : w1.ownsRow base e 1 v n xs :=
  hown.kept hg (by
    cases hv : v.ownBlock with
    | none => exact .inl rfl
    | some k => exact .inr (fun e => by have := (hown.lt k hv).1; have := Option.some.inj e; omega))

end Go.Proofs.YtffbiflgmlabaaaGreatDoor.C

namespace Go.Proofs.YtffbiflgmlabaaaGreatDoor.C
open Go.RowKit M K
set_option linter.unusedVariables false

/-- A new cursor. -/
def DrawnC (w : World) (e : Ending) (w' : World) : Prop := e = .returned (.pointer (some ⟨w.heap.size, 0, none⟩)) ∧ Able w.heap.size w' w.heap.size ∧ Below w.heap.size w w'

theorem and_fits (x y : Int) : Fits (bits .and .i64 x y) := ⟨bits_lo_i64 .and x y, bits_hi_i64 .and x y⟩

theorem made_cur (w : World) (v : Value) (len : Nat) (h : Int) (hy : Bytes w.heap.size w v len) (hf : Fits h) :
    Able w.heap.size (w.alloc (.cells #[v, .int .i64 0, .int .i64 h] 88)) w.heap.size ∧ Below w.heap.size w (w.alloc (.cells #[v, .int .i64 0, .int .i64 h] 88)) := by
  have hb : Below w.heap.size w (w.alloc (.cells #[v, .int .i64 0, .int .i64 h] 88)) := (Below.refl _ _).alloc (Nat.le_refl _) _
  exact ⟨⟨Nat.le_refl _, v, len, hy.below hb, 0, h, Nat.zero_le _, hf.1, hf.2, heap_alloc_new w _⟩, hb⟩

set_option maxRecDepth 100000 in
set_option maxHeartbeats 1600000 in
theorem new_nil (a : Option Addr) (cap : Nat) (w : World) : Calls Tryz.prog 54 #[.slice a 0 cap] w (DrawnC w) := by
  have hc := made_cur w (.slice a 0 cap) 0 10101 (.inl ⟨⟨a, cap, rfl⟩, rfl⟩) ⟨by decide, by decide⟩
  have HC := Lib.hid hc
  clear hc
  go_enter Tryz.func54, Tryz.ntmps54
  go_wp2
  go_loop [3, 4] (fun h c => h = .int .i64 10101 ∧ c = .int .i64 0) (fun _ _ => 0)
  case atStart => exact ⟨rfl, rfl⟩
  case round =>
    obtain ⟨rfl, rfl⟩ := hrel
    go_wp2
    go_ret
    exact ⟨rfl, HC.out.1, HC.out.2⟩

set_option maxRecDepth 100000 in
set_option maxHeartbeats 1600000 in
theorem new_some (b off len cap : Nat) (zs : List Int) (w : World) (hcap : len ≤ cap) (hmax : cap ≤ 9223372036854775807) (hl : len ≤ 1048576) (hz : zs.length = cap) (hb : b < w.heap.size)
    (hcell : Hid (∀ j, j < zs.length → w.cell? ⟨b, off + j, none⟩ = some (.int .u8 (zs.getD j 0)))) (hzb : Hid (∀ n ∈ zs, 0 ≤ n ∧ n ≤ 255)) :
    Calls Tryz.prog 54 #[.slice (some ⟨b, off, none⟩) len cap] w (DrawnC w) := by
  have hy : Bytes w.heap.size w (.slice (some ⟨b, off, none⟩) len cap) len := .inr ⟨b, off, cap, zs, rfl, hcap, hmax, hz, hb, hcell.out, hzb.out⟩
  have HY := Lib.hid hy
  clear hy
  go_enter Tryz.func54, Tryz.ntmps54
  go_wp2
  go_loop [3, 4] (fun h c => ∃ (x : Int) (i : Nat), h = .int .i64 x ∧ Fits x ∧ c = .int .i64 i ∧ i ≤ len ∧ i ≤ 4000) (fun _ c => len - (intOf c).toNat)
  case atStart => exact ⟨_, 0, rfl, ⟨by omega, by omega⟩, rfl, Nat.zero_le _, Nat.zero_le _⟩
  case round =>
    obtain ⟨x, i, rfl, hx, rfl, hi1, hi2⟩ := hrel
    by_cases hin : i < len ∧ i < 4000
    · obtain ⟨g1, g2⟩ := hin
      have hiz : i < zs.length := by omega
      have hc := hcell.out i hiz
      have HX := Lib.hid hx
      clear hx
      generalize zs.getD i 0 = z at hc
      go_wp2
      go_round
      case rel => exact ⟨_, i + 1, rfl, and_fits _ _, by go_num, by omega, by omega⟩
      case measure => simp [intOf]; omega
    · have hi3 : i = len ∨ i = 4000 := by omega
      have hc := made_cur w (.slice (some ⟨b, off, none⟩) len cap) len x HY.out hx
      have HC := Lib.hid hc
      clear hc hin
      go_wp2
      all_goals
        go_ret
        exact ⟨rfl, HC.out.1, HC.out.2⟩

theorem new_any (v : Value) (len : Nat) (w : World) (hl : len ≤ 1048576) (hy : Bytes w.heap.size w v len) : Calls Tryz.prog 54 #[v] w (DrawnC w) := by
  rcases hy with ⟨⟨a, cap, rfl⟩, rfl⟩ | ⟨b, off, cap, zs, rfl, h1, h2, h3, h4, h5, h6⟩
  · exact new_nil a cap w
  · exact new_some b off len cap zs w h1 (by unfold maxLen at h2; omega) hl h3 h4 (Lib.hid h5) (Lib.hid h6)

/-- What is made by the call, and a block of the call's own that is written: nothing that was there has turned. -/
theorem below_cur {w w1 w2 : World} (h : Below w.heap.size w w1) (hg : w1.grownBy w2 (some w.heap.size)) : Below w.heap.size w w2 :=
  h.grown hg h.size (fun k hk => by cases hk; exact Nat.le_refl _)

def GotI (w : World) (e : Ending) (w' : World) : Prop := ∃ x : Int, e = .returned (.int .i64 x) ∧ Fits x ∧ Below w.heap.size w w'
def GotT (most : Nat) (w : World) (e : Ending) (w' : World) : Prop := ∃ l : List UInt8, e = .returned (.string ⟨l.toArray⟩) ∧ l.length ≤ most ∧ Below w.heap.size w w'
def GotII (w : World) (e : Ending) (w' : World) : Prop := ∃ x y : Int, e = .returned (.tuple #[.int .i64 x, .int .i64 y]) ∧ Fits x ∧ -1 ≤ y ∧ y ≤ 8 ∧ Below w.heap.size w w'

end Go.Proofs.YtffbiflgmlabaaaGreatDoor.C

namespace Go.Proofs.YtffbiflgmlabaaaGreatDoor.C
open Go.RowKit M K
set_option linter.unusedVariables false
set_option linter.unusedSimpArgs false

theorem _root_.Go.Proofs.YtffbiflgmlabaaaGreatDoor.K.bx_heap {w : World} {lo g : Nat} {t : TypeId} {cs : List Value} (h : w.ownsRow lo t cs.length (.slice (some ⟨g, 0, none⟩) 1 1) 1 cs) : w.heap[g]? = some (.cells ⟨cs⟩ t (0, 0)) := by
  rcases h.2 with ⟨h', _⟩ | ⟨g', cap, cur, hv, _, hg, _, _, hs, ht⟩
  · cases h'
  · injection hv with h1 h2 h3
    injection h1 with h1
    injection h1 with h1
    subst h1 h3
    rw [hg]
    have : cur.toList = cs := by
      rw [← ht, List.take_of_length_le]
      rw [Array.length_toList, hs]
      omega
    rw [← this]
theorem _root_.Go.Proofs.YtffbiflgmlabaaaGreatDoor.K.bx_own {w : World} {lo g : Nat} {t : TypeId} {cs : List Value} (hg : w.heap[g]? = some (.cells ⟨cs⟩ t (0, 0))) (hl : lo ≤ g) : w.ownsRow lo t cs.length (.slice (some ⟨g, 0, none⟩) 1 1) 1 cs :=
  ⟨by omega, .inr ⟨g, 1, ⟨cs⟩, rfl, hl, hg, Nat.le_refl _, by unfold maxLen; omega, by simp, List.take_of_length_le (by simp)⟩⟩

/-- A new cursor. -/
def NewCur (v : Value) (len : Nat) (w : World) (e : Ending) (w' : World) : Prop := e = .returned (.pointer (some ⟨w.heap.size, 0, none⟩)) ∧ ∃ i h, i ≤ len ∧ -9223372036854775808 ≤ h ∧ h ≤ 9223372036854775807 ∧ w'.heap[w.heap.size]? = some (.cells #[v, .int .i64 i, .int .i64 h] 88 (0, 0)) ∧ Below w.heap.size w w'

theorem made_cur2 (w : World) (v : Value) (h : Int) : (w.alloc (.cells #[v, .int .i64 0, .int .i64 h] 88)).heap[w.heap.size]? = some (.cells #[v, .int .i64 (0 : Nat), .int .i64 h] 88 (0, 0)) ∧ Below w.heap.size w (w.alloc (.cells #[v, .int .i64 0, .int .i64 h] 88)) :=
  ⟨heap_alloc_new w _, (Below.refl _ _).alloc (Nat.le_refl _) _⟩

set_option maxRecDepth 100000 in
set_option maxHeartbeats 1600000 in
theorem new_nil2 (a : Option Addr) (cap : Nat) (w : World) : Calls Tryz.prog 54 #[.slice a 0 cap] w (NewCur (.slice a 0 cap) 0 w) := by
  have hc := made_cur2 w (.slice a 0 cap) 10101
  have HC := Lib.hid hc
  clear hc
  go_enter Tryz.func54, Tryz.ntmps54
  go_wp2
  go_loop [3, 4] (fun h c => h = .int .i64 10101 ∧ c = .int .i64 0) (fun _ _ => 0)
  case atStart => exact ⟨rfl, rfl⟩
  case round =>
    obtain ⟨rfl, rfl⟩ := hrel
    go_wp2
    go_ret
    exact ⟨rfl, 0, _, Nat.zero_le _, by omega, by omega, HC.out.1, HC.out.2⟩

set_option maxRecDepth 100000 in
set_option maxHeartbeats 1600000 in
theorem new_some2 (b off len cap : Nat) (zs : List Int) (w : World) (hcap : len ≤ cap) (hmax : cap ≤ 9223372036854775807) (hl : len ≤ 1048576) (hz : zs.length = cap) (hb : b < w.heap.size)
    (hcell : Hid (∀ j, j < zs.length → w.cell? ⟨b, off + j, none⟩ = some (.int .u8 (zs.getD j 0)))) (hzb : Hid (∀ n ∈ zs, 0 ≤ n ∧ n ≤ 255)) :
    Calls Tryz.prog 54 #[.slice (some ⟨b, off, none⟩) len cap] w (NewCur (.slice (some ⟨b, off, none⟩) len cap) len w) := by
  have hy : Bytes w.heap.size w (.slice (some ⟨b, off, none⟩) len cap) len := .inr ⟨b, off, cap, zs, rfl, hcap, hmax, hz, hb, hcell.out, hzb.out⟩
  have HY := Lib.hid hy
  clear hy
  go_enter Tryz.func54, Tryz.ntmps54
  go_wp2
  go_loop [3, 4] (fun h c => ∃ (x : Int) (i : Nat), h = .int .i64 x ∧ Fits x ∧ c = .int .i64 i ∧ i ≤ len ∧ i ≤ 4000) (fun _ c => len - (intOf c).toNat)
  case atStart => exact ⟨_, 0, rfl, ⟨by omega, by omega⟩, rfl, Nat.zero_le _, Nat.zero_le _⟩
  case round =>
    obtain ⟨x, i, rfl, hx, rfl, hi1, hi2⟩ := hrel
    by_cases hin : i < len ∧ i < 4000
    · obtain ⟨g1, g2⟩ := hin
      have hiz : i < zs.length := by omega
      have hc := hcell.out i hiz
      have HX := Lib.hid hx
      clear hx
      generalize zs.getD i 0 = z at hc
      go_wp2
      go_round
      case rel => exact ⟨_, i + 1, rfl, and_fits _ _, by go_num, by omega, by omega⟩
      case measure => simp [intOf]; omega
    · have hi3 : i = len ∨ i = 4000 := by omega
      obtain ⟨f1, f2⟩ := hx
      have hc := made_cur2 w (.slice (some ⟨b, off, none⟩) len cap) x
      have HC := Lib.hid hc
      clear hc hin
      go_wp2
      all_goals
        go_ret
        exact ⟨rfl, 0, _, Nat.zero_le _, by omega, by omega, HC.out.1, HC.out.2⟩

theorem new_cur (v : Value) (len : Nat) (w : World) (hl : len ≤ 1048576) (hy : Bytes w.heap.size w v len) : Calls Tryz.prog 54 #[v] w (NewCur v len w) := by
  rcases hy with ⟨⟨a, cap, rfl⟩, rfl⟩ | ⟨b, off, cap, zs, rfl, h1, h2, h3, h4, h5, h6⟩
  · exact new_nil2 a cap w
  · exact new_some2 b off len cap zs w h1 (by unfold maxLen at h2; omega) hl h3 h4 (Lib.hid h5) (Lib.hid h6)

/-- The cursor as a row. -/
def cu (B : Nat) (v : Value) (i : Nat) (h : Int) : Cel := bx B 88 [v, .int .i64 i, .int .i64 h]
/-- The memory of a call that draws: the cursor first, the other rows behind it. -/
def Dr (w0 : World) (v : Value) (len B : Nat) (w : World) (L : List Cel) : Prop := Bytes w0.heap.size w0 v len ∧ ∃ i h, i ≤ len ∧ Fits h ∧ St w0 w (cu B v i h :: L)


section

variable {w0 w w' : World} {v : Value} {len B : Nat} {L : List Cel}
theorem Dr.base (h : Dr w0 v len B w L) : Below w0.heap.size w0 w := by
  obtain ⟨_, i, x, _, _, hS⟩ := h
  exact hS.base
theorem Dr.rest (h : Dr w0 v len B w L) : St w0 w L := by
  obtain ⟨_, i, x, _, _, hS⟩ := h
  exact hS.drop 0
theorem Dr.lt (h : Dr w0 v len B w L) : w0.heap.size ≤ B ∧ B < w.heap.size := by
  obtain ⟨_, i, x, _, _, hS⟩ := h
  exact hS.lt (i := 0) rfl
/-- What keeps the cursor and makes of the rest another memory. -/
theorem Dr.map (h : Dr w0 v len B w L) {L' : List Cel} (f : ∀ c, St w0 w (c :: L) → St w0 w' (c :: L')) : Dr w0 v len B w' L' := by
  obtain ⟨hy, i, x, a, b, hS⟩ := h
  exact ⟨hy, i, x, a, b, f _ hS⟩
theorem St.swap {a b : Cel} (h : St w0 w (a :: b :: L)) : St w0 w (b :: a :: L) := by
  obtain ⟨h1, h2, h3⟩ := h
  refine ⟨h1, fun r hr => h2 r ?_, ?_⟩
  · simp only [List.mem_cons] at hr ⊢
    rcases hr with hr | hr | hr
    · exact .inr (.inl hr)
    · exact .inl hr
    · exact .inr (.inr hr)
  · obtain ⟨g1, g2⟩ := List.pairwise_cons.1 h3
    obtain ⟨g3, g4⟩ := List.pairwise_cons.1 g2
    refine .cons (fun q hq => ?_) (.cons (fun q hq => g1 q (List.mem_cons_of_mem _ hq)) g4)
    rcases List.mem_cons.1 hq with rfl | hq
    · intro k hk e
      exact g1 b List.mem_cons_self k e hk
    · exact g3 q hq
theorem Dr.alloc (h : Dr w0 v len B w L) (l : List Value) (t : TypeId) : Dr w0 v len B (w.alloc (.cells ⟨l⟩ t)) (bx w.heap.size t l :: L) := h.map fun c hS => St.swap (hS.alloc l t)
theorem Dr.drewN (h : Dr w0 v len B w L) (n : Nat) : Dr w0 v len B (w.drewN n) L := h.map fun c hS => hS.drewN n
theorem Dr.drew (h : Dr w0 v len B w L) : Dr w0 v len B w.drew L := h.map fun c hS => hS.drew
theorem Dr.below (h : Dr w0 v len B w L) (hb : Below w.heap.size w w') : Dr w0 v len B w' L := h.map fun c hS => hS.below hb
theorem Dr.newI {y : Value} {xs : List Int} (h : Dr w0 v len B w L) (hb : Below w.heap.size w w') (ho : Own w' w.heap.size y xs) : Dr w0 v len B w' (il y xs.length xs :: L) := h.map fun c hS => St.swap (hS.newI hb ho)
theorem Dr.empty (h : Dr w0 v len B w L) : Dr w0 v len B (w.alloc (.cells #[] 3)) (il (.slice (some ⟨w.heap.size, 0, none⟩) 0 0) 0 [] :: L) := h.map fun c hS => St.swap hS.empty
theorem Dr.able (h : Dr w0 v len B w L) : Able w0.heap.size w B := by
  obtain ⟨hy, i, x, a, b, hS⟩ := h
  exact ⟨(hS.lt (i := 0) rfl).1, v, len, hy.below hS.base, i, x, a, b.1, b.2, bx_heap (hS.own (i := 0) rfl)⟩
theorem Bytes.len_eq {base base' : Nat} {w w' : World} {v : Value} {len len' : Nat} (h : Bytes base w v len) (h' : Bytes base' w' v len') : len = len' := by
  rcases h with ⟨⟨a, cap, rfl⟩, rfl⟩ | ⟨b, off, cap, zs, rfl, _⟩ <;> rcases h' with ⟨⟨a', cap', e⟩, rfl⟩ | ⟨b', off', cap', zs', e, _⟩ <;> (injection e with e1 e2) <;> omega

end


/-- A number that was drawn. -/
def DrI (w0 : World) (v : Value) (len B : Nat) (L : List Cel) (P : Int → Prop) (e : Ending) (w' : World) : Prop := ∃ x : Int, e = .returned (.int .i64 x) ∧ P x ∧ Dr w0 v len B w' L


section

variable {w0 w : World} {v : Value} {len B : Nat} {L : List Cel}
/-- What the elder contracts of the draws say, in the words of the rows. -/
theorem Dr.of_cur {w' : World} (h : Dr w0 v len B w L) (hc : Cur w' B v len) (hg : w.grownBy w' (some B)) : Dr w0 v len B w' L := by
  obtain ⟨hy, i, x, a, b, hS⟩ := h
  obtain ⟨i', x', a', b1, b2, hB⟩ := hc
  exact ⟨hy, i', x', a', ⟨b1, b2⟩, hS.mark (i := 0) (r := cu B v i x) rfl hg (bx_own hB (hS.lt (i := 0) rfl).1)⟩

theorem byte_dr (h : Dr w0 v len B w L) :
    Calls Tryz.prog 102 #[.pointer (some ⟨B, 0, none⟩)] w (DrI w0 v len B L (fun x => 0 ≤ x ∧ x ≤ 255)) := by
  have h0 := h
  obtain ⟨hy, i, x, a, b, hS⟩ := h
  have hB : w.heap[B]? = some (.cells #[v, .int .i64 i, .int .i64 x] 88 (0, 0)) := bx_heap (hS.own (i := 0) rfl)
  have hlt := (hS.lt (i := 0) rfl).1
  have hy2 := hy.below hS.base
  have key : Calls Tryz.prog 102 #[.pointer (some ⟨B, 0, none⟩)] w fun e w' => ∃ x : Int, e = .returned (.int .i64 x) ∧ 0 ≤ x ∧ x ≤ 255 ∧ Cur w' B v len ∧ w.grownBy w' (some B) := by
    rcases hy2 with ⟨⟨a', cap, rfl⟩, rfl⟩ | ⟨b', off, cap, zs, rfl, g1, g2, g3, g4, g5, g6⟩
    · exact byte_end B a' 0 cap i x w (by omega) (by omega) hB
    · by_cases hi : i < len
      · exact byte_some B b' off len cap zs i x w hi g1 (by unfold maxLen at g2; omega) g3 g5 g6 (by omega) hB
      · exact byte_end B _ len cap i x w hi a hB
  exact key.mono fun e w' ⟨y, he, y0, y1, hc, hg⟩ => ⟨y, he, ⟨y0, y1⟩, h0.of_cur hc hg⟩

set_option maxHeartbeats 1600000 in
theorem below_dr (n : Int) (h : Hid (Dr w0 v len B w L)) (hn : 1 ≤ n) (hn2 : n ≤ 4000000000) :
    Calls Tryz.prog 78 #[.pointer (some ⟨B, 0, none⟩), .int .i64 n] w (DrI w0 v len B L (fun x => 0 ≤ x ∧ x < n)) := by
  by_cases h256 : n ≤ 256
  · go_enter Tryz.func78, Tryz.ntmps78
    go_wp2_with fail
    refine (byte_dr h.out).mono ?_
    rintro e w1 ⟨x, rfl, ⟨x0, x1⟩, hd⟩
    have HD := Lib.hid hd
    clear hd
    go_wp2
    go_ret
    exact ⟨_, rfl, ⟨Int.emod_nonneg _ (by omega), Int.emod_lt_of_pos _ (by omega)⟩, HD.out⟩
  · go_enter Tryz.func78, Tryz.ntmps78
    go_wp2_with fail
    refine (byte_dr h.out).mono ?_
    rintro e w1 ⟨x, rfl, ⟨x0, x1⟩, hd⟩
    have HD := Lib.hid hd
    clear hd
    go_wp2_with fail
    refine (byte_dr HD.out).mono ?_
    rintro e w2 ⟨y, rfl, ⟨y0, y1⟩, hd⟩
    have HD2 := Lib.hid hd
    clear hd
    go_wp2_with fail
    refine (byte_dr HD2.out).mono ?_
    rintro e w3 ⟨z, rfl, ⟨z0, z1⟩, hd⟩
    have HD3 := Lib.hid hd
    clear hd
    go_wp2_with fail
    refine (byte_dr HD3.out).mono ?_
    rintro e w4 ⟨u, rfl, ⟨u0, u1⟩, hd⟩
    have HD4 := Lib.hid hd
    clear hd
    go_wp2
    go_ret
    exact ⟨_, rfl, ⟨Int.emod_nonneg _ (by omega), Int.emod_lt_of_pos _ (by omega)⟩, HD4.out⟩

/-- A bool that was drawn. -/
def DrB (w0 : World) (v : Value) (len B : Nat) (L : List Cel) (e : Ending) (w' : World) : Prop := ∃ b : Bool, e = .returned (.bool b) ∧ Dr w0 v len B w' L

theorem once_dr (n : Int) (h : Hid (Dr w0 v len B w L)) (hn : 1 ≤ n) (hn2 : n ≤ 4000000000) :
    Calls Tryz.prog 76 #[.pointer (some ⟨B, 0, none⟩), .int .i64 n] w (DrB w0 v len B L) := by
  go_enter Tryz.func76, Tryz.ntmps76
  go_wp2_with fail
  refine (below_dr n h hn hn2).mono ?_
  rintro e w1 ⟨x, rfl, ⟨x0, x1⟩, hd⟩
  have HD := Lib.hid hd
  clear hd
  go_wp2
  go_ret
  exact ⟨_, rfl, HD.out⟩

/-- A number of a list that lies beside the cursor. -/
theorem pick_dr (A n m : Nat) (xs : List Int) (h : Hid (Dr w0 v len B w (il (.slice (some ⟨A, 0, none⟩) n m) n xs :: L))) (hn : 1 ≤ n) (hn2 : n ≤ 1000) :
    Calls Tryz.prog 77 #[.pointer (some ⟨B, 0, none⟩), .slice (some ⟨A, 0, none⟩) n m] w (DrI w0 v len B L (fun x => x ∈ xs)) := by
  go_enter Tryz.func77, Tryz.ntmps77
  go_wp2_with fail
  refine (below_dr n h (by omega) (by omega)).mono ?_
  rintro e w1 ⟨x, rfl, ⟨x0, x1⟩, hd⟩
  obtain ⟨k, rfl⟩ := Int.eq_ofNat_of_zero_le x0
  have hk : k < n := by omega
  obtain ⟨c1, -⟩ := hd.rest.cellI (i := 0) rfl hk
  have hl : xs.length = n := OwnN.len (hd.rest.own (i := 0) rfl)
  have hm : xs.getD k 0 ∈ xs := by
    rw [List.getD_eq_getElem?_getD, List.getElem?_eq_getElem (by omega)]
    exact List.getElem_mem (by omega)
  have HD := Lib.hid (hd.map fun c hS => hS.drop 1)
  generalize xs.getD k 0 = y at c1 hm
  clear hd
  go_wp2
  go_ret
  exact ⟨y, rfl, hm, HD.out⟩

/-- A cursor is made. -/
theorem new_dr (v : Value) (len : Nat) (w : World) (hl : len ≤ 1048576) (hy : Bytes w.heap.size w v len) :
    Calls Tryz.prog 54 #[v] w fun e w' => e = .returned (.pointer (some ⟨w.heap.size, 0, none⟩)) ∧ Dr w v len w.heap.size w' [] := by
  refine (new_cur v len w hl hy).mono ?_
  rintro e w' ⟨rfl, i, x, a, b1, b2, hB, hb⟩
  refine ⟨rfl, hy, i, x, a, ⟨b1, b2⟩, hb, fun r hr => ?_, by simp⟩
  obtain rfl : r = cu w.heap.size v i x := by simpa using hr
  exact bx_own hB (Nat.le_refl _)

end


end Go.Proofs.YtffbiflgmlabaaaGreatDoor.C

namespace Go.Proofs.YtffbiflgmlabaaaGreatDoor.C
open Go.RowKit M K
set_option linter.unusedVariables false
set_option linter.unusedSimpArgs false

/-- A list that was drawn. -/
def DrL (w0 : World) (v : Value) (len B : Nat) (L : List Cel) (P : List Int → Prop) (e : Ending) (w' : World) : Prop := ∃ (A : Option Addr) (c : Nat) (xs : List Int), e = .returned (.slice A xs.length c) ∧ P xs ∧ Dr w0 v len B w' (il (.slice A xs.length c) xs.length xs :: L)
/-- A function that was drawn. -/
def DrF (w0 : World) (v : Value) (len B : Nat) (L : List Cel) (P : Int → List Int → Prop) (e : Ending) (w' : World) : Prop := ∃ (n : Int) (A : Option Addr) (c : Nat) (xs : List Int), e = .returned (.agg #[.int .i64 n, .slice A xs.length c]) ∧ P n xs ∧ Dr w0 v len B w' (il (.slice A xs.length c) xs.length xs :: L)

theorem p2_nat {n : Nat} (h : n ≤ 5) : 1 ≤ 2 ^ n ∧ 2 ^ n ≤ 32 := ⟨Nat.one_le_two_pow, Nat.le_trans (Nat.pow_le_pow_right (by decide) h) (by decide)⟩


section

variable {w0 : World} {v : Value} {len B : Nat} {L : List Cel} {w : World}

set_option maxRecDepth 100000 in
set_option maxHeartbeats 1600000 in
theorem size_dr (S : Nat) (w : World) (hS : S ≤ 1048576) : Calls Tryz.prog 112 #[.int .i64 S] w fun e w' => ∃ x : Int, e = .returned (.int .i64 x) ∧ ∃ q, w.drewN q = w' := by
  go_enter Tryz.func112, Tryz.ntmps112
  go_wp2
  go_loopw [3, 4] (fun n x wr => ∃ (c : Int) (X : Nat), n = .int .i64 c ∧ x = .int .i64 X ∧ X ≤ 1048576 ∧ ∃ q, w.drewN q = wr) (fun _ x _ => (intOf x).toNat)
  case atStart => exact ⟨0, S, rfl, rfl, hS, 0, rfl⟩
  case round =>
    obtain ⟨c, X, rfl, rfl, hX, q, rfl⟩ := hrel
    by_cases h0 : 0 < X
    · have h0i : (0 : Int) < (X : Int) := by omega
      have hdiv : ((X / 2 : Nat) : Int) = (X : Int) / 2 := by omega
      have HD := Lib.hid hdiv
      clear hdiv
      go_wp2
      go_roundw
      case rel => exact ⟨_, X / 2, rfl, by rw [HD.out], by omega, _, rfl⟩
      case measure => simp [intOf]; omega
    · obtain rfl : X = 0 := by omega
      go_wp2
      go_ret
      exact ⟨c, rfl, q, rfl⟩

set_option maxRecDepth 100000 in
set_option maxHeartbeats 4000000 in
theorem cover_dr (n : Nat) (h : Hid (Dr w0 v len B w L)) (hn : n ≤ 5) :
    Calls Tryz.prog 113 #[.pointer (some ⟨B, 0, none⟩), .int .i64 n] w (DrL w0 v len B L (fun xs => xs.length = 2 ^ n)) := by
  obtain ⟨p, hp⟩ : ∃ p, p = 2 ^ n := ⟨_, rfl⟩
  have hp32 := p2_nat hn
  have hsh := shl_one (n := (n : Int)) (m := p) (by omega) (by omega) (by rw [Int.toNat_natCast]; exact hp)
  rw [Int.toNat_natCast] at hsh
  rw [← hp] at hp32 ⊢
  obtain ⟨hp1, hp2⟩ := hp32
  clear hp
  obtain ⟨i0, hi, hz0, hz1, hz2⟩ := info_parts info_int
  go_enter Tryz.func113, Tryz.ntmps113
  go_wp2_with fail
  refine (below_dr 5 (Lib.hid (h.out.empty.empty)) (by omega) (by omega)).mono ?_
  rintro e w1 ⟨k, rfl, ⟨k0, k1⟩, hd⟩
  obtain ⟨K, rfl⟩ := Int.eq_ofNat_of_zero_le k0
  have HD := Lib.hid hd
  clear hd
  simp only [World.size_alloc] at HD
  go_wp2
  go_loopw [5, 6, 7] (fun a b c wr => ∃ (k q : Nat) (A A2 : Option Addr) (d d2 : Nat) (xs ys : List Int), c = .int .i64 k ∧ a = .slice A q d ∧ b = .slice A2 q d2 ∧ q + k ≤ 4 ∧ Dr w0 v len B wr (il (.slice A2 q d2) q ys :: il (.slice A q d) q xs :: L)) (fun _ _ c _ => (intOf c).toNat)
  case atStart => exact ⟨K, 0, _, _, _, _, [], [], rfl, rfl, rfl, by omega, HD.out⟩
  case round =>
    obtain ⟨k, q, A, A2, d, d2, xs, ys, rfl, rfl, rfl, hq, hD⟩ := hrel
    have HD := Lib.hid hD
    clear hD
    by_cases hk : 0 < k
    · have hki : (0 : Int) < (k : Int) := by omega
      go_wp2_with fail
      refine (below_dr 3 HD (by omega) (by omega)).mono ?_
      rintro e w2 ⟨x, rfl, ⟨x0, x1⟩, hd⟩
      have HD2 := Lib.hid hd
      clear hd HD
      go_wp2_with (at_builtin; obtain ⟨hy, ci, cx, ca, cb, hS⟩ := HD2.out; refine wpList_app1 rfl (.tmp 20) (.tmp 24) 24 rfl (1 + x) Tryz.underlying24 hi hz0 hz1 hz2 ((hS.alloc _ _).drop 0) (i := 2) rfl rfl rfl (by simp) (by omega) ?_; intro V' c' w3 hS3; have HD3 := Lib.hid (show Dr w0 v len B w3 _ from ⟨hy, ci, cx, ca, cb, hS3⟩); clear hS hS3 HD2 hy cb ca)
      go_wp2_with fail
      refine (below_dr (p : Int) HD3 (by omega) (by omega)).mono ?_
      rintro e w4 ⟨y, rfl, ⟨y0, y1⟩, hd⟩
      have HD4 := Lib.hid hd
      clear hd HD3
      go_wp2_with (at_builtin; obtain ⟨hy, ci, cx, ca, cb, hS⟩ := HD4.out; refine wpList_app1 rfl (.tmp 26) (.tmp 31) 24 rfl y Tryz.underlying24 hi hz0 hz1 hz2 ((hS.alloc _ _).drop 0) (i := 1) rfl rfl rfl (by simp) (by omega) ?_; intro V2 c2 w5 hS5; have HD5 := Lib.hid (show Dr w0 v len B w5 _ from ⟨hy, ci, cx, ca, cb, hS5⟩); clear hS hS5 HD4 hy cb ca)
      go_roundw
      case rel => exact ⟨k - 1, q + 1, V', V2, c', c2, xs ++ [1 + x], ys ++ [y], by go_num, rfl, rfl, by omega, HD5.out⟩
      case measure => simp [intOf]; omega
    · obtain rfl : k = 0 := by omega
      have hk : ¬ (0 : Int) < ((0 : Nat) : Int) := by omega
      go_wp2
      obtain ⟨wo, rfl⟩ : ∃ wo : World, wo = wr := ⟨_, rfl⟩
      go_loopw [8, 9] (fun a s wr => ∃ (j : Nat) (V : Option Addr) (e : Nat) (zs : List Int), s = .int .i64 j ∧ j ≤ p ∧ a = .slice V j e ∧ Dr w0 v len B wr (il (.slice V j e) j zs :: il (.slice A2 q d2) q ys :: il (.slice A q d) q xs :: L)) (fun _ s _ => p - (intOf s).toNat)
      case atStart => exact ⟨0, _, _, [], rfl, Nat.zero_le _, rfl, HD.out.empty⟩
      case round =>
        obtain ⟨j, V, e, zs, rfl, hj, rfl, hD⟩ := hrel
        have HE := Lib.hid hD
        clear hD
        by_cases hlt : j < p
        · have hji : (j : Int) < (p : Int) := by omega
          go_wp2
          obtain ⟨wo2, rfl⟩ : ∃ wo : World, wo = wr := ⟨_, rfl⟩
          go_loopw [10, 11] (fun x i wr => ∃ (X : Int) (c : Nat), x = .int .i64 X ∧ i = .int .i64 c ∧ c ≤ q ∧ Dr w0 v len B wr (il (.slice V j e) j zs :: il (.slice A2 q d2) q ys :: il (.slice A q d) q xs :: L)) (fun _ i _ => q - (intOf i).toNat)
          case atStart => exact ⟨0, 0, rfl, rfl, Nat.zero_le _, HE.out⟩
          case round =>
            obtain ⟨X, c, rfl, rfl, hc, hD⟩ := hrel
            have HF := Lib.hid hD
            by_cases hlt2 : c < q
            · have hci : (c : Int) < (q : Int) := by omega
              have hc0 : (0 : Int) ≤ (c : Int) := by omega
              obtain ⟨b1, o1, hA1, -, g1⟩ := (hD.rest.ints (i := 1) rfl).at_ (k := c) (by rw [OwnN.len (hD.rest.own (i := 1) rfl)]; exact hlt2)
              obtain ⟨b2, o2, hA2, -, g2⟩ := (hD.rest.ints (i := 2) rfl).at_ (k := c) (by rw [OwnN.len (hD.rest.own (i := 2) rfl)]; exact hlt2)
              subst hA1 hA2
              generalize ys.getD c 0 = y1 at g1
              generalize xs.getD c 0 = x1 at g2
              clear hD
              by_cases hz : (bits .and .i64 y1 (j : Int) != 0) = true
              · go_wp2
                go_roundw
                case rel => exact ⟨_, c + 1, rfl, by go_num, by omega, HF.out⟩
                case measure => simp [intOf]; omega
              · have hz : (bits .and .i64 y1 (j : Int) != 0) = false := by simpa using hz
                go_wp2
                go_roundw
                case rel => exact ⟨X, c + 1, rfl, by go_num, by omega, HF.out⟩
                case measure => simp [intOf]; omega
            · obtain rfl : c = q := by omega
              have hcq : ¬ (c : Int) < (c : Int) := by omega
              clear hD
              go_wp2_with (at_builtin; obtain ⟨hy, ci, cx, ca, cb, hS⟩ := HF.out; refine wpList_app1 rfl (.tmp 59) (.tmp 61) 24 rfl X Tryz.underlying24 hi hz0 hz1 hz2 ((hS.alloc _ _).drop 0) (i := 1) rfl rfl rfl (by simp) (by omega) ?_; intro V' c' w3 hS3; have HD3 := Lib.hid (show Dr w0 v len B w3 _ from ⟨hy, ci, cx, ca, cb, hS3⟩); clear hS hS3 HF hy cb ca)
              go_roundw
              case rel => exact ⟨j + 1, V', c', zs ++ [X], by go_num, by omega, rfl, HD3.out⟩
              case measure => simp [intOf]; omega
        · obtain rfl : j = p := by omega
          have hjp : ¬ (j : Int) < (j : Int) := by omega
          go_wp2
          go_ret
          have hl : zs.length = j := OwnN.len (HE.out.rest.own (i := 0) rfl)
          refine ⟨V, e, zs, by rw [hl]; rfl, hl, ?_⟩
          rw [hl]
          exact HE.out.map fun c hS => (hS.drop 2).drop 2

set_option maxRecDepth 100000 in
set_option maxHeartbeats 8000000 in
theorem draw_dr (most : Nat) (h : Hid (Dr w0 v len B w L)) (hm : most ≤ 5) :
    Calls Tryz.prog 99 #[.pointer (some ⟨B, 0, none⟩), .int .i64 most] w (DrF w0 v len B L (fun m xs => ∃ n : Nat, m = (n : Int) ∧ n ≤ 5 ∧ xs.length = 2 ^ n)) := by
  obtain ⟨i0, hi, hz0, hz1, hz2⟩ := info_parts info_int
  go_enter Tryz.func99, Tryz.ntmps99
  go_wp2_with fail
  refine (below_dr ((most : Int) + 1) (Lib.hid (h.out.alloc [.int .i64 0, .slice none 0 0] 26)) (by omega) (by omega)).mono ?_
  rintro e w1 ⟨x, rfl, ⟨x0, x1⟩, hd⟩
  obtain ⟨n, rfl⟩ := Int.eq_ofNat_of_zero_le x0
  have hn : n ≤ 5 := by omega
  obtain ⟨p, hp⟩ : ∃ p, p = 2 ^ n := ⟨_, rfl⟩
  obtain ⟨hp1, hp2⟩ := p2_nat hn
  have hsh := shl_one (n := (n : Int)) (m := p) (by omega) (by omega) (by rw [Int.toNat_natCast]; exact hp)
  rw [Int.toNat_natCast] at hsh
  rw [← hp] at hp1 hp2
  have HP := Lib.hid hp
  clear hp
  have HD := Lib.hid hd
  clear hd
  go_wp2_with fail
  refine (below_dr 5 (Lib.hid HD.out.empty) (by omega) (by omega)).mono ?_
  rintro e w2 ⟨t, rfl, ⟨t0, t1⟩, hd⟩
  have HD2 := Lib.hid hd
  clear hd
  by_cases e0 : t = 0
  · subst e0
    go_wp2
    go_loopw [6, 7] (fun a i wr => ∃ (j : Nat) (U : Option Addr) (d : Nat) (us : List Int), i = .int .i64 j ∧ j ≤ p ∧ a = .slice U j d ∧ Dr w0 v len B wr (il (.slice U j d) j us :: bx w.heap.size 26 [.int .i64 0, .slice none 0 0] :: L)) (fun _ i _ => p - (intOf i).toNat)
    case atStart => exact ⟨0, _, _, [], rfl, Nat.zero_le _, rfl, HD2.out⟩
    case round =>
      obtain ⟨j, U, d, us, rfl, hj, rfl, hD⟩ := hrel
      have HY := Lib.hid hD
      clear hD
      by_cases hlt : j < p
      · have hji : (j : Int) < (p : Int) := by omega
        go_wp2_with fail
        refine (below_dr 6 HY (by omega) (by omega)).mono ?_
        rintro e' w6 ⟨x, rfl, ⟨y0, y1⟩, hd⟩
        have HY2 := Lib.hid hd
        clear hd HY
        go_wp2_with (at_builtin; obtain ⟨hy, ci, cx, ca, cb, hS⟩ := HY2.out; refine wpList_app1 rfl (.tmp 32) (.tmp 36) 24 rfl (x - 1) Tryz.underlying24 hi hz0 hz1 hz2 ((hS.alloc _ _).drop 0) (i := 1) rfl rfl rfl (by simp) (by omega) ?_; intro V' c' w3 hS3; have HD3 := Lib.hid (show Dr w0 v len B w3 _ from ⟨hy, ci, cx, ca, cb, hS3⟩); clear hS hS3 HY2 hy cb ca)
        go_roundw
        case rel => exact ⟨j + 1, V', c', us ++ [x - 1], by go_num, by omega, rfl, HD3.out⟩
        case measure => simp [intOf]; omega
      · obtain rfl : j = p := by omega
        have hjp : ¬ (j : Int) < (j : Int) := by omega
        obtain ⟨r1, rf⟩ := HY.out.rest.box (i := 1) rfl
        have r10 := r1 0 _ rfl
        have r11 := r1 1 _ rfl
        have rf0 := rf 0
        have rf1 := rf 1
        clear r1 rf
        go_wp2
        have hp := HP.out
        obtain ⟨hy, ci, cx, ca, cb, hS⟩ := HY.out
        have hZ := (hS.store (i := 2) rfl 0 (.int .i64 n)).store (i := 2) rfl 1 (.slice U j d)
        have hl : us.length = j := OwnN.len (hZ.own (i := 1) rfl)
        exact bodyPost_ret (v := .agg #[.int .i64 n, .slice U j d]) (by simp [results, Tryz.results99, go_sem, r10, r11, rf0, rf1]) rfl ⟨n, U, d, us, by rw [hl], ⟨n, rfl, by omega, by rw [hl]; exact HP.out⟩, by rw [hl]; exact ⟨hy, ci, cx, ca, cb, hZ.drop 2⟩⟩
  · have f0 : (t == 0) = false := by simpa using e0
    by_cases e1 : t = 1
    · subst e1
      clear e0 f0
      go_wp2_with fail
      refine (below_dr ((n : Int) + 1) HD2 (by omega) (by omega)).mono ?_
      rintro e w3 ⟨top, rfl, ⟨top0, top1⟩, hd⟩
      have HD3 := Lib.hid hd
      clear hd HD2
      go_wp2
      go_loopw [6, 9] (fun a i wr => ∃ (j : Nat) (U : Option Addr) (d : Nat) (us : List Int), i = .int .i64 j ∧ j ≤ p ∧ a = .slice U j d ∧ Dr w0 v len B wr (il (.slice U j d) j us :: bx w.heap.size 26 [.int .i64 0, .slice none 0 0] :: L)) (fun _ i _ => p - (intOf i).toNat)
      case atStart => exact ⟨0, _, _, [], rfl, Nat.zero_le _, rfl, HD3.out⟩
      case round =>
        obtain ⟨j, U, d, us, rfl, hj, rfl, hD⟩ := hrel
        have HY := Lib.hid hD
        clear hD
        by_cases hlt : j < p
        · have hji : (j : Int) < (p : Int) := by omega
          go_wp2_with fail
          refine (size_dr j _ (by omega)).mono ?_
          rintro e' w6 ⟨x, rfl, hq⟩
          have HY2 := Lib.hid (show Dr w0 v len B w6 _ from by obtain ⟨q, rfl⟩ := hq; exact HY.out.drewN q)
          clear hq HY
          obtain ⟨m, hm2⟩ : ∃ m, (if x < top then x else top) = m := ⟨_, rfl⟩
          go_wp2_with (at_builtin; obtain ⟨hy, ci, cx, ca, cb, hS⟩ := HY2.out; refine wpList_app1 rfl (.tmp 53) (.tmp 58) 24 rfl m Tryz.underlying24 hi hz0 hz1 hz2 ((hS.alloc _ _).drop 0) (i := 1) rfl rfl rfl (by simp [← hm2]) (by omega) ?_; intro V' c' w3 hS3; have HD3 := Lib.hid (show Dr w0 v len B w3 _ from ⟨hy, ci, cx, ca, cb, hS3⟩); clear hS hS3 HY2 hy cb ca)
          go_roundw
          case rel => exact ⟨j + 1, V', c', us ++ [m], by go_num, by omega, rfl, HD3.out⟩
          case measure => simp [intOf]; omega
        · obtain rfl : j = p := by omega
          have hjp : ¬ (j : Int) < (j : Int) := by omega
          obtain ⟨p, hpj⟩ : ∃ p, p = j := ⟨_, rfl⟩
          subst hpj
          obtain ⟨V, e, zs, he⟩ : ∃ V e zs, (V, e, zs) = (U, d, us) := ⟨_, _, _, rfl⟩
          injection he with he1 he2
          injection he2 with he2 he3
          subst he1 he2 he3
          go_wp2_with fail
          refine (once_dr 2 HY (by omega) (by omega)).mono ?_
          rintro e' w5 ⟨b, rfl, hd⟩
          have HX := Lib.hid hd
          clear hd
          cases b
          · obtain ⟨r1, rf⟩ := HX.out.rest.box (i := 1) rfl
            have r10 := r1 0 _ rfl
            have r11 := r1 1 _ rfl
            have rf0 := rf 0
            have rf1 := rf 1
            clear r1 rf
            go_wp2
            obtain ⟨hy, ci, cx, ca, cb, hS⟩ := HX.out
            have hZ := (hS.store (i := 2) rfl 0 (.int .i64 n)).store (i := 2) rfl 1 (.slice V p e)
            have hl : zs.length = p := OwnN.len (hZ.own (i := 1) rfl)
            exact bodyPost_ret (v := .agg #[.int .i64 n, .slice V p e]) (by simp [results, Tryz.results99, go_sem, r10, r11, rf0, rf1]) rfl ⟨n, V, e, zs, by rw [hl], ⟨n, rfl, by omega, by rw [hl]; exact HP.out⟩, by rw [hl]; exact ⟨hy, ci, cx, ca, cb, hZ.drop 2⟩⟩
          · go_wp2
            obtain ⟨wo, rfl⟩ : ∃ wo : World, wo = w5 := ⟨_, rfl⟩
            go_loopw [10, 11] (fun a i wr => ∃ (j : Nat) (U : Option Addr) (d : Nat) (us : List Int), i = .int .i64 j ∧ j ≤ n ∧ a = .slice U j d ∧ Dr w0 v len B wr (il (.slice U j d) j us :: il (.slice V p e) p zs :: bx w.heap.size 26 [.int .i64 0, .slice none 0 0] :: L)) (fun _ i _ => n - (intOf i).toNat)
            case atStart => exact ⟨0, _, _, [], rfl, Nat.zero_le _, rfl, HX.out.empty⟩
            case round =>
              obtain ⟨j, U, d, us, rfl, hj, rfl, hD⟩ := hrel
              have HY := Lib.hid hD
              clear hD
              by_cases hlt : j < n
              · have hji : (j : Int) < (n : Int) := by omega
                go_wp2_with fail
                refine (below_dr 4 HY (by omega) (by omega)).mono ?_
                rintro e' w6 ⟨x, rfl, ⟨x0, x1⟩, hd⟩
                have HY2 := Lib.hid hd
                clear hd HY
                go_wp2_with (at_builtin; obtain ⟨hy, ci, cx, ca, cb, hS⟩ := HY2.out; refine wpList_app1 rfl (.tmp 68) (.tmp 71) 24 rfl x Tryz.underlying24 hi hz0 hz1 hz2 ((hS.alloc _ _).drop 0) (i := 1) rfl rfl rfl (by simp) (by omega) ?_; intro V' c' w3 hS3; have HD3 := Lib.hid (show Dr w0 v len B w3 _ from ⟨hy, ci, cx, ca, cb, hS3⟩); clear hS hS3 HY2 hy cb ca)
                go_roundw
                case rel => exact ⟨j + 1, V', c', us ++ [x], by go_num, by omega, rfl, HD3.out⟩
                case measure => simp [intOf]; omega
              · obtain rfl : j = n := by omega
                have hjn : ¬ (j : Int) < (j : Int) := by omega
                go_wp2
                obtain ⟨wo2, rfl⟩ : ∃ wo : World, wo = wr := ⟨_, rfl⟩
                go_loopw [12] (fun s wr => ∃ (k : Nat) (ts : List Int), s = .int .i64 k ∧ k ≤ p ∧ Dr w0 v len B wr (il (.slice U j d) j us :: il (.slice V p e) p ts :: bx w.heap.size 26 [.int .i64 0, .slice none 0 0] :: L)) (fun s _ => p - (intOf s).toNat)
                case atStart => exact ⟨0, zs, rfl, Nat.zero_le _, HY.out⟩
                case round =>
                  obtain ⟨k, ts, rfl, hk, hD⟩ := hrel
                  have HZ := Lib.hid hD
                  clear hD
                  by_cases hlt2 : k < p
                  · have hki : (k : Int) < (p : Int) := by omega
                    have hk0 : (0 : Int) ≤ (k : Int) := by omega
                    go_wp2
                    simp only [hsh]
                    obtain ⟨wo3, rfl⟩ : ∃ wo : World, wo = wr := ⟨_, rfl⟩
                    go_loopw [13] (fun i wr => ∃ (c : Nat) (ts : List Int), i = .int .i64 c ∧ c ≤ j ∧ Dr w0 v len B wr (il (.slice U j d) j us :: il (.slice V p e) p ts :: bx w.heap.size 26 [.int .i64 0, .slice none 0 0] :: L)) (fun i _ => j - (intOf i).toNat)
                    case atStart => exact ⟨0, ts, rfl, Nat.zero_le _, HZ.out⟩
                    case round =>
                      obtain ⟨c, ts, rfl, hc, hD⟩ := hrel
                      have HQ := Lib.hid hD
                      by_cases hlt3 : c < j
                      · have hci : (c : Int) < (j : Int) := by omega
                        have hc0 : (0 : Int) ≤ (c : Int) := by omega
                        obtain ⟨b1, o1, hA1, -, g1⟩ := (hD.rest.ints (i := 0) rfl).at_ (k := c) (by rw [OwnN.len (hD.rest.own (i := 0) rfl)]; exact hlt3)
                        have hlv : ts.length = p := OwnN.len (hD.rest.own (i := 1) rfl)
                        obtain ⟨g, cap, hV, -⟩ := World.ownsRow.form (hD.rest.own (i := 1) rfl) (by show 0 < p; omega)
                        injection hV with hV1 hV2 hV3
                        subst hA1 hV1 hV3
                        clear hV2
                        obtain ⟨g2, g3⟩ := hD.rest.cellI (i := 1) rfl hlt2
                        generalize us.getD c 0 = y1 at g1
                        generalize hx1 : ts.getD k 0 = x1 at g2
                        clear hD hlv hx1
                        by_cases hz : bits .and .i64 ((k : Int) / 2 ^ c) 1 = 1
                        · go_wp2
                          go_still_tail 11, (by kernel_rfl)
                          change wpList _ _ _ _ _ wr.drew
                          generalize hwd : wr.drew = wd
                          have c0 : wd.cell? ⟨g, k, none⟩ = some (.int .i64 x1) := by rw [← hwd]; exact g2
                          have c1 : wd.frozen? ⟨g, k, none⟩ = false := by rw [← hwd]; exact g3
                          have HQ2 := Lib.hid (show Dr w0 v len B wd _ from hwd ▸ HQ.out.drew)
                          clear hwd
                          go_wp2
                          go_roundw
                          case rel => exact ⟨c + 1, ts.set k _, by go_num, by omega, HQ2.out.map fun c hS => hS.setI (i := 2) rfl k _⟩
                          case measure => simp [intOf]; omega
                        · have hz : (bits .and .i64 ((k : Int) / 2 ^ c) 1 == 1) = false := by simpa using hz
                          go_wp2
                          go_roundw
                          case rel => exact ⟨c + 1, ts, by go_num, by omega, HQ.out⟩
                          case measure => simp [intOf]; omega
                      · obtain rfl : c = j := by omega
                        have hcq : ¬ (c : Int) < (c : Int) := by omega
                        clear hD
                        go_wp2
                        go_roundw
                        case rel => exact ⟨k + 1, ts, by go_num, by omega, HQ.out⟩
                        case measure => simp [intOf]; omega
                  · obtain rfl : k = p := by omega
                    have hkp : ¬ (k : Int) < (k : Int) := by omega
                    obtain ⟨r1, rf⟩ := HZ.out.rest.box (i := 2) rfl
                    have r10 := r1 0 _ rfl
                    have r11 := r1 1 _ rfl
                    have rf0 := rf 0
                    have rf1 := rf 1
                    clear r1 rf
                    go_wp2
                    obtain ⟨hy, ci, cx, ca, cb, hS⟩ := HZ.out
                    have hZ := (hS.store (i := 3) rfl 0 (.int .i64 j)).store (i := 3) rfl 1 (.slice V k e)
                    have hl : ts.length = k := OwnN.len (hZ.own (i := 2) rfl)
                    exact bodyPost_ret (v := .agg #[.int .i64 j, .slice V k e]) (by simp [results, Tryz.results99, go_sem, r10, r11, rf0, rf1]) rfl ⟨j, V, e, ts, by rw [hl], ⟨j, rfl, by omega, by rw [hl]; exact HP.out⟩, by rw [hl]; exact ⟨hy, ci, cx, ca, cb, (hZ.drop 3).drop 1⟩⟩

    · have f1 : (t == 1) = false := by simpa using e1
      clear e0 e1
      go_wp2_with fail
      refine (cover_dr n HD2 hn).mono ?_
      rintro e w3 ⟨V, e, zs, rfl, hlz, hd⟩
      have hl0 : zs.length = p := by rw [hlz, HP.out]
      rw [hl0] at hd
      have HV := Lib.hid (hd.map fun c hS => hS.drop 2)
      clear hd hlz
      rw [hl0]
      go_wp2_with fail
      refine (once_dr 2 HV (by omega) (by omega)).mono ?_
      rintro e' w5 ⟨b, rfl, hd⟩
      have HX := Lib.hid hd
      clear hd
      cases b
      · obtain ⟨r1, rf⟩ := HX.out.rest.box (i := 1) rfl
        have r10 := r1 0 _ rfl
        have r11 := r1 1 _ rfl
        have rf0 := rf 0
        have rf1 := rf 1
        clear r1 rf
        go_wp2
        obtain ⟨hy, ci, cx, ca, cb, hS⟩ := HX.out
        have hZ := (hS.store (i := 2) rfl 0 (.int .i64 n)).store (i := 2) rfl 1 (.slice V p e)
        have hl : zs.length = p := OwnN.len (hZ.own (i := 1) rfl)
        exact bodyPost_ret (v := .agg #[.int .i64 n, .slice V p e]) (by simp [results, Tryz.results99, go_sem, r10, r11, rf0, rf1]) rfl ⟨n, V, e, zs, by rw [hl], ⟨n, rfl, by omega, by rw [hl]; exact HP.out⟩, by rw [hl]; exact ⟨hy, ci, cx, ca, cb, hZ.drop 2⟩⟩
      · go_wp2
        obtain ⟨wo, rfl⟩ : ∃ wo : World, wo = w5 := ⟨_, rfl⟩
        go_loopw [10, 11] (fun a i wr => ∃ (j : Nat) (U : Option Addr) (d : Nat) (us : List Int), i = .int .i64 j ∧ j ≤ n ∧ a = .slice U j d ∧ Dr w0 v len B wr (il (.slice U j d) j us :: il (.slice V p e) p zs :: bx w.heap.size 26 [.int .i64 0, .slice none 0 0] :: L)) (fun _ i _ => n - (intOf i).toNat)
        case atStart => exact ⟨0, _, _, [], rfl, Nat.zero_le _, rfl, HX.out.empty⟩
        case round =>
          obtain ⟨j, U, d, us, rfl, hj, rfl, hD⟩ := hrel
          have HY := Lib.hid hD
          clear hD
          by_cases hlt : j < n
          · have hji : (j : Int) < (n : Int) := by omega
            go_wp2_with fail
            refine (below_dr 4 HY (by omega) (by omega)).mono ?_
            rintro e' w6 ⟨x, rfl, ⟨x0, x1⟩, hd⟩
            have HY2 := Lib.hid hd
            clear hd HY
            go_wp2_with (at_builtin; obtain ⟨hy, ci, cx, ca, cb, hS⟩ := HY2.out; refine wpList_app1 rfl (.tmp 68) (.tmp 71) 24 rfl x Tryz.underlying24 hi hz0 hz1 hz2 ((hS.alloc _ _).drop 0) (i := 1) rfl rfl rfl (by simp) (by omega) ?_; intro V' c' w3 hS3; have HD3 := Lib.hid (show Dr w0 v len B w3 _ from ⟨hy, ci, cx, ca, cb, hS3⟩); clear hS hS3 HY2 hy cb ca)
            go_roundw
            case rel => exact ⟨j + 1, V', c', us ++ [x], by go_num, by omega, rfl, HD3.out⟩
            case measure => simp [intOf]; omega
          · obtain rfl : j = n := by omega
            have hjn : ¬ (j : Int) < (j : Int) := by omega
            go_wp2
            obtain ⟨wo2, rfl⟩ : ∃ wo : World, wo = wr := ⟨_, rfl⟩
            go_loopw [12] (fun s wr => ∃ (k : Nat) (ts : List Int), s = .int .i64 k ∧ k ≤ p ∧ Dr w0 v len B wr (il (.slice U j d) j us :: il (.slice V p e) p ts :: bx w.heap.size 26 [.int .i64 0, .slice none 0 0] :: L)) (fun s _ => p - (intOf s).toNat)
            case atStart => exact ⟨0, zs, rfl, Nat.zero_le _, HY.out⟩
            case round =>
              obtain ⟨k, ts, rfl, hk, hD⟩ := hrel
              have HZ := Lib.hid hD
              clear hD
              by_cases hlt2 : k < p
              · have hki : (k : Int) < (p : Int) := by omega
                have hk0 : (0 : Int) ≤ (k : Int) := by omega
                go_wp2
                simp only [hsh]
                obtain ⟨wo3, rfl⟩ : ∃ wo : World, wo = wr := ⟨_, rfl⟩
                go_loopw [13] (fun i wr => ∃ (c : Nat) (ts : List Int), i = .int .i64 c ∧ c ≤ j ∧ Dr w0 v len B wr (il (.slice U j d) j us :: il (.slice V p e) p ts :: bx w.heap.size 26 [.int .i64 0, .slice none 0 0] :: L)) (fun i _ => j - (intOf i).toNat)
                case atStart => exact ⟨0, ts, rfl, Nat.zero_le _, HZ.out⟩
                case round =>
                  obtain ⟨c, ts, rfl, hc, hD⟩ := hrel
                  have HQ := Lib.hid hD
                  by_cases hlt3 : c < j
                  · have hci : (c : Int) < (j : Int) := by omega
                    have hc0 : (0 : Int) ≤ (c : Int) := by omega
                    obtain ⟨b1, o1, hA1, -, g1⟩ := (hD.rest.ints (i := 0) rfl).at_ (k := c) (by rw [OwnN.len (hD.rest.own (i := 0) rfl)]; exact hlt3)
                    have hlv : ts.length = p := OwnN.len (hD.rest.own (i := 1) rfl)
                    obtain ⟨g, cap, hV, -⟩ := World.ownsRow.form (hD.rest.own (i := 1) rfl) (by show 0 < p; omega)
                    injection hV with hV1 hV2 hV3
                    subst hA1 hV1 hV3
                    clear hV2
                    obtain ⟨g2, g3⟩ := hD.rest.cellI (i := 1) rfl hlt2
                    generalize us.getD c 0 = y1 at g1
                    generalize hx1 : ts.getD k 0 = x1 at g2
                    clear hD hlv hx1
                    by_cases hz : bits .and .i64 ((k : Int) / 2 ^ c) 1 = 1
                    · go_wp2
                      go_still_tail 11, (by kernel_rfl)
                      change wpList _ _ _ _ _ wr.drew
                      generalize hwd : wr.drew = wd
                      have c0 : wd.cell? ⟨g, k, none⟩ = some (.int .i64 x1) := by rw [← hwd]; exact g2
                      have c1 : wd.frozen? ⟨g, k, none⟩ = false := by rw [← hwd]; exact g3
                      have HQ2 := Lib.hid (show Dr w0 v len B wd _ from hwd ▸ HQ.out.drew)
                      clear hwd
                      go_wp2
                      go_roundw
                      case rel => exact ⟨c + 1, ts.set k _, by go_num, by omega, HQ2.out.map fun c hS => hS.setI (i := 2) rfl k _⟩
                      case measure => simp [intOf]; omega
                    · have hz : (bits .and .i64 ((k : Int) / 2 ^ c) 1 == 1) = false := by simpa using hz
                      go_wp2
                      go_roundw
                      case rel => exact ⟨c + 1, ts, by go_num, by omega, HQ.out⟩
                      case measure => simp [intOf]; omega
                  · obtain rfl : c = j := by omega
                    have hcq : ¬ (c : Int) < (c : Int) := by omega
                    clear hD
                    go_wp2
                    go_roundw
                    case rel => exact ⟨k + 1, ts, by go_num, by omega, HQ.out⟩
                    case measure => simp [intOf]; omega
              · obtain rfl : k = p := by omega
                have hkp : ¬ (k : Int) < (k : Int) := by omega
                obtain ⟨r1, rf⟩ := HZ.out.rest.box (i := 2) rfl
                have r10 := r1 0 _ rfl
                have r11 := r1 1 _ rfl
                have rf0 := rf 0
                have rf1 := rf 1
                clear r1 rf
                go_wp2
                obtain ⟨hy, ci, cx, ca, cb, hS⟩ := HZ.out
                have hZ := (hS.store (i := 3) rfl 0 (.int .i64 j)).store (i := 3) rfl 1 (.slice V k e)
                have hl : ts.length = k := OwnN.len (hZ.own (i := 2) rfl)
                exact bodyPost_ret (v := .agg #[.int .i64 j, .slice V k e]) (by simp [results, Tryz.results99, go_sem, r10, r11, rf0, rf1]) rfl ⟨j, V, e, ts, by rw [hl], ⟨j, rfl, by omega, by rw [hl]; exact HP.out⟩, by rw [hl]; exact ⟨hy, ci, cx, ca, cb, (hZ.drop 3).drop 1⟩⟩


end


end Go.Proofs.YtffbiflgmlabaaaGreatDoor.C

namespace Go.Proofs.YtffbiflgmlabaaaGreatDoor.C
open Go.RowKit M K
set_option linter.unusedVariables false
set_option linter.unusedSimpArgs false

theorem _root_.Go.Proofs.YtffbiflgmlabaaaGreatDoor.K.St.lits {w0 w : World} {L : List Cel} (h : St w0 w L) (n : Nat) (xs : List Int) (hn : xs.length = n) (hm : n ≤ 1048576) : St w0 (w.alloc (.cells ⟨K.ints xs⟩ 3)) (il (.slice (some ⟨w.heap.size, 0, none⟩) n n) n xs :: L) := by
  refine h.new ((Below.refl _ _).alloc (Nat.le_refl _) _) ?_
  exact World.ownsRow_lit w ⟨K.ints xs⟩ n (Nat.le_refl _) (by unfold maxLen; omega) (by simp [K.ints, hn])


section

variable {w0 : World} {v : Value} {len B : Nat} {L : List Cel} {w : World}
theorem Dr.lits (h : Dr w0 v len B w L) (n : Nat) (xs : List Int) (hn : xs.length = n) (hm : n ≤ 1048576) : Dr w0 v len B (w.alloc (.cells ⟨K.ints xs⟩ 3)) (il (.slice (some ⟨w.heap.size, 0, none⟩) n n) n xs :: L) := h.map fun c hS => St.swap (hS.lits n xs hn hm)
theorem Dr.lt_of {A : Nat} {r : Cel} {i : Nat} (h : Dr w0 v len B w L) (hi : L[i]? = some r) (hA : r.v.ownBlock = some A) : A < w.heap.size := ((h.rest.own hi).lt A hA).2

set_option maxRecDepth 100000 in
set_option maxHeartbeats 4000000 in
theorem any_dr (h : Hid (Dr w0 v len B w L)) :
    Calls Tryz.prog 71 #[.pointer (some ⟨B, 0, none⟩)] w (DrF w0 v len B L (fun _ xs => 1 ≤ xs.length ∧ xs.length ≤ 32)) := by
  obtain ⟨i0, hi, hz0, hz1, hz2⟩ := info_parts info_int
  go_enter Tryz.func71, Tryz.ntmps71
  go_wp2_with fail
  refine (draw_dr 4 (Lib.hid (h.out.alloc [.int .i64 0, .slice none 0 0] 26)) (by omega)).mono ?_
  rintro e w1 ⟨_, V, cc, xs, rfl, ⟨n, rfl, hn, hl⟩, hd⟩
  obtain ⟨p1, p2⟩ := p2_nat hn
  rw [← hl] at p1 p2
  have HP := Lib.hid (show 1 ≤ xs.length ∧ xs.length ≤ 32 from ⟨p1, p2⟩)
  clear hl
  obtain ⟨p, hp⟩ : ∃ p, xs.length = p := ⟨_, rfl⟩
  rw [hp] at p1 p2 hd ⊢
  obtain ⟨g, cap, hV, -⟩ := World.ownsRow.form (hd.rest.own (i := 0) rfl) (by show 0 < p; omega)
  injection hV with hV1 hV2 hV3
  subst hV1 hV3
  clear hV2
  have hgl : g < w1.heap.size := hd.lt_of (i := 0) rfl rfl
  have hg1 : ¬ g = w1.heap.size := by omega
  have hg2 : ¬ w1.heap.size = g := by omega
  have hp0 : 0 < p := by omega
  have hp0i : (0 : Int) < (p : Int) := by omega
  have HL := Lib.hid hp
  have HD := Lib.hid (hd.alloc [.int .i64 n, .slice (some ⟨g, 0, none⟩) p cc] 26)
  have hzw := hd.lt.2
  have hzr : w.heap.size < w1.heap.size := hd.lt_of (i := 1) rfl rfl
  clear hd hp
  go_wp2_with fail
  refine (below_dr 16 HD (by omega) (by omega)).mono ?_
  rintro e w2 ⟨t, rfl, ⟨t0, t1⟩, hd⟩
  have HD2 := Lib.hid hd
  clear HD
  by_cases e0 : t = 0
  · subst e0
    clear hd
    go_wp2_with fail
    refine (pick_dr w2.heap.size 5 5 [-1, 6, 5, 0, 9223372036854775807] (Lib.hid (HD2.out.lits 5 [-1, 6, 5, 0, 9223372036854775807] rfl (by omega))) (by omega) (by omega)).mono ?_
    rintro e w3 ⟨x, rfl, hx, hd⟩
    obtain ⟨b0, f0⟩ := hd.rest.box (i := 0) rfl
    have b00 := b0 0 _ rfl
    have b01 := b0 1 _ rfl
    have f00 := f0 0
    have f01 := f0 1
    obtain ⟨r1, rf⟩ := hd.rest.box (i := 2) rfl
    have r10 := r1 0 _ rfl
    have r11 := r1 1 _ rfl
    have rf0 := rf 0
    have rf1 := rf 1
    have HD3 := Lib.hid hd
    have hne : ¬ w.heap.size = w1.heap.size := by omega
    have hne2 : ¬ w1.heap.size = w.heap.size := by omega
    clear b0 f0 r1 rf hd hx
    go_wp2
    obtain ⟨hy, ci, cx, ca, cb, hS⟩ := HD3.out
    have hZ := ((hS.store (i := 1) rfl 0 (.int .i64 x)).store (i := 3) rfl 0 (.int .i64 x)).store (i := 3) rfl 1 (.slice (some ⟨g, 0, none⟩) p cc)
    exact bodyPost_ret (v := .agg #[.int .i64 x, .slice (some ⟨g, 0, none⟩) p cc]) (by simp [results, Tryz.results71, go_sem, r10, r11, rf0, rf1, hne, hne2]) rfl ⟨x, _, cc, xs, by rw [HL.out], HP.out, by rw [HL.out]; exact ⟨hy, ci, cx, ca, cb, (hZ.drop 3).drop 1⟩⟩
  · have f0 : (t == 0) = false := by simpa using e0
    by_cases e1 : t = 1
    · subst e1
      clear e0 f0
      obtain ⟨b0, f0⟩ := hd.rest.box (i := 0) rfl
      have b01 := b0 1 _ rfl
      clear b0 f0 hd
      go_wp2
      go_region_held3 (fun w' => w'.cell? ⟨w1.heap.size, 1, none⟩ = some (.slice (some ⟨g, 0, none⟩) p cc)) (first | assumption | go_keep) ((go_at_call 77; refine (pick_dr w2.heap.size 5 5 [1, -1, 1001, -9223372036854775808, 1000] (Lib.hid (HD2.out.drew.lits 5 [1, -1, 1001, -9223372036854775808, 1000] rfl (by omega))) (by omega) (by omega)).mono ?_; rintro e w3 ⟨x, rfl, hx, hd⟩; obtain ⟨b0', -⟩ := hd.rest.box (i := 0) rfl; have b01' := b0' 1 _ rfl; obtain ⟨c1, c2⟩ := hd.rest.cellI (i := 1) rfl (j := 0) (by omega); have HD3 := Lib.hid hd; clear hd b0' b01 hx))
      have HD4 := Lib.hid (HD3.out.map fun c hS => hS.setI (i := 2) rfl 0 x)
      clear HD3 c1 c2 b01'
      rename_i hHeld
      clear hHeld
      generalize w3.setCell ⟨g, 0, none⟩ (.int .i64 x) = w4 at HD4 ⊢
      obtain ⟨b0, f0⟩ := HD4.out.rest.box (i := 0) rfl
      have b00 := b0 0 _ rfl
      have b01 := b0 1 _ rfl
      have f00 := f0 0
      have f01 := f0 1
      obtain ⟨r1, rf⟩ := HD4.out.rest.box (i := 2) rfl
      have r10 := r1 0 _ rfl
      have r11 := r1 1 _ rfl
      have rf0 := rf 0
      have rf1 := rf 1
      have hne : ¬ w.heap.size = w1.heap.size := by omega
      have hne2 : ¬ w1.heap.size = w.heap.size := by omega
      clear b0 f0 r1 rf 
      go_wp2
      obtain ⟨hy, ci, cx, ca, cb, hS⟩ := HD4.out
      have hZ := (hS.store (i := 3) rfl 0 (.int .i64 n)).store (i := 3) rfl 1 (.slice (some ⟨g, 0, none⟩) p cc)
      have hl : (xs.set 0 x).length = p := OwnN.len (hZ.own (i := 2) rfl)
      exact bodyPost_ret (v := .agg #[.int .i64 n, .slice (some ⟨g, 0, none⟩) p cc]) (by simp [results, Tryz.results71, go_sem, r10, r11, rf0, rf1, hne, hne2]) rfl ⟨n, _, cc, xs.set 0 x, by rw [hl], (show 1 ≤ (xs.set 0 x).length ∧ (xs.set 0 x).length ≤ 32 by rw [List.length_set]; exact HP.out), by rw [hl]; exact ⟨hy, ci, cx, ca, cb, (hZ.drop 3).drop 1⟩⟩
    · have f1 : (t == 1) = false := by simpa using e1
      clear e0 e1
      obtain ⟨b0, f0⟩ := HD2.out.rest.box (i := 0) rfl
      have b00 := b0 0 _ rfl
      have b01 := b0 1 _ rfl
      have f00 := f0 0
      have f01 := f0 1
      obtain ⟨r1, rf⟩ := HD2.out.rest.box (i := 2) rfl
      have r10 := r1 0 _ rfl
      have r11 := r1 1 _ rfl
      have rf0 := rf 0
      have rf1 := rf 1
      have hne : ¬ w.heap.size = w1.heap.size := by omega
      have hne2 : ¬ w1.heap.size = w.heap.size := by omega
      clear b0 f0 r1 rf hd
      go_wp2
      obtain ⟨hy, ci, cx, ca, cb, hS⟩ := HD2.out
      have hZ := (hS.store (i := 3) rfl 0 (.int .i64 n)).store (i := 3) rfl 1 (.slice (some ⟨g, 0, none⟩) p cc)
      have hl : (xs).length = p := OwnN.len (hZ.own (i := 2) rfl)
      exact bodyPost_ret (v := .agg #[.int .i64 n, .slice (some ⟨g, 0, none⟩) p cc]) (by simp [results, Tryz.results71, go_sem, r10, r11, rf0, rf1, hne, hne2]) rfl ⟨n, _, cc, xs, by rw [hl], HP.out, by rw [hl]; exact ⟨hy, ci, cx, ca, cb, (hZ.drop 3).drop 1⟩⟩

end


end Go.Proofs.YtffbiflgmlabaaaGreatDoor.C

namespace Go.Proofs.YtffbiflgmlabaaaGreatDoor.C
open Go.RowKit M K
set_option linter.unusedVariables false
set_option linter.unusedSimpArgs false

/-- Bytes as they stand in a later memory. -/
theorem Bytes.later {w0 w : World} {v : Value} {len : Nat} (h : Bytes w0.heap.size w0 v len) (hb : Below w0.heap.size w0 w) : Bytes w.heap.size w v len := by
  rcases h.below hb with h | ⟨x, off, cap, zs, hv, h1, h2, h3, h4, h5, h6⟩
  · exact .inl h
  · exact .inr ⟨x, off, cap, zs, hv, h1, h2, h3, Nat.lt_of_lt_of_le h4 hb.size, h5, h6⟩


section

variable {w0 w : World} {v : Value} {len : Nat} {L : List Cel}
theorem new_st (h : St w0 w L) (hy : Bytes w0.heap.size w0 v len) (hl : len ≤ 1048576) :
    Calls Tryz.prog 54 #[v] w fun e w' => e = .returned (.pointer (some ⟨w.heap.size, 0, none⟩)) ∧ Dr w0 v len w.heap.size w' L := by
  refine (new_cur v len w hl (hy.later h.base)).mono ?_
  rintro e w' ⟨rfl, i, x, a, b1, b2, hB, hb⟩
  exact ⟨rfl, hy, i, x, a, ⟨b1, b2⟩, h.new (t := 88) (s := 3) (n := 1) (v := .slice (some ⟨w.heap.size, 0, none⟩) 1 1) (cs := [v, .int .i64 i, .int .i64 x]) hb (bx_own hB (Nat.le_refl _))⟩

end


/-- A function whose values are new. -/
def IsF (w w' : World) (v : Value) (n : Int) (xs : List Int) : Prop := ∃ A c, v = .agg #[.int .i64 n, .slice A xs.length c] ∧ Own w' w.heap.size (.slice A xs.length c) xs ∧ 1 ≤ xs.length ∧ xs.length ≤ 32
def GotF (w : World) (e : Ending) (w' : World) : Prop := ∃ v n xs, e = .returned v ∧ IsF w w' v n xs ∧ Below w.heap.size w w'
def GotFI (P : Int → Prop) (w : World) (e : Ending) (w' : World) : Prop := ∃ v n xs x, e = .returned (.tuple #[v, .int .i64 x]) ∧ P x ∧ IsF w w' v n xs ∧ Below w.heap.size w w'
def GotFII (P : Int → Int → Prop) (w : World) (e : Ending) (w' : World) : Prop := ∃ v n xs x y, e = .returned (.tuple #[v, .int .i64 x, .int .i64 y]) ∧ P x y ∧ IsF w w' v n xs ∧ Below w.heap.size w w'
def GotFF (w : World) (e : Ending) (w' : World) : Prop := ∃ v n xs u m ys, e = .returned (.tuple #[v, u]) ∧ IsF w w' v n xs ∧ IsF w w' u m ys ∧ Below w.heap.size w w'


section

variable (v : Value) (len : Nat) (w : World) (hl : len ≤ 1048576) (hy : Hid (Bytes w.heap.size w v len))
include hl hy


end


end Go.Proofs.YtffbiflgmlabaaaGreatDoor.C

namespace Go.Proofs.YtffbiflgmlabaaaGreatDoor.C
open Go.RowKit M K
set_option linter.unusedVariables false
set_option linter.unusedSimpArgs false


section

end


def GotFL (w : World) (e : Ending) (w' : World) : Prop := ∃ v n xs A c ys, e = .returned (.tuple #[v, .slice A (List.length ys) c]) ∧ ys.length ≤ 5 ∧ IsF w w' v n xs ∧ Own w' w.heap.size (.slice A (List.length ys) c) ys ∧ Below w.heap.size w w'


section

variable (v : Value) (len : Nat) (w : World) (hl : len ≤ 1048576) (hy : Hid (Bytes w.heap.size w v len))
include hl hy

end


end Go.Proofs.YtffbiflgmlabaaaGreatDoor.C
