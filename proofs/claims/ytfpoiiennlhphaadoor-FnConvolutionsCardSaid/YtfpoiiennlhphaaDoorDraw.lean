/-
  The contracts of the functions by which a law draws its inputs: the cursor and its bytes.
-/
import Derived.Test.YtfpoiiennlhphaaDoorNumK
import Derived.Outline
import Derived.Deep.QuietTactic
import Derived.BigQuiet
namespace Go.Proofs.YtfpoiiennlhphaaDoor.C
open Go.RowKit M K
set_option linter.unusedVariables false

/-- What is known of the bytes that came in: none, or a row of cells. -/
def Bytes (base : Nat) (w : World) (v : Value) (len : Nat) : Prop :=
  ((∃ a cap, v = .slice a 0 cap) ∧ len = 0) ∨
  ∃ (b off cap : Nat) (zs : List Int), v = .slice (some ⟨b, off, none⟩) len cap ∧ len ≤ cap ∧ cap ≤ maxLen ∧ zs.length = cap ∧ b < base ∧ (∀ i, i < zs.length → w.cell? ⟨b, off + i, none⟩ = some (.int .u8 (zs.getD i 0))) ∧ ∀ n ∈ zs, 0 ≤ n ∧ n ≤ 255

/-- The cursor in block B. -/
def Cur (w : World) (B : Nat) (v : Value) (len : Nat) : Prop :=
  ∃ (i : Nat) (h : Int), i ≤ len ∧ -9223372036854775808 ≤ h ∧ h ≤ 9223372036854775807 ∧ w.heap[B]? = some (.cells #[v, .int .i64 i, .int .i64 h] 87 (0, 0))

theorem cur_cells {w : World} {B : Nat} {x y z : Value} (h : w.heap[B]? = some (.cells #[x, y, z] 87 (0, 0))) :
    w.cell? ⟨B, 0, none⟩ = some x ∧ w.cell? ⟨B, 1, none⟩ = some y ∧ w.cell? ⟨B, 2, none⟩ = some z ∧ (∀ o, w.frozen? ⟨B, o, none⟩ = false) :=
  ⟨by simpa using cell_of_row w B 0 _ _ _ h, by simpa using cell_of_row w B 1 _ _ _ h, by simpa using cell_of_row w B 2 _ _ _ h, fun o => frozen_of_row w B o _ _ h⟩

theorem and255 (n : Int) : bits .and .i64 n 255 = n % 256 := by
  have h255 : (BitVec.ofInt 64 255).toNat = 2 ^ 8 - 1 := by decide
  have key : (BitVec.ofInt 64 n &&& BitVec.ofInt 64 255).toNat = (n % ((2 ^ 64 : Nat) : Int)).toNat % 2 ^ 8 := by
    rw [BitVec.toNat_and, BitVec.toNat_ofInt, h255, Nat.and_two_pow_sub_one_eq_mod]
  show IntKind.i64.wrap ((BitVec.ofInt 64 n &&& BitVec.ofInt 64 255).toNat : Nat) = n % 256
  rw [key, IntKind.wrap_i64]
  omega

theorem wrap64_bd (x : Int) : -9223372036854775808 ≤ wrap64 x ∧ wrap64 x ≤ 9223372036854775807 := by unfold wrap64; omega

/-- The world behind the first statement. -/
theorem cur_set {w : World} {B : Nat} {x y z : Value} (u : Value) (o : Nat) (h : w.heap[B]? = some (.cells #[x, y, z] 87 (0, 0))) :
    (w.setCell ⟨B, o, none⟩ u).heap[B]? = some (.cells (#[x, y, z].setIfInBounds o u) 87 (0, 0)) ∧ w.grownBy (w.setCell ⟨B, o, none⟩ u) (some B) :=
  ⟨heap_setCell_same w B o _ _ u h, ⟨rfl, rfl, rfl, by simp [World.setCell], fun k _ hk => Below.heap_setCell _ _ _ _ (fun e => hk (by rw [e]))⟩⟩

theorem grown_drewN {a w : World} {B : Option Nat} (h : a.grownBy w B) (n : Nat) : a.grownBy (w.drewN n) B := ⟨h.os, h.tape, h.output, h.size, h.block⟩
theorem grown_two {a b c : World} {B : Option Nat} (h : a.grownBy b B) (g : b.grownBy c B) : a.grownBy c B :=
  ⟨g.os.trans h.os, g.tape.trans h.tape, g.output.trans h.output, Nat.le_trans h.size g.size, fun k hk hb => (g.block k (Nat.lt_of_lt_of_le hk h.size) hb).trans (h.block k hk hb)⟩

set_option maxRecDepth 100000 in
set_option maxHeartbeats 1600000 in
theorem byte_end (B : Nat) (a : Option Addr) (len cap : Nat) (i : Nat) (h : Int) (w : World) (hi : ¬ i < len) (hil : i ≤ len)
    (hB : w.heap[B]? = some (.cells #[.slice a len cap, .int .i64 i, .int .i64 h] 87 (0, 0))) :
    Calls Tryd.prog 118 #[.pointer (some ⟨B, 0, none⟩)] w fun e w' => ∃ x : Int, e = .returned (.int .i64 x) ∧ 0 ≤ x ∧ x ≤ 255 ∧ Cur w' B (.slice a len cap) len ∧ w.grownBy w' (some B) := by
  obtain ⟨c0, c1, c2, hf⟩ := cur_cells hB
  have f2 := hf 2
  clear hf
  have hiI : ¬ (i : Int) < (len : Int) := by omega
  go_enter Tryd.func118, Tryd.ntmps118
  go_wp2
  generalize hh1 : wrap64 (wrap64 (h * 6364136223846793005) + 1442695040888963407) = h1
  have hb1 : -9223372036854775808 ≤ h1 ∧ h1 ≤ 9223372036854775807 := by rw [← hh1]; exact wrap64_bd _
  clear hh1
  obtain ⟨hB1, hg1⟩ := cur_set (.int .i64 h1) 2 hB
  generalize w.setCell ⟨B, 2, none⟩ (.int .i64 h1) = w1 at hB1 hg1 ⊢
  obtain ⟨d0, d1, d2, hf1⟩ := cur_cells (x := .slice a len cap) (y := .int .i64 i) (z := .int .i64 h1) hB1
  clear c0 c1 c2 f2 hB hf1
  have HB1 := Lib.hid hB1
  clear hB1
  go_quiet (fail)
  go_wp2
  generalize hx : bits .and .i64 (bits .xor .i64 (h1 / 8589934592) (h1 / 35184372088832)) 255 = x
  have hxb : 0 ≤ x ∧ x ≤ 255 := by rw [← hx, and255]; omega
  clear hx
  go_quiet (fail)
  go_wp2
  go_ret
  exact ⟨x, rfl, hxb.1, hxb.2, ⟨i, h1, hil, hb1.1, hb1.2, HB1.out⟩, grown_drewN (grown_drewN hg1 _) _⟩

set_option maxRecDepth 100000 in
set_option maxHeartbeats 3200000 in
theorem byte_some (B : Nat) (b off len cap : Nat) (zs : List Int) (i : Nat) (h : Int) (w : World) (hi : i < len) (hcap : len ≤ cap) (hmax : cap ≤ 9223372036854775807) (hz : zs.length = cap)
    (hcell : ∀ j, j < zs.length → w.cell? ⟨b, off + j, none⟩ = some (.int .u8 (zs.getD j 0))) (hzb : ∀ n ∈ zs, 0 ≤ n ∧ n ≤ 255) (hne : b ≠ B)
    (hB : w.heap[B]? = some (.cells #[.slice (some ⟨b, off, none⟩) len cap, .int .i64 i, .int .i64 h] 87 (0, 0))) :
    Calls Tryd.prog 118 #[.pointer (some ⟨B, 0, none⟩)] w fun e w' => ∃ x : Int, e = .returned (.int .i64 x) ∧ 0 ≤ x ∧ x ≤ 255 ∧ Cur w' B (.slice (some ⟨b, off, none⟩) len cap) len ∧ w.grownBy w' (some B) := by
  obtain ⟨c0, c1, c2, hf⟩ := cur_cells hB
  have f2 := hf 2
  clear hf
  have hiI : (i : Int) < (len : Int) := by omega
  have hi0 : 0 ≤ (i : Int) := by omega
  have hiz : i < zs.length := by omega
  have hc := hcell i hiz
  obtain ⟨z, hzd⟩ : ∃ z, zs.getD i 0 = z := ⟨_, rfl⟩
  have hz0 : 0 ≤ z ∧ z ≤ 255 := by
    rw [← hzd, List.getD_eq_getElem?_getD, List.getElem?_eq_getElem hiz]
    exact hzb _ (List.getElem_mem hiz)
  rw [hzd] at hc
  clear hcell hzd hzb hz hiz
  go_enter Tryd.func118, Tryd.ntmps118
  go_wp2
  generalize hh1 : wrap64 (wrap64 (h * 6364136223846793005) + 1442695040888963407) = h1
  have hb1 : -9223372036854775808 ≤ h1 ∧ h1 ≤ 9223372036854775807 := by rw [← hh1]; exact wrap64_bd _
  clear hh1
  obtain ⟨hB1, hg1⟩ := cur_set (.int .i64 h1) 2 hB
  have hcz : (w.setCell ⟨B, 2, none⟩ (.int .i64 h1)).cell? ⟨b, off + i, none⟩ = some (.int .u8 z) := hg1.cell hc (by simp; exact hne)
  generalize w.setCell ⟨B, 2, none⟩ (.int .i64 h1) = w1 at hB1 hg1 hcz ⊢
  obtain ⟨d0, d1, d2, hf1⟩ := cur_cells (x := .slice (some ⟨b, off, none⟩) len cap) (y := .int .i64 i) (z := .int .i64 h1) hB1
  have f1 := hf1 1
  clear c0 c1 c2 f2 hB hf1 hc
  have HB1 := Lib.hid hB1
  have HG1 := Lib.hid hg1
  clear hB1 hg1
  go_quiet (fail)
  go_wp2
  generalize hx : bits .and .i64 (bits .xor .i64 (h1 / 8589934592) (h1 / 35184372088832)) 255 = x
  have hxb : 0 ≤ x ∧ x ≤ 255 := by rw [← hx, and255]; omega
  clear hx
  go_quiet (fail)
  go_wp2
  go_quiet (fail)
  go_wp2
  go_ret
  obtain ⟨hB2, hg2⟩ := cur_set (w := w1.drewN _) (.int .i64 ((i : Int) + 1)) 1 HB1.out
  exact ⟨_, rfl, by rw [and255]; omega, by rw [and255]; omega, ⟨i + 1, h1, by omega, hb1.1, hb1.2, hB2⟩, grown_two (grown_drewN HG1.out _) hg2⟩

theorem Bytes.on {base B : Nat} {w w' : World} {v : Value} {len : Nat} (h : Bytes base w v len) (hb : base ≤ B) (hg : w.grownBy w' (some B)) : Bytes base w' v len := by
  rcases h with h | ⟨b, off, cap, zs, hv, h1, h2, h3, h4, h5, h6⟩
  · exact .inl h
  · exact .inr ⟨b, off, cap, zs, hv, h1, h2, h3, h4, fun i hi => hg.cell (h5 i hi) (by simp; omega), h6⟩
theorem Bytes.below {base : Nat} {w w' : World} {v : Value} {len : Nat} (h : Bytes base w v len) (hb : Below base w w') : Bytes base w' v len := by
  rcases h with h | ⟨b, off, cap, zs, hv, h1, h2, h3, h4, h5, h6⟩
  · exact .inl h
  · exact .inr ⟨b, off, cap, zs, hv, h1, h2, h3, h4, fun i hi => (hb.cell (p := ⟨b, off + i, none⟩) h4).trans (h5 i hi), h6⟩

/-- A cursor that can be asked: where it lies, and the bytes that it reads. -/
def Able (base : Nat) (w : World) (B : Nat) : Prop := base ≤ B ∧ ∃ v len, Bytes base w v len ∧ Cur w B v len
theorem Able.on {base B : Nat} {w w' : World} (h : Able base w B) (row : Option Nat) (hr : row ≠ some B) (hb : ∀ k, row = some k → base ≤ k) (hg : w.grownBy w' row) : Able base w' B := by
  obtain ⟨h1, v, len, hy, i, hh, a, b, c, hB⟩ := h
  refine ⟨h1, v, len, ?_, i, hh, a, b, c, ?_⟩
  · rcases hy with hy | ⟨b, off, cap, zs, hv, g1, g2, g3, g4, g5, g6⟩
    · exact .inl hy
    · exact .inr ⟨b, off, cap, zs, hv, g1, g2, g3, g4, fun i hi => hg.cell (g5 i hi) (fun e => by have := hb b e.symm; omega), g6⟩
  · rw [hg.block B (Array.getElem?_eq_some_iff.1 hB).1 (fun e => hr e.symm)]
    exact hB

theorem byte_any (base B : Nat) (w : World) (h : Able base w B) :
    Calls Tryd.prog 118 #[.pointer (some ⟨B, 0, none⟩)] w fun e w' => ∃ x : Int, e = .returned (.int .i64 x) ∧ 0 ≤ x ∧ x ≤ 255 ∧ Able base w' B ∧ w.grownBy w' (some B) := by
  obtain ⟨hbase, v, len, hy, i, hh, a, b, c, hB⟩ := h
  have hy0 := hy
  have key : Calls Tryd.prog 118 #[.pointer (some ⟨B, 0, none⟩)] w fun e w' => ∃ x : Int, e = .returned (.int .i64 x) ∧ 0 ≤ x ∧ x ≤ 255 ∧ Cur w' B v len ∧ w.grownBy w' (some B) := by
    rcases hy with ⟨⟨a', cap, rfl⟩, rfl⟩ | ⟨b', off, cap, zs, rfl, g1, g2, g3, g4, g5, g6⟩
    · exact byte_end B a' 0 cap i hh w (by omega) (by omega) hB
    · by_cases hi : i < len
      · exact byte_some B b' off len cap zs i hh w hi g1 (by unfold maxLen at g2; omega) g3 g5 g6 (by omega) hB
      · exact byte_end B _ len cap i hh w hi a hB
  refine key.mono fun e w' ⟨x, he, h0, h1, hc, hg⟩ => ⟨x, he, h0, h1, ⟨hbase, v, len, hy0.on hbase hg, hc⟩, hg⟩

/-- A number that was drawn: what the walk is told of it. -/
def Drawn (base B : Nat) (P : Int → Prop) (w : World) (e : Ending) (w' : World) : Prop := ∃ x : Int, e = .returned (.int .i64 x) ∧ P x ∧ Able base w' B ∧ w.grownBy w' (some B)

set_option maxHeartbeats 1600000 in
theorem below_any (base B : Nat) (n : Int) (w : World) (h : Hid (Able base w B)) (hn : 1 ≤ n) (hn2 : n ≤ 4000000000) :
    Calls Tryd.prog 86 #[.pointer (some ⟨B, 0, none⟩), .int .i64 n] w (Drawn base B (fun x => 0 ≤ x ∧ x < n) w) := by
  by_cases h256 : n ≤ 256
  · go_enter Tryd.func86, Tryd.ntmps86
    go_wp2_with fail
    refine (byte_any base B _ h.out).mono ?_
    rintro e w1 ⟨x, rfl, x0, x1, ha, hg⟩
    have HA := Lib.hid ha
    have HG := Lib.hid hg
    clear ha hg
    go_wp2
    go_ret
    exact ⟨_, rfl, ⟨Int.emod_nonneg _ (by omega), Int.emod_lt_of_pos _ (by omega)⟩, HA.out, HG.out⟩
  · go_enter Tryd.func86, Tryd.ntmps86
    go_wp2_with fail
    refine (byte_any base B _ h.out).mono ?_
    rintro e w1 ⟨x, rfl, x0, x1, ha1, hg1⟩
    have HA1 := Lib.hid ha1
    have HG1 := Lib.hid hg1
    clear ha1 hg1
    go_wp2_with fail
    refine (byte_any base B _ HA1.out).mono ?_
    rintro e w2 ⟨y, rfl, y0, y1, ha2, hg2⟩
    have HA2 := Lib.hid ha2
    have HG2 := Lib.hid (grown_two HG1.out hg2)
    clear ha2 hg2
    go_wp2_with fail
    refine (byte_any base B _ HA2.out).mono ?_
    rintro e w3 ⟨z, rfl, z0, z1, ha3, hg3⟩
    have HA3 := Lib.hid ha3
    have HG3 := Lib.hid (grown_two HG2.out hg3)
    clear ha3 hg3
    go_wp2_with fail
    refine (byte_any base B _ HA3.out).mono ?_
    rintro e w4 ⟨u, rfl, u0, u1, ha4, hg4⟩
    have HA4 := Lib.hid ha4
    have HG4 := Lib.hid (grown_two HG3.out hg4)
    clear ha4 hg4
    go_wp2
    go_ret
    exact ⟨_, rfl, ⟨Int.emod_nonneg _ (by omega), Int.emod_lt_of_pos _ (by omega)⟩, HA4.out, HG4.out⟩

def Fits (x : Int) : Prop := -9223372036854775808 ≤ x ∧ x ≤ 9223372036854775807

set_option maxHeartbeats 800000 in
theorem pick_any (base B L n : Nat) (w : World) (h : Hid (Able base w B)) (hn : 1 ≤ n) (hn2 : n ≤ 1000) (hL : L ≠ B) (hcell : Hid (∀ j, j < n → ∃ y, w.cell? ⟨L, j, none⟩ = some (.int .i64 y) ∧ Fits y)) :
    Calls Tryd.prog 88 #[.pointer (some ⟨B, 0, none⟩), .slice (some ⟨L, 0, none⟩) n n] w (Drawn base B Fits w) := by
  go_enter Tryd.func88, Tryd.ntmps88
  go_wp2_with fail
  refine (below_any base B n _ h (by omega) (by omega)).mono ?_
  rintro e w1 ⟨x, rfl, ⟨x0, x1⟩, ha, hg⟩
  obtain ⟨k, rfl⟩ := Int.eq_ofNat_of_zero_le x0
  obtain ⟨y, hy, hf⟩ := hcell.out k (by omega)
  have hc := hg.cell hy (by simp; exact hL)
  have HA := Lib.hid ha
  have HG := Lib.hid hg
  clear ha hg hy
  go_wp2
  go_ret
  exact ⟨y, rfl, hf, HA.out, HG.out⟩

def fitB : Value → Bool
  | .int .i64 y => decide (-9223372036854775808 ≤ y) && decide (y ≤ 9223372036854775807)
  | _ => false
theorem fitB_spec {v : Value} (h : fitB v = true) : ∃ y, v = .int .i64 y ∧ Fits y := by
  unfold fitB at h
  split at h
  · rename_i y
    simp at h
    exact ⟨y, rfl, h.1, h.2⟩
  · cases h
theorem new_fits (w : World) (cs : Array Value) (T : TypeId) (n : Nat) (hn : cs.size = n) (h : cs.all fitB = true) : ∀ j, j < n → ∃ y, (w.alloc (.cells cs T)).cell? ⟨w.heap.size, j, none⟩ = some (.int .i64 y) ∧ Fits y := by
  intro j hj
  have hj' : j < cs.size := by omega
  obtain ⟨y, hy, hf⟩ := fitB_spec (by have := Array.all_eq_true.1 h j hj'; exact this)
  refine ⟨y, ?_, hf⟩
  rw [cell_of_row _ w.heap.size j cs T (0, 0) (heap_alloc_new w _), Array.getElem?_eq_getElem hj', hy]

theorem grown_alloc {w : World} (o : Obj) (B : Option Nat) : w.grownBy (w.alloc o) B := World.grownBy_alloc w o B

/-- A text that was drawn. -/
def DrawnT (base B most : Nat) (w : World) (e : Ending) (w' : World) : Prop := ∃ l : List UInt8, e = .returned (.string ⟨l.toArray⟩) ∧ l.length ≤ most ∧ Able base w' B ∧ w.grownBy w' (some B)

/-- An append to a row of the call's own, seen from the world ahead of the call. -/
theorem grown_own {w wr w1 : World} {B : Nat} {e : TypeId} {v : Value} {n : Nat} {xs : List Value} {o : Obj} (hg : w.grownBy wr (some B)) (hown : wr.ownsRow w.heap.size e 1 v n xs) (hg1 : (wr.alloc o).grownBy w1 v.ownBlock) : w.grownBy w1 (some B) := by
  have hs := hg.size
  have hz : (wr.alloc o).heap.size = wr.heap.size + 1 := by simp
  have hs1 := hg1.size
  refine ⟨hg1.os.trans hg.os, hg1.tape.trans hg.tape, hg1.output.trans hg.output, by omega, fun k hk hb => ?_⟩
  rw [hg1.block k (by omega) (fun e => by have := (hown.lt k e.symm).1; omega), Below.heap_alloc _ _ _ (by omega)]
  exact hg.block k hk hb
theorem able_own {base B : Nat} {w wr w1 : World} {e : TypeId} {v : Value} {n : Nat} {xs : List Value} {o : Obj} (h : Able base wr B) (hB : B < w.heap.size) (hbw : base ≤ w.heap.size) (hown : wr.ownsRow w.heap.size e 1 v n xs) (hg1 : (wr.alloc o).grownBy w1 v.ownBlock) : Able base w1 B :=
  (h.on none (by simp) (by simp) (grown_alloc o _)).on v.ownBlock (fun e => by have := (hown.lt B e).1; omega) (fun k hk => by have := (hown.lt k hk).1; omega) hg1
theorem own_kept {base B : Nat} {wr w1 : World} {e : TypeId} {v : Value} {n : Nat} {xs : List Value} (hown : wr.ownsRow base e 1 v n xs) (hB : B < base) (hg : wr.grownBy w1 (some B)) : w1.ownsRow base e 1 v n xs :=
  hown.kept hg (by
    cases hv : v.ownBlock with
    | none => exact .inl rfl
    | some k => exact .inr (fun e => by have := (hown.lt k hv).1; have := Option.some.inj e; omega))

end Go.Proofs.YtfpoiiennlhphaaDoor.C
