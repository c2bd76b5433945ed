/-
  The contracts of the cursor's making and of the draws of chapter 1.
-/
import Derived.Test.YtfpoiiennlhphaaDoorDraw
namespace Go.Proofs.YtfpoiiennlhphaaDoor.C
open Go.RowKit M K
set_option linter.unusedVariables false

/-- A new cursor. -/
def DrawnC (w : World) (e : Ending) (w' : World) : Prop := e = .returned (.pointer (some ⟨w.heap.size, 0, none⟩)) ∧ Able w.heap.size w' w.heap.size ∧ Below w.heap.size w w'

theorem and_fits (x y : Int) : Fits (bits .and .i64 x y) := ⟨bits_lo_i64 .and x y, bits_hi_i64 .and x y⟩

theorem made_cur (w : World) (v : Value) (len : Nat) (h : Int) (hy : Bytes w.heap.size w v len) (hf : Fits h) :
    Able w.heap.size (w.alloc (.cells #[v, .int .i64 0, .int .i64 h] 87)) w.heap.size ∧ Below w.heap.size w (w.alloc (.cells #[v, .int .i64 0, .int .i64 h] 87)) := by
  have hb : Below w.heap.size w (w.alloc (.cells #[v, .int .i64 0, .int .i64 h] 87)) := (Below.refl _ _).alloc (Nat.le_refl _) _
  exact ⟨⟨Nat.le_refl _, v, len, hy.below hb, 0, h, Nat.zero_le _, hf.1, hf.2, heap_alloc_new w _⟩, hb⟩

set_option maxRecDepth 100000 in
set_option maxHeartbeats 1600000 in
theorem new_nil (a : Option Addr) (cap : Nat) (w : World) : Calls Tryd.prog 69 #[.slice a 0 cap] w (DrawnC w) := by
  have hc := made_cur w (.slice a 0 cap) 0 10101 (.inl ⟨⟨a, cap, rfl⟩, rfl⟩) ⟨by decide, by decide⟩
  have HC := Lib.hid hc
  clear hc
  go_enter Tryd.func69, Tryd.ntmps69
  go_wp2
  go_loop [3, 4] (fun h c => h = .int .i64 10101 ∧ c = .int .i64 0) (fun _ _ => 0)
  case atStart => exact ⟨rfl, rfl⟩
  case round =>
    obtain ⟨rfl, rfl⟩ := hrel
    go_wp2
    go_ret
    exact ⟨rfl, HC.out.1, HC.out.2⟩

set_option maxRecDepth 100000 in
set_option maxHeartbeats 1600000 in
theorem new_some (b off len cap : Nat) (zs : List Int) (w : World) (hcap : len ≤ cap) (hmax : cap ≤ 9223372036854775807) (hl : len ≤ 1048576) (hz : zs.length = cap) (hb : b < w.heap.size)
    (hcell : Hid (∀ j, j < zs.length → w.cell? ⟨b, off + j, none⟩ = some (.int .u8 (zs.getD j 0)))) (hzb : Hid (∀ n ∈ zs, 0 ≤ n ∧ n ≤ 255)) :
    Calls Tryd.prog 69 #[.slice (some ⟨b, off, none⟩) len cap] w (DrawnC w) := by
  have hy : Bytes w.heap.size w (.slice (some ⟨b, off, none⟩) len cap) len := .inr ⟨b, off, cap, zs, rfl, hcap, hmax, hz, hb, hcell.out, hzb.out⟩
  have HY := Lib.hid hy
  clear hy
  go_enter Tryd.func69, Tryd.ntmps69
  go_wp2
  go_loop [3, 4] (fun h c => ∃ (x : Int) (i : Nat), h = .int .i64 x ∧ Fits x ∧ c = .int .i64 i ∧ i ≤ len ∧ i ≤ 4000) (fun _ c => len - (intOf c).toNat)
  case atStart => exact ⟨_, 0, rfl, ⟨by omega, by omega⟩, rfl, Nat.zero_le _, Nat.zero_le _⟩
  case round =>
    obtain ⟨x, i, rfl, hx, rfl, hi1, hi2⟩ := hrel
    by_cases hin : i < len ∧ i < 4000
    · obtain ⟨g1, g2⟩ := hin
      have hiz : i < zs.length := by omega
      have hc := hcell.out i hiz
      have HX := Lib.hid hx
      clear hx
      generalize zs.getD i 0 = z at hc
      go_wp2
      go_round
      case rel => exact ⟨_, i + 1, rfl, and_fits _ _, by go_num, by omega, by omega⟩
      case measure => simp [intOf]; omega
    · have hi3 : i = len ∨ i = 4000 := by omega
      have hc := made_cur w (.slice (some ⟨b, off, none⟩) len cap) len x HY.out hx
      have HC := Lib.hid hc
      clear hc hin
      go_wp2
      all_goals
        go_ret
        exact ⟨rfl, HC.out.1, HC.out.2⟩

theorem new_any (v : Value) (len : Nat) (w : World) (hl : len ≤ 1048576) (hy : Bytes w.heap.size w v len) : Calls Tryd.prog 69 #[v] w (DrawnC w) := by
  rcases hy with ⟨⟨a, cap, rfl⟩, rfl⟩ | ⟨b, off, cap, zs, rfl, h1, h2, h3, h4, h5, h6⟩
  · exact new_nil a cap w
  · exact new_some b off len cap zs w h1 (by unfold maxLen at h2; omega) hl h3 h4 (Lib.hid h5) (Lib.hid h6)

/-- What is made by the call, and a block of the call's own that is written: nothing that was there has turned. -/
theorem below_cur {w w1 w2 : World} (h : Below w.heap.size w w1) (hg : w1.grownBy w2 (some w.heap.size)) : Below w.heap.size w w2 :=
  h.grown hg h.size (fun k hk => by cases hk; exact Nat.le_refl _)

def GotI (w : World) (e : Ending) (w' : World) : Prop := ∃ x : Int, e = .returned (.int .i64 x) ∧ Fits x ∧ Below w.heap.size w w'
def GotT (most : Nat) (w : World) (e : Ending) (w' : World) : Prop := ∃ l : List UInt8, e = .returned (.string ⟨l.toArray⟩) ∧ l.length ≤ most ∧ Below w.heap.size w w'
def GotII (w : World) (e : Ending) (w' : World) : Prop := ∃ x y : Int, e = .returned (.tuple #[.int .i64 x, .int .i64 y]) ∧ Fits x ∧ -1 ≤ y ∧ y ≤ 8 ∧ Below w.heap.size w w'

end Go.Proofs.YtfpoiiennlhphaaDoor.C
