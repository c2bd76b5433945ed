/-
  The contracts of the draws of chapter 2, as the laws call them.
-/
import Derived.Test.YtgenllnpmjialaaDrawG
import Derived.StillTailTactics
namespace Go.Proofs.Ytgenllnpmjialaa.C
open Go.RowKit M K
set_option linter.unusedVariables false
set_option linter.unusedSimpArgs false

/-- Bytes as they stand in a later memory. -/
theorem Bytes.later {w0 w : World} {v : Value} {len : Nat} (h : Bytes w0.heap.size w0 v len) (hb : Below w0.heap.size w0 w) : Bytes w.heap.size w v len := by
  rcases h.below hb with h | ⟨x, off, cap, zs, hv, h1, h2, h3, h4, h5, h6⟩
  · exact .inl h
  · exact .inr ⟨x, off, cap, zs, hv, h1, h2, h3, Nat.lt_of_lt_of_le h4 hb.size, h5, h6⟩


section

variable {w0 w : World} {v : Value} {len : Nat} {L : List Cel}
theorem new_st (h : St w0 w L) (hy : Bytes w0.heap.size w0 v len) (hl : len ≤ 1048576) :
    Calls Try.prog 32 #[v] w fun e w' => e = .returned (.pointer (some ⟨w.heap.size, 0, none⟩)) ∧ Dr w0 v len w.heap.size w' L := by
  refine (new_cur v len w hl (hy.later h.base)).mono ?_
  rintro e w' ⟨rfl, i, x, a, b1, b2, hB, hb⟩
  exact ⟨rfl, hy, i, x, a, ⟨b1, b2⟩, h.new (t := 60) (s := 3) (n := 1) (v := .slice (some ⟨w.heap.size, 0, none⟩) 1 1) (cs := [v, .int .i64 i, .int .i64 x]) hb (bx_own hB (Nat.le_refl _))⟩

end


/-- A function whose values are new. -/
def IsF (w w' : World) (v : Value) (n : Int) (xs : List Int) : Prop := ∃ A c, v = .agg #[.int .i64 n, .slice A xs.length c] ∧ Own w' w.heap.size (.slice A xs.length c) xs ∧ 1 ≤ xs.length ∧ xs.length ≤ 32
def GotF (w : World) (e : Ending) (w' : World) : Prop := ∃ v n xs, e = .returned v ∧ IsF w w' v n xs ∧ Below w.heap.size w w'
def GotFI (P : Int → Prop) (w : World) (e : Ending) (w' : World) : Prop := ∃ v n xs x, e = .returned (.tuple #[v, .int .i64 x]) ∧ P x ∧ IsF w w' v n xs ∧ Below w.heap.size w w'
def GotFII (P : Int → Int → Prop) (w : World) (e : Ending) (w' : World) : Prop := ∃ v n xs x y, e = .returned (.tuple #[v, .int .i64 x, .int .i64 y]) ∧ P x y ∧ IsF w w' v n xs ∧ Below w.heap.size w w'
def GotFF (w : World) (e : Ending) (w' : World) : Prop := ∃ v n xs u m ys, e = .returned (.tuple #[v, u]) ∧ IsF w w' v n xs ∧ IsF w w' u m ys ∧ Below w.heap.size w w'


section

variable (v : Value) (len : Nat) (w : World) (hl : len ≤ 1048576) (hy : Hid (Bytes w.heap.size w v len))
include hl hy


end


end Go.Proofs.Ytgenllnpmjialaa.C
