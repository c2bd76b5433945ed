/-
  Lists of integers in memory: what a slice reads as, what a call owns, and what the memory of a law holds from step to step.
-/
import Derived.Test.YtffbiflgmlabaaaRows
import Derived.WalkKit
import Derived.Laws.MakeOwn
import Derived.WalkLawsBesides
import Derived.WalkSpells
import Derived.Lib.Hide
import Derived.OwnWalk
import Derived.OneCell
import Derived.Deep.AppendLies
import Derived.Deep.QuietTactic
import Derived.BigQuiet
import Derived.Outline
import Derived.IntWalk
namespace Go.Proofs.Ytffbiflgmlabaaa.K
open Go.RowKit
set_option linter.unusedVariables false

/-- Integers as the cells that hold them. -/
def ints (xs : List Int) : List Value := xs.map (Value.int .i64)
theorem ints_length (xs : List Int) : (ints xs).length = xs.length := by simp [ints]
theorem ints_append (xs ys : List Int) : ints (xs ++ ys) = ints xs ++ ints ys := by simp [ints]
theorem ints_one (xs : List Int) : ∀ u ∈ ints xs, u.oneCell' = true := ints_oneCell .i64 xs
theorem ints_at (xs : List Int) {j : Nat} (h : j < xs.length) : (ints xs)[j]? = some (.int .i64 (xs.getD j 0)) := by
  simp [ints, h]
theorem ints_set (xs : List Int) (j : Nat) (x : Int) : (ints xs).set j (.int .i64 x) = ints (xs.set j x) := by
  simp [ints, List.map_set]

/-- A slice of xs.length elements at A reads as xs, below block B. -/
def Ints (w : World) (B : Nat) (A : Option Addr) (xs : List Int) : Prop :=
  0 < xs.length → ∃ b off, A = some ⟨b, off, none⟩ ∧ b < B ∧ ∀ j, j < xs.length → w.cell? ⟨b, off + j, none⟩ = some (.int .i64 (xs.getD j 0))


section

variable {w w' : World} {B B' : Nat} {A : Option Addr} {xs : List Int}
theorem Ints.at_ (h : Ints w B A xs) {k : Nat} (hk : k < xs.length) : ∃ b off, A = some ⟨b, off, none⟩ ∧ b < B ∧ w.cell? ⟨b, off + k, none⟩ = some (.int .i64 (xs.getD k 0)) := by
  obtain ⟨b, off, h1, h2, h3⟩ := h (by omega)
  exact ⟨b, off, h1, h2, h3 k hk⟩
theorem Ints.keep (h : Ints w B A xs) (hk : ∀ p : Addr, p.block < B → w'.cell? p = w.cell? p) : Ints w' B A xs := fun h0 => by
  obtain ⟨b, off, h1, h2, h3⟩ := h h0
  exact ⟨b, off, h1, h2, fun j hj => (hk _ h2).trans (h3 j hj)⟩
theorem Ints.below (h : Ints w B A xs) (hb : Below B w w') : Ints w' B A xs := h.keep fun _ hp => hb.cell hp
theorem Ints.mono (h : Ints w B A xs) (hB : B ≤ B') : Ints w B' A xs := fun h0 => by
  obtain ⟨b, off, h1, h2, h3⟩ := h h0
  exact ⟨b, off, h1, by omega, h3⟩
theorem Ints.drewN (h : Ints w B A xs) (k : Nat) : Ints (w.drewN k) B A xs := h
theorem Ints.drew (h : Ints w B A xs) : Ints w.drew B A xs := h
theorem Ints.nil (w : World) (B : Nat) (A : Option Addr) : Ints w B A [] := fun h => by simp at h

end


/-- The call owns the slice v: it reads as xs, and may be written. -/
def Own (w : World) (lo : Nat) (v : Value) (xs : List Int) : Prop := w.ownsRow lo 3 1 v xs.length (ints xs)
/-- The same, with its length said. -/
def OwnN (w : World) (lo : Nat) (v : Value) (n : Nat) (xs : List Int) : Prop := w.ownsRow lo 3 1 v n (ints xs)
theorem OwnN.len {w : World} {lo n : Nat} {v : Value} {xs : List Int} (h : OwnN w lo v n xs) : xs.length = n := by simpa [ints] using h.1
theorem OwnN.own {w : World} {lo n : Nat} {v : Value} {xs : List Int} (h : OwnN w lo v n xs) : Own w lo v xs := by
  have := h.len
  subst this
  exact h


section

variable {w w' : World} {lo : Nat} {v : Value} {xs : List Int}
theorem Own.form (h : Own w lo v xs) : ∃ A cap, v = .slice A xs.length cap ∧ Ints w w.heap.size A xs := by
  rcases h.2 with ⟨rfl, h0⟩ | ⟨g, cap, cur, rfl, hg, hh, hn, hm, hs, ht⟩
  · exact ⟨none, 0, by rw [h0], fun hx => by omega⟩
  · refine ⟨_, cap, rfl, fun _ => ⟨g, 0, rfl, (h.lt g rfl).2, fun j hj => ?_⟩⟩
    have := h.cellAt (g := g) j (by omega)
    rw [Nat.zero_add, this, ints_at xs hj]
theorem Own.read {A : Option Addr} {n cap : Nat} (h : Own w lo (.slice A n cap) xs) : Ints w w.heap.size A xs := by
  obtain ⟨A', c', hv, hr⟩ := h.form
  injection hv with h1
  subst h1
  exact hr
theorem Own.below (h : Own w lo v xs) (hb : Below w.heap.size w w') : Own w' lo v xs :=
  World.ownsRow.kept h (row := none) ⟨hb.os, hb.tape, hb.output, hb.size, fun k hk _ => hb.block k hk⟩ (by
    cases hv : v.ownBlock with
    | none => exact .inl rfl
    | some k => exact .inr (by simp))
theorem Own.mono {lo' : Nat} (h : Own w lo v xs) (hl : lo' ≤ lo) : Own w lo' v xs := by
  refine ⟨h.1, ?_⟩
  rcases h.2 with h2 | ⟨g, cap, cur, hv, hg, r⟩
  · exact .inl h2
  · exact .inr ⟨g, cap, cur, hv, by omega, r⟩
theorem Own.drewN (h : Own w lo v xs) (k : Nat) : Own (w.drewN k) lo v xs := h
theorem Own.drew (h : Own w lo v xs) : Own w.drew lo v xs := h
theorem Own.nil (w : World) (lo : Nat) : Own w lo (.slice none 0 0) [] := World.ownsRow_nil w lo _ _

end


/-- What a call that returns a list leaves: it is new, and nothing else has turned. -/
def RetI (w : World) (xs : List Int) (e : Ending) (w' : World) : Prop := ∃ A c, e = .returned (.slice A xs.length c) ∧ Own w' w.heap.size (.slice A xs.length c) xs ∧ Below w.heap.size w w'
/-- A function: a number and a list. -/
def RetF (w : World) (n : Int) (xs : List Int) (e : Ending) (w' : World) : Prop := ∃ A c, e = .returned (.agg #[.int .i64 n, .slice A xs.length c]) ∧ Own w' w.heap.size (.slice A xs.length c) xs ∧ Below w.heap.size w w'
/-- A function and a bool. -/
def RetFB (w : World) (n : Int) (xs : List Int) (b : Bool) (e : Ending) (w' : World) : Prop := ∃ A c, e = .returned (.tuple #[.agg #[.int .i64 n, .slice A xs.length c], .bool b]) ∧ Own w' w.heap.size (.slice A xs.length c) xs ∧ Below w.heap.size w w'
/-- A list and a bool. -/
def RetIB (w : World) (xs : List Int) (b : Bool) (e : Ending) (w' : World) : Prop := ∃ A c, e = .returned (.tuple #[.slice A xs.length c, .bool b]) ∧ Own w' w.heap.size (.slice A xs.length c) xs ∧ Below w.heap.size w w'
/-- A value alone. -/
def RetV (w : World) (v : Value) (e : Ending) (w' : World) : Prop := e = .returned v ∧ Below w.heap.size w w'

theorem info_int : (Try.prog.info? 3).map (fun i => (i.zero, i.size, i.bytes)) = some (some (.int .i64 0), 1, 8) := by kernel_rfl

theorem below_drewN {B : Nat} {a w : World} (h : Below B a w) (n : Nat) : Below B a (w.drewN n) := ⟨h.os, h.tape, h.output, h.size, h.block⟩

theorem getD_take {xs : List Int} {j k : Nat} (h : j < k) : (xs.take k).getD j 0 = xs.getD j 0 := by
  simp only [List.getD_eq_getElem?_getD, List.getElem?_take, if_pos h]
theorem zeros (n : Nat) : (madeCells (Value.int .i64 0).cells (n * 1)).toList = ints (List.replicate n 0) := by
  rw [Nat.mul_one]
  show (madeCells #[.int .i64 0] n).toList = _
  rw [toList_madeCells_one]
  simp [ints]

/-- k, k + 1, and so on: n numbers. -/
def iota (k : Int) (n : Nat) : List Int := (List.range n).map fun j : Nat => k + (j : Int)
theorem iota_length (k : Int) (n : Nat) : (iota k n).length = n := by simp [iota]
theorem iota_at (k : Int) (n j : Nat) (h : j < n) : (iota k n).getD j 0 = k + j := by
  simp [iota, h]

end Go.Proofs.Ytffbiflgmlabaaa.K
