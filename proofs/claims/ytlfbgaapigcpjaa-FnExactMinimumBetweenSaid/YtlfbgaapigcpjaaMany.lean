/-
  Slices of structs of integers: they lie flat, some numbers an element; what the memory of a call knows of them.
-/
import Derived.Test.YtlfbgaapigcpjaaBase
namespace Go.Proofs.Ytlfbgaapigcpjaa.K
open Go.RowKit
set_option linter.unusedVariables false

/-- A row of n structs of type t, k numbers each. -/
def mr (t : TypeId) (k : Nat) (v : Value) (n : Nat) (xs : List Int) : Cel := ⟨t, k, v, n, ints xs⟩

section

variable {w0 w w' : World} {L : List Cel} {t : TypeId} {k : Nat}
theorem mr_len {lo n : Nat} {v : Value} {xs : List Int} (h : w.ownsRow lo t k v n (ints xs)) : xs.length = n * k := by simpa [ints] using h.1
theorem mr_read {lo n cap : Nat} {A : Option Addr} {xs : List Int} (h : w.ownsRow lo t k (.slice A n cap) n (ints xs)) : Ints w w.heap.size A xs := by
  have hl := mr_len h
  intro h0
  have hn : 0 < n := Nat.pos_of_ne_zero fun e => by rw [e, Nat.zero_mul] at hl; omega
  obtain ⟨g, cap', hv, -, hg⟩ := h.form hn
  injection hv with h1 _ h3
  subst h1 h3
  refine ⟨g, 0, rfl, hg, fun j hj => ?_⟩
  rw [Nat.zero_add, h.cellAt j (by omega), ints_at xs hj]
theorem St.intsM {i n c : Nat} {A : Option Addr} {xs : List Int} (h : St w0 w L) (hi : L[i]? = some (mr t k (.slice A n c) n xs)) : Ints w w.heap.size A xs := mr_read (h.own hi)
theorem St.setM {i g c n : Nat} {xs : List Int} (h : St w0 w L) (hi : L[i]? = some (mr t k (.slice (some ⟨g, 0, none⟩) n c) n xs)) (j : Nat) (y : Int) : St w0 (w.setCell ⟨g, j, none⟩ (.int .i64 y)) (L.set i (mr t k (.slice (some ⟨g, 0, none⟩) n c) n (xs.set j y))) := by
  obtain ⟨h1, h2⟩ := (h.own hi).stored j (.int .i64 y)
  rw [show (mr t k (.slice (some ⟨g, 0, none⟩) n c) n xs).cs.set j (.int .i64 y) = K.ints (xs.set j y) from ints_set xs j y] at h1
  exact h.mark hi h2 h1
theorem St.cellM {i g c n : Nat} {xs : List Int} (h : St w0 w L) (hi : L[i]? = some (mr t k (.slice (some ⟨g, 0, none⟩) n c) n xs)) {j : Nat} (hj : j < n * k) : w.cell? ⟨g, j, none⟩ = some (.int .i64 (xs.getD j 0)) ∧ w.frozen? ⟨g, j, none⟩ = false := by
  have hl : xs.length = n * k := mr_len (h.own hi)
  refine ⟨?_, (h.own hi).frozenAt j⟩
  rw [(h.own hi).cellAt j (by simpa [mr] using hj)]
  exact ints_at xs (by omega)
theorem St.markM {i n : Nat} {v : Value} {xs ys : List Int} (h : St w0 w L) (hi : L[i]? = some (mr t k v n xs)) (hg : w.grownBy w' v.ownBlock) (ho : w'.ownsRow w0.heap.size t k v n (K.ints ys)) : St w0 w' (L.set i (mr t k v n ys)) := h.mark hi hg ho
theorem St.newM {v : Value} {n : Nat} {xs : List Int} (h : St w0 w L) (hb : Below w.heap.size w w') (ho : w'.ownsRow w.heap.size t k v n (K.ints xs)) : St w0 w' (mr t k v n xs :: L) := h.new hb ho

end


/-- What a call that returns a slice of n structs leaves: it is new, and nothing else has turned. -/
def RetM (t : TypeId) (k : Nat) (w : World) (n : Nat) (xs : List Int) (e : Ending) (w' : World) : Prop := ∃ A c, e = .returned (.slice A n c) ∧ w'.ownsRow w.heap.size t k (.slice A n c) n (ints xs) ∧ Below w.heap.size w w'


section

variable {w : World} {B : Nat} {A : Option Addr} {xs : List Int}
/-- Element k of a slice of structs of two, three numbers. -/
theorem Ints.at2 (h : Ints w B A xs) {n k : Nat} (hl : xs.length = n * 2) (hk : k < n) : ∃ b off, A = some ⟨b, off, none⟩ ∧ b < B ∧ w.cell? ⟨b, off + k * 2, none⟩ = some (.int .i64 (xs.getD (k * 2) 0)) ∧ w.cell? ⟨b, off + k * 2 + 1, none⟩ = some (.int .i64 (xs.getD (k * 2 + 1) 0)) := by
  obtain ⟨b, off, h1, h2, h3⟩ := h (by omega)
  exact ⟨b, off, h1, h2, h3 _ (by omega), by rw [Nat.add_assoc]; exact h3 _ (by omega)⟩
theorem Ints.at3 (h : Ints w B A xs) {n k : Nat} (hl : xs.length = n * 3) (hk : k < n) : ∃ b off, A = some ⟨b, off, none⟩ ∧ b < B ∧ w.cell? ⟨b, off + k * 3, none⟩ = some (.int .i64 (xs.getD (k * 3) 0)) ∧ w.cell? ⟨b, off + k * 3 + 1, none⟩ = some (.int .i64 (xs.getD (k * 3 + 1) 0)) ∧ w.cell? ⟨b, off + k * 3 + 2, none⟩ = some (.int .i64 (xs.getD (k * 3 + 2) 0)) := by
  obtain ⟨b, off, h1, h2, h3⟩ := h (by omega)
  exact ⟨b, off, h1, h2, h3 _ (by omega), by rw [Nat.add_assoc]; exact h3 _ (by omega), by rw [Nat.add_assoc]; exact h3 _ (by omega)⟩

end

theorem set_take {xs ys : List Int} {j : Nat} (ht : ys.take j = xs.take j) (hy : j < ys.length) (hx : j < xs.length) : (ys.set j (xs.getD j 0)).take (j + 1) = xs.take (j + 1) := by
  rw [List.take_succ_eq_append_getElem (by simpa using hy), List.take_succ_eq_append_getElem hx, List.take_set_of_le (Nat.le_refl _), ht]
  simp [hx]
theorem zerosM (z : Array Value) (n : Nat) (h0 : 0 < z.size) (hz : ∀ i, i < z.size → z[i]! = .int .i64 0) : (madeCells z n).toList = ints (List.replicate n 0) := by
  have e : (madeCells z n).toList = (List.range n).map fun i => z[i % z.size]! := by simp [madeCells]
  rw [e]
  unfold ints
  rw [List.map_replicate]
  refine List.eq_replicate_iff.2 ⟨by simp, fun x hx => ?_⟩
  obtain ⟨i, _, rfl⟩ := List.mem_map.1 hx
  exact hz _ (Nat.mod_lt _ h0)
theorem zeros3 (n : Nat) : (madeCells (Value.agg #[.int .i64 0, .int .i64 0, .int .i64 0]).cells n).toList = ints (List.replicate n 0) := zerosM #[.int .i64 0, .int .i64 0, .int .i64 0] n (by decide) fun i hi => match i, hi with
  | 0, _ => rfl
  | 1, _ => rfl
  | 2, _ => rfl
theorem zeros2 (n : Nat) : (madeCells (Value.agg #[.int .i64 0, .int .i64 0]).cells n).toList = ints (List.replicate n 0) := zerosM #[.int .i64 0, .int .i64 0] n (by decide) fun i hi => match i, hi with
  | 0, _ => rfl
  | 1, _ => rfl


end Go.Proofs.Ytlfbgaapigcpjaa.K
