/-
  Lists of integers in memory: what a slice reads as, what a call owns, and what the memory of a law holds from step to step.
  What the memory of a call holds from step to step: a list of blocks that the call owns, pairwise apart, each known whole.
  What the walks of the laws import besides.
  The contracts of the law's own helpers on lists of integers: the size taken off, the copy, the comparison, the marks.
-/
import Derived.Test.YtffbiflgmlabaaaGreatDoorRows
import Derived.WalkKit
import Derived.Laws.MakeOwn
import Derived.WalkLawsBesides
import Derived.WalkSpells
import Derived.Lib.Hide
import Derived.OwnWalk
import Derived.OneCell
import Derived.Deep.AppendLies
import Derived.Deep.QuietTactic
import Derived.BigQuiet
import Derived.Outline
import Derived.IntWalk
import Derived.Maps.AppendAt
import Derived.RegionTactic
import Derived.Deep.RegionHeld3
import Derived.Deep.DrawnRows
import Derived.Deep.DeepCutAuto
import Derived.Laws.NewBlocks
namespace Go.Proofs.YtffbiflgmlabaaaGreatDoor.K
open Go.RowKit
set_option linter.unusedVariables false

/-- Integers as the cells that hold them. -/
def ints (xs : List Int) : List Value := xs.map (Value.int .i64)
theorem ints_length (xs : List Int) : (ints xs).length = xs.length := by simp [ints]
theorem ints_append (xs ys : List Int) : ints (xs ++ ys) = ints xs ++ ints ys := by simp [ints]
theorem ints_one (xs : List Int) : ∀ u ∈ ints xs, u.oneCell' = true := ints_oneCell .i64 xs
theorem ints_at (xs : List Int) {j : Nat} (h : j < xs.length) : (ints xs)[j]? = some (.int .i64 (xs.getD j 0)) := by
  simp [ints, h]
theorem ints_set (xs : List Int) (j : Nat) (x : Int) : (ints xs).set j (.int .i64 x) = ints (xs.set j x) := by
  simp [ints, List.map_set]

/-- A slice of xs.length elements at A reads as xs, below block B. -/
def Ints (w : World) (B : Nat) (A : Option Addr) (xs : List Int) : Prop :=
  0 < xs.length → ∃ b off, A = some ⟨b, off, none⟩ ∧ b < B ∧ ∀ j, j < xs.length → w.cell? ⟨b, off + j, none⟩ = some (.int .i64 (xs.getD j 0))


section

variable {w w' : World} {B B' : Nat} {A : Option Addr} {xs : List Int}
theorem Ints.at_ (h : Ints w B A xs) {k : Nat} (hk : k < xs.length) : ∃ b off, A = some ⟨b, off, none⟩ ∧ b < B ∧ w.cell? ⟨b, off + k, none⟩ = some (.int .i64 (xs.getD k 0)) := by
  obtain ⟨b, off, h1, h2, h3⟩ := h (by omega)
  exact ⟨b, off, h1, h2, h3 k hk⟩
theorem Ints.keep (h : Ints w B A xs) (hk : ∀ p : Addr, p.block < B → w'.cell? p = w.cell? p) : Ints w' B A xs := fun h0 => by
  obtain ⟨b, off, h1, h2, h3⟩ := h h0
  exact ⟨b, off, h1, h2, fun j hj => (hk _ h2).trans (h3 j hj)⟩
theorem Ints.below (h : Ints w B A xs) (hb : Below B w w') : Ints w' B A xs := h.keep fun _ hp => hb.cell hp
theorem Ints.mono (h : Ints w B A xs) (hB : B ≤ B') : Ints w B' A xs := fun h0 => by
  obtain ⟨b, off, h1, h2, h3⟩ := h h0
  exact ⟨b, off, h1, by omega, h3⟩
theorem Ints.drewN (h : Ints w B A xs) (k : Nat) : Ints (w.drewN k) B A xs := h
theorem Ints.drew (h : Ints w B A xs) : Ints w.drew B A xs := h
theorem Ints.nil (w : World) (B : Nat) (A : Option Addr) : Ints w B A [] := fun h => by simp at h

end


/-- The call owns the slice v: it reads as xs, and may be written. -/
def Own (w : World) (lo : Nat) (v : Value) (xs : List Int) : Prop := w.ownsRow lo 3 1 v xs.length (ints xs)
/-- The same, with its length said. -/
def OwnN (w : World) (lo : Nat) (v : Value) (n : Nat) (xs : List Int) : Prop := w.ownsRow lo 3 1 v n (ints xs)
theorem OwnN.len {w : World} {lo n : Nat} {v : Value} {xs : List Int} (h : OwnN w lo v n xs) : xs.length = n := by simpa [ints] using h.1
theorem OwnN.own {w : World} {lo n : Nat} {v : Value} {xs : List Int} (h : OwnN w lo v n xs) : Own w lo v xs := by
  have := h.len
  subst this
  exact h


section

variable {w w' : World} {lo : Nat} {v : Value} {xs : List Int}
theorem Own.form (h : Own w lo v xs) : ∃ A cap, v = .slice A xs.length cap ∧ Ints w w.heap.size A xs := by
  rcases h.2 with ⟨rfl, h0⟩ | ⟨g, cap, cur, rfl, hg, hh, hn, hm, hs, ht⟩
  · exact ⟨none, 0, by rw [h0], fun hx => by omega⟩
  · refine ⟨_, cap, rfl, fun _ => ⟨g, 0, rfl, (h.lt g rfl).2, fun j hj => ?_⟩⟩
    have := h.cellAt (g := g) j (by omega)
    rw [Nat.zero_add, this, ints_at xs hj]
theorem Own.read {A : Option Addr} {n cap : Nat} (h : Own w lo (.slice A n cap) xs) : Ints w w.heap.size A xs := by
  obtain ⟨A', c', hv, hr⟩ := h.form
  injection hv with h1
  subst h1
  exact hr
theorem Own.below (h : Own w lo v xs) (hb : Below w.heap.size w w') : Own w' lo v xs :=
  World.ownsRow.kept h (row := none) ⟨hb.os, hb.tape, hb.output, hb.size, fun k hk _ => hb.block k hk⟩ (by
    cases hv : v.ownBlock with
    | none => exact .inl rfl
    | some k => exact .inr (by simp))
theorem Own.mono {lo' : Nat} (h : Own w lo v xs) (hl : lo' ≤ lo) : Own w lo' v xs := by
  refine ⟨h.1, ?_⟩
  rcases h.2 with h2 | ⟨g, cap, cur, hv, hg, r⟩
  · exact .inl h2
  · exact .inr ⟨g, cap, cur, hv, by omega, r⟩
theorem Own.drewN (h : Own w lo v xs) (k : Nat) : Own (w.drewN k) lo v xs := h
theorem Own.drew (h : Own w lo v xs) : Own w.drew lo v xs := h
theorem Own.nil (w : World) (lo : Nat) : Own w lo (.slice none 0 0) [] := World.ownsRow_nil w lo _ _

end


/-- What a call that returns a list leaves: it is new, and nothing else has turned. -/
def RetI (w : World) (xs : List Int) (e : Ending) (w' : World) : Prop := ∃ A c, e = .returned (.slice A xs.length c) ∧ Own w' w.heap.size (.slice A xs.length c) xs ∧ Below w.heap.size w w'
/-- A function: a number and a list. -/
def RetF (w : World) (n : Int) (xs : List Int) (e : Ending) (w' : World) : Prop := ∃ A c, e = .returned (.agg #[.int .i64 n, .slice A xs.length c]) ∧ Own w' w.heap.size (.slice A xs.length c) xs ∧ Below w.heap.size w w'
/-- A function and a bool. -/
def RetFB (w : World) (n : Int) (xs : List Int) (b : Bool) (e : Ending) (w' : World) : Prop := ∃ A c, e = .returned (.tuple #[.agg #[.int .i64 n, .slice A xs.length c], .bool b]) ∧ Own w' w.heap.size (.slice A xs.length c) xs ∧ Below w.heap.size w w'
/-- A list and a bool. -/
def RetIB (w : World) (xs : List Int) (b : Bool) (e : Ending) (w' : World) : Prop := ∃ A c, e = .returned (.tuple #[.slice A xs.length c, .bool b]) ∧ Own w' w.heap.size (.slice A xs.length c) xs ∧ Below w.heap.size w w'
/-- A value alone. -/
def RetV (w : World) (v : Value) (e : Ending) (w' : World) : Prop := e = .returned v ∧ Below w.heap.size w w'

theorem info_int : (Tryz.prog.info? 3).map (fun i => (i.zero, i.size, i.bytes)) = some (some (.int .i64 0), 1, 8) := by kernel_rfl

theorem below_drewN {B : Nat} {a w : World} (h : Below B a w) (n : Nat) : Below B a (w.drewN n) := ⟨h.os, h.tape, h.output, h.size, h.block⟩

theorem getD_take {xs : List Int} {j k : Nat} (h : j < k) : (xs.take k).getD j 0 = xs.getD j 0 := by
  simp only [List.getD_eq_getElem?_getD, List.getElem?_take, if_pos h]
theorem zeros (n : Nat) : (madeCells (Value.int .i64 0).cells (n * 1)).toList = ints (List.replicate n 0) := by
  rw [Nat.mul_one]
  show (madeCells #[.int .i64 0] n).toList = _
  rw [toList_madeCells_one]
  simp [ints]

/-- k, k + 1, and so on: n numbers. -/
def iota (k : Int) (n : Nat) : List Int := (List.range n).map fun j : Nat => k + (j : Int)
theorem iota_length (k : Int) (n : Nat) : (iota k n).length = n := by simp [iota]
theorem iota_at (k : Int) (n j : Nat) (h : j < n) : (iota k n).getD j 0 = k + j := by
  simp [iota, h]

end Go.Proofs.YtffbiflgmlabaaaGreatDoor.K

namespace Go.Proofs.YtffbiflgmlabaaaGreatDoor.K
open Go.RowKit
set_option linter.unusedVariables false

/-- A row of the call's own: n elements of type t, size cells each, at v; it holds cs. -/
structure Cel where
  t : TypeId
  size : Nat
  v : Value
  n : Nat
  cs : List Value

/-- A list of integers. -/
def il (v : Value) (n : Nat) (xs : List Int) : Cel := ⟨3, 1, v, n, ints xs⟩
/-- A variable: one element. -/
def bx (g : Nat) (t : TypeId) (cs : List Value) : Cel := ⟨t, cs.length, .slice (some ⟨g, 0, none⟩) 1 1, 1, cs⟩

def St (w0 w : World) (L : List Cel) : Prop :=
  Below w0.heap.size w0 w ∧ (∀ r ∈ L, w.ownsRow w0.heap.size r.t r.size r.v r.n r.cs) ∧ L.Pairwise (fun p q => ∀ k, p.v.ownBlock = some k → q.v.ownBlock ≠ some k)


section

variable {w0 w w' : World} {L : List Cel}
theorem St.start (w : World) : St w w [] := ⟨Below.refl _ _, fun r hr => by simp at hr, .nil⟩
theorem St.drewN (h : St w0 w L) (n : Nat) : St w0 (w.drewN n) L := ⟨below_drewN h.1 n, h.2.1, h.2.2⟩
theorem St.drew (h : St w0 w L) : St w0 w.drew L := ⟨h.1.drew, h.2.1, h.2.2⟩
theorem St.base (h : St w0 w L) : Below w0.heap.size w0 w := h.1
theorem St.size (h : St w0 w L) : w0.heap.size ≤ w.heap.size := h.1.size
theorem St.below (h : St w0 w L) (hb : Below w.heap.size w w') : St w0 w' L :=
  ⟨h.1.trans (hb.mono h.1.size), fun r hr => (h.2.1 r hr).kept (row := none) ⟨hb.os, hb.tape, hb.output, hb.size, fun k hk _ => hb.block k hk⟩ (by
    cases hv : r.v.ownBlock with
    | none => exact .inl rfl
    | some k => exact .inr (by simp)), h.2.2⟩
theorem own_mono {t : TypeId} {s n lo lo' : Nat} {v : Value} {cs : List Value} (h : w.ownsRow lo t s v n cs) (hl : lo' ≤ lo) : w.ownsRow lo' t s v n cs := by
  refine ⟨h.1, ?_⟩
  rcases h.2 with h2 | ⟨g, cap, cur, hv, hg, r⟩
  · exact .inl h2
  · exact .inr ⟨g, cap, cur, hv, by omega, r⟩
theorem St.new {t : TypeId} {s n : Nat} {v : Value} {cs : List Value} (h : St w0 w L) (hb : Below w.heap.size w w') (ho : w'.ownsRow w.heap.size t s v n cs) : St w0 w' (⟨t, s, v, n, cs⟩ :: L) := by
  have h1 := h.below hb
  refine ⟨h1.1, fun r hr => ?_, .cons (fun r hr k hk hk2 => ?_) h1.2.2⟩
  · rcases List.mem_cons.1 hr with rfl | hr
    · exact own_mono ho h.1.size
    · exact h1.2.1 r hr
  · have a := (ho.lt k hk).1
    have b := ((h.2.1 r hr).lt k hk2).2
    omega
theorem St.newI {v : Value} {xs : List Int} (h : St w0 w L) (hb : Below w.heap.size w w') (ho : Own w' w.heap.size v xs) : St w0 w' (il v xs.length xs :: L) := h.new hb ho
theorem St.alloc (h : St w0 w L) (l : List Value) (t : TypeId) : St w0 (w.alloc (.cells ⟨l⟩ t)) (bx w.heap.size t l :: L) := by
  refine h.new ((Below.refl _ _).alloc (Nat.le_refl _) _) ?_
  exact World.ownsRow_lit w ⟨l⟩ 1 (Nat.le_refl _) (by unfold maxLen; omega) (by simp)
theorem St.mark {i : Nat} {r : Cel} {cs : List Value} (h : St w0 w L) (hi : L[i]? = some r) (hg : w.grownBy w' r.v.ownBlock) (ho : w'.ownsRow w0.heap.size r.t r.size r.v r.n cs) : St w0 w' (L.set i { r with cs := cs }) := by
  have hil : i < L.length := (List.getElem?_eq_some_iff.1 hi).1
  have hie : L[i] = r := (List.getElem?_eq_some_iff.1 hi).2
  have hpw := h.2.2
  rw [List.pairwise_iff_getElem] at hpw
  refine ⟨h.1.grown hg h.1.size fun k hk => ((h.2.1 r (List.mem_of_getElem? hi)).lt k hk).1, fun q hq => ?_, ?_⟩
  · obtain ⟨j, hj, hjq⟩ := List.mem_iff_getElem.1 hq
    rw [List.length_set] at hj
    by_cases hij : i = j
    · subst hij
      rw [List.getElem_set_self] at hjq
      subst hjq
      exact ho
    · rw [List.getElem_set_ne hij] at hjq
      subst hjq
      refine (h.2.1 _ (List.getElem_mem hj)).kept hg ?_
      cases hv : L[j].v.ownBlock with
      | none => exact .inl rfl
      | some k =>
        refine .inr fun e => ?_
        rcases Nat.lt_or_gt_of_ne hij with hlt | hlt
        · exact hpw i j hil hj hlt k (by rw [hie]; exact e.symm) hv
        · exact hpw j i hj hil hlt k hv (by rw [hie]; exact e.symm)
  · rw [List.pairwise_iff_getElem]
    intro a b ha hb hab
    rw [List.length_set] at ha hb
    have key : ∀ c (hc : c < L.length) (hc' : c < (L.set i { r with cs := cs }).length), (L.set i { r with cs := cs })[c].v = L[c].v := by
      intro c hc hc'
      by_cases hic : i = c
      · subst hic
        rw [List.getElem_set_self, hie]
      · rw [List.getElem_set_ne hic]
    rw [key a ha _, key b hb _]
    exact hpw a b ha hb hab
theorem St.own {i : Nat} {r : Cel} (h : St w0 w L) (hi : L[i]? = some r) : w.ownsRow w0.heap.size r.t r.size r.v r.n r.cs := h.2.1 r (List.mem_of_getElem? hi)
theorem St.ownI {i n : Nat} {v : Value} {xs : List Int} (h : St w0 w L) (hi : L[i]? = some (il v n xs)) : Own w w0.heap.size v xs := OwnN.own (h.own hi)
theorem St.ints {i : Nat} {A : Option Addr} {c n m : Nat} {xs : List Int} (h : St w0 w L) (hi : L[i]? = some (il (.slice A n c) m xs)) : Ints w w.heap.size A xs := (h.ownI hi).read
theorem St.markI {i n : Nat} {v : Value} {xs ys : List Int} (h : St w0 w L) (hi : L[i]? = some (il v n xs)) (hg : w.grownBy w' v.ownBlock) (ho : OwnN w' w0.heap.size v n ys) : St w0 w' (L.set i (il v n ys)) := h.mark hi hg ho
theorem St.box {i g : Nat} {t : TypeId} {cs : List Value} (h : St w0 w L) (hi : L[i]? = some (bx g t cs)) : (∀ j v, cs[j]? = some v → w.cell? ⟨g, j, none⟩ = some v) ∧ (∀ j, w.frozen? ⟨g, j, none⟩ = false) := by
  have ho := h.own hi
  refine ⟨fun j v hj => ?_, fun j => ho.frozenAt j⟩
  have hjl : j < cs.length := (List.getElem?_eq_some_iff.1 hj).1
  rw [ho.cellAt j (by simpa [bx] using hjl)]
  exact hj
/-- A variable is written. -/
theorem St.store {i g : Nat} {t : TypeId} {cs : List Value} (h : St w0 w L) (hi : L[i]? = some (bx g t cs)) (j : Nat) (u : Value) : St w0 (w.setCell ⟨g, j, none⟩ u) (L.set i (bx g t (cs.set j u))) := by
  have ho := h.own hi
  obtain ⟨h1, h2⟩ := ho.stored j u
  have := h.mark hi h2 h1
  simpa [bx] using this
theorem St.drop (i : Nat) (h : St w0 w L) : St w0 w (L.eraseIdx i) := ⟨h.1, fun r hr => h.2.1 r (List.mem_of_mem_eraseIdx hr), h.2.2.sublist (List.eraseIdx_sublist _ _)⟩
/-- Some of the rows, in another order. -/
theorem St.sub (h : St w0 w L) (L' : List Cel) (is : List Nat) (h1 : is.map (fun i => L[i]?) = L'.map some) (h2 : is.Nodup) : St w0 w L' := by
  have hlen : is.length = L'.length := by simpa using congrArg List.length h1
  have key : ∀ a (ha : a < L'.length) (ha' : a < is.length), L[is[a]]? = some L'[a] := by
    intro a ha ha'
    have := congrArg (fun l => l[a]?) h1
    simpa [ha, ha'] using this
  refine ⟨h.1, fun r hr => ?_, ?_⟩
  · obtain ⟨a, ha, rfl⟩ := List.mem_iff_getElem.1 hr
    exact h.2.1 _ (List.mem_of_getElem? (key a ha (by omega)))
  · have hpw := h.2.2
    rw [List.pairwise_iff_getElem] at hpw ⊢
    intro a b ha hb hab k hk hk2
    have ka := key a ha (by omega)
    have kb := key b hb (by omega)
    obtain ⟨la, ea⟩ := List.getElem?_eq_some_iff.1 ka
    obtain ⟨lb, eb⟩ := List.getElem?_eq_some_iff.1 kb
    have hne : is[a] ≠ is[b] := fun e => by
      have := (List.pairwise_iff_getElem.1 h2) a b (by omega) (by omega) hab
      exact this e
    rw [← ea] at hk
    rw [← eb] at hk2
    rcases Nat.lt_or_gt_of_ne hne with hlt | hlt
    · exact hpw _ _ la lb hlt k hk hk2
    · exact hpw _ _ lb la hlt k hk2 hk
theorem St.cell (h : St w0 w L) {g : Nat} {t : TypeId} {cs : List Value} (hm : bx g t cs ∈ L) (j : Nat) (v : Value) (hj : cs[j]? = some v) : w.cell? ⟨g, j, none⟩ = some v := by
  obtain ⟨i, hi, he⟩ := List.mem_iff_getElem.1 hm
  exact (h.box (i := i) (List.getElem?_eq_some_iff.2 ⟨hi, he⟩)).1 j v hj
theorem St.ltOf (h : St w0 w L) {g : Nat} {t : TypeId} {cs : List Value} (hm : bx g t cs ∈ L) : g < w.heap.size := by
  obtain ⟨i, hi, he⟩ := List.mem_iff_getElem.1 hm
  exact ((h.own (i := i) (List.getElem?_eq_some_iff.2 ⟨hi, he⟩)).lt g rfl).2
theorem St.lt {i g : Nat} {t : TypeId} {cs : List Value} (h : St w0 w L) (hi : L[i]? = some (bx g t cs)) : w0.heap.size ≤ g ∧ g < w.heap.size := (h.own hi).lt g rfl

end



section

variable {w0 w w' : World} {L : List Cel}
/-- A row that has been appended to: it lies where it lay, or in a new block. -/
theorem St.app {i : Nat} {r : Cel} {v' : Value} {n' : Nat} {cs : List Value} (h : St w0 w L) (hi : L[i]? = some r) (hg : w.grownBy w' r.v.ownBlock) (ho : w'.ownsRow w0.heap.size r.t r.size v' n' cs) (hat : v'.ownBlock = r.v.ownBlock ∨ v'.ownBlock = some w.heap.size) :
    St w0 w' (L.set i ⟨r.t, r.size, v', n', cs⟩) := by
  have hil : i < L.length := (List.getElem?_eq_some_iff.1 hi).1
  have hie : L[i] = r := (List.getElem?_eq_some_iff.1 hi).2
  have hpw := h.2.2
  rw [List.pairwise_iff_getElem] at hpw
  refine ⟨h.1.grown hg h.1.size fun k hk => ((h.2.1 r (List.mem_of_getElem? hi)).lt k hk).1, fun q hq => ?_, ?_⟩
  · obtain ⟨j, hj, hjq⟩ := List.mem_iff_getElem.1 hq
    rw [List.length_set] at hj
    by_cases hij : i = j
    · subst hij
      rw [List.getElem_set_self] at hjq
      subst hjq
      exact ho
    · rw [List.getElem_set_ne hij] at hjq
      subst hjq
      refine (h.2.1 _ (List.getElem_mem hj)).kept hg ?_
      cases hv : L[j].v.ownBlock with
      | none => exact .inl rfl
      | some k =>
        refine .inr fun e => ?_
        rcases Nat.lt_or_gt_of_ne hij with hlt | hlt
        · exact hpw i j hil hj hlt k (by rw [hie]; exact e.symm) hv
        · exact hpw j i hj hil hlt k hv (by rw [hie]; exact e.symm)
  · rw [List.pairwise_iff_getElem]
    intro a b ha hb hab k hk hk2
    rw [List.length_set] at ha hb
    have far : ∀ c (hc : c < L.length), i ≠ c → L[c].v.ownBlock = some k → v'.ownBlock ≠ some k := by
      intro c hc hic hck he
      have hlt := ((h.2.1 _ (List.getElem_mem hc)).lt k hck).2
      rcases hat with e | e
      · rw [he] at e
        rcases Nat.lt_or_gt_of_ne hic with hlt | hlt
        · exact hpw i c hil hc hlt k (by rw [hie]; exact e.symm) hck
        · exact hpw c i hc hil hlt k hck (by rw [hie]; exact e.symm)
      · rw [he] at e
        have := Option.some.inj e
        omega
    by_cases hia : i = a
    · subst hia
      rw [List.getElem_set_self] at hk
      rw [List.getElem_set_ne (by omega)] at hk2
      exact far b hb (by omega) hk2 hk
    · rw [List.getElem_set_ne hia] at hk
      by_cases hib : i = b
      · subst hib
        rw [List.getElem_set_self] at hk2
        exact far a ha hia hk hk2
      · rw [List.getElem_set_ne hib] at hk2
        exact hpw a b ha hb hab k hk hk2
/-- 'make([]int, 0)', '[]int{}': an empty list of the call's own. -/
theorem St.empty (h : St w0 w L) : St w0 (w.alloc (.cells #[] 3)) (il (.slice (some ⟨w.heap.size, 0, none⟩) 0 0) 0 [] :: L) := by
  refine h.new ((Below.refl _ _).alloc (Nat.le_refl _) _) ?_
  exact World.ownsRow_lit w #[] 0 (Nat.le_refl _) (by unfold maxLen; omega) (by simp)
/-- An element of a list of the call's own is written. -/
theorem St.setI {i g c n : Nat} {xs : List Int} (h : St w0 w L) (hi : L[i]? = some (il (.slice (some ⟨g, 0, none⟩) n c) n xs)) (j : Nat) (y : Int) : St w0 (w.setCell ⟨g, j, none⟩ (.int .i64 y)) (L.set i (il (.slice (some ⟨g, 0, none⟩) n c) n (xs.set j y))) := by
  obtain ⟨h1, h2⟩ := (h.own hi).stored j (.int .i64 y)
  rw [show (il (.slice (some ⟨g, 0, none⟩) n c) n xs).cs.set j (.int .i64 y) = K.ints (xs.set j y) from ints_set xs j y] at h1
  exact h.mark hi h2 h1
theorem St.cellI {i g c n : Nat} {xs : List Int} (h : St w0 w L) (hi : L[i]? = some (il (.slice (some ⟨g, 0, none⟩) n c) n xs)) {j : Nat} (hj : j < n) : w.cell? ⟨g, j, none⟩ = some (.int .i64 (xs.getD j 0)) ∧ w.frozen? ⟨g, j, none⟩ = false := by
  have hl : xs.length = n := OwnN.len (h.own hi)
  refine ⟨?_, (h.own hi).frozenAt j⟩
  rw [(h.own hi).cellAt j (by simpa [il] using hj)]
  exact ints_at xs (by omega)
/-- The nil list. -/
theorem St.nil (h : St w0 w L) : St w0 w (il (.slice none 0 0) 0 [] :: L) := by
  refine ⟨h.1, fun r hr => ?_, .cons (fun r hr k hk => by simp [il, Value.ownBlock] at hk) h.2.2⟩
  rcases List.mem_cons.1 hr with rfl | hr
  · exact World.ownsRow_nil w _ _ _
  · exact h.2.1 r hr

theorem run_app1 {i n g : Nat} {v : Value} {xs : List Int} {y : Int} {t ty : TypeId} {o : TypeInfo} (ht : Tryz.prog.underlying t = some (.slice 3)) (hio : Tryz.prog.info? 3 = some o) (hz : o.zero = some (.int .i64 0)) (hs : o.size = 1) (hy : o.bytes = 8)
    (h : St w0 w L) (hi : L[i]? = some (il v n xs)) (hc : w.cell? ⟨g, 0, none⟩ = some (.int .i64 y)) (hn : n ≤ 1048576) :
    ∃ A' c' w', (Builtin.append_ #[t, t] ty #[v, .slice (some ⟨g, 0, none⟩) 1 1]).run Tryz.prog w = .ok (.slice A' (n + 1) c') w' ∧ St w0 w' (L.set i (il (.slice A' (n + 1) c') (n + 1) (xs ++ [y]))) := by
  obtain ⟨v', w', hr, h2, h3, _, h5⟩ := run_append_own_at (P := Tryz.prog) w w0.heap.size t ty 3 o (.int .i64 0) 1 8 ht hio hz hs hy rfl (by decide) v n (ints xs) (h.own hi) ⟨g, 0, none⟩ 1 1 [.int .i64 y] rfl (fun j u hu => by
      have : j = 0 := by
        have := (List.getElem?_eq_some_iff.1 hu).1
        simpa using this
      subst this
      rw [List.getElem?_cons_zero] at hu
      cases hu
      simpa [Addr.add] using hc) (fun u hu => by simp at hu; subst hu; rfl) (by unfold maxLen; omega) (by omega) h.size
  obtain ⟨g', cap, hv, _⟩ := h2.form (by omega)
  subst hv
  refine ⟨_, cap, w', hr, ?_⟩
  have := h.app hi h3 h2 h5
  rw [show ints xs ++ [Value.int .i64 y] = ints (xs ++ [y]) by simp [ints]] at this
  exact this

theorem wp_app1 {o' : Oper} {a : Act} {K : Act → World → Prop} {Q : Exit → Act → World → Prop} (s x : Operand) (t : TypeId)
    (ho : o'.op = .call { callee := .builtin .append, args := #[s, x], argTypes := #[t, t] })
    {i n g : Nat} {v : Value} {xs : List Int} (y : Int) {o : TypeInfo} (ht : Tryz.prog.underlying t = some (.slice 3)) (hio : Tryz.prog.info? 3 = some o) (hz : o.zero = some (.int .i64 0)) (hsz : o.size = 1) (hy : o.bytes = 8)
    (h : St w0 w L) (hi : L[i]? = some (il v n xs)) (hs : a.eval s = v) (hx : a.eval x = .slice (some ⟨g, 0, none⟩) 1 1) (hc : w.cell? ⟨g, 0, none⟩ = some (.int .i64 y)) (hn : n ≤ 1048576)
    (hK : ∀ A' c' w', St w0 w' (L.set i (il (.slice A' (n + 1) c') (n + 1) (xs ++ [y]))) → K (a.put o'.dst (.slice A' (n + 1) c')) w') : o'.wp Tryz.prog a w K Q := by
  obtain ⟨A', c', w', hr, h2⟩ := run_app1 (ty := o'.type) ht hio hz hsz hy h hi hc hn
  unfold Oper.wp execOp
  simp only [ho, resolve, invoke, builtin, Sem.run_bind, Sem.run_pure, Result.andThen_ok, List.map_toArray, List.map_cons, List.map_nil, hs, hx, hr]
  exact hK _ _ _ h2

theorem wpList_app1 {ops : Array Oper} {rest : List Oper} {o' : Oper} {a : Act} {Q : Exit → Act → World → Prop} (hgd : o'.guard = none) (s x : Operand) (t : TypeId)
    (ho : o'.op = .call { callee := .builtin .append, args := #[s, x], argTypes := #[t, t] })
    {i n g : Nat} {v : Value} {xs : List Int} (y : Int) {o : TypeInfo} (ht : Tryz.prog.underlying t = some (.slice 3)) (hio : Tryz.prog.info? 3 = some o) (hz : o.zero = some (.int .i64 0)) (hsz : o.size = 1) (hy : o.bytes = 8)
    (h : St w0 w L) (hi : L[i]? = some (il v n xs)) (hs : a.eval s = v) (hx : a.eval x = .slice (some ⟨g, 0, none⟩) 1 1) (hc : w.cell? ⟨g, 0, none⟩ = some (.int .i64 y)) (hn : n ≤ 1048576)
    (hK : ∀ A' c' w', St w0 w' (L.set i (il (.slice A' (n + 1) c') (n + 1) (xs ++ [y]))) → wpList Tryz.prog ops Q rest (a.put o'.dst (.slice A' (n + 1) c')) w') : wpList Tryz.prog ops Q (o' :: rest) a w :=
  wpList_plain hgd fun _ hk => wp_app1 s x t ho y ht hio hz hsz hy h hi hs hx hc hn fun A' c' w' h2 => hk _ _ (hK A' c' w' h2)

theorem step_app1 {ops : Array Oper} {o' : Oper} {a : Act} {K : Act → World → Prop} {Q : Exit → Act → World → Prop} {E : Prop} (hgd : o'.guard = none) (s x : Operand) (t : TypeId)
    (ho : o'.op = .call { callee := .builtin .append, args := #[s, x], argTypes := #[t, t] })
    {i n g : Nat} {v : Value} {xs : List Int} (y : Int) {o : TypeInfo} (ht : Tryz.prog.underlying t = some (.slice 3)) (hio : Tryz.prog.info? 3 = some o) (hz : o.zero = some (.int .i64 0)) (hsz : o.size = 1) (hy : o.bytes = 8)
    (h : St w0 w L) (hi : L[i]? = some (il v n xs)) (hs : a.eval s = v) (hx : a.eval x = .slice (some ⟨g, 0, none⟩) 1 1) (hc : w.cell? ⟨g, 0, none⟩ = some (.int .i64 y)) (hn : n ≤ 1048576)
    (hK : ∀ A' c' w', St w0 w' (L.set i (il (.slice A' (n + 1) c') (n + 1) (xs ++ [y]))) → K (a.put o'.dst (.slice A' (n + 1) c')) w') :
    if Region.wanted o' (yielded ops a.tmps) = true then Oper.wp Tryz.prog o' a w K Q else E := by
  have hw : Region.wanted o' (yielded ops a.tmps) = true := by simp [Region.wanted, hgd]
  rw [if_pos hw]
  exact wp_app1 s x t ho y ht hio hz hsz hy h hi hs hx hc hn hK

end


/-- Two rows lie in blocks of their own. -/
theorem St.apart {w0 w : World} {L : List Cel} {i j a b : Nat} {r s : Cel} (h : St w0 w L) (hi : L[i]? = some r) (hj : L[j]? = some s) (hij : i < j) (ha : r.v.ownBlock = some a) (hb : s.v.ownBlock = some b) : a ≠ b := by
  obtain ⟨hil, hie⟩ := List.getElem?_eq_some_iff.1 hi
  obtain ⟨hjl, hje⟩ := List.getElem?_eq_some_iff.1 hj
  have := List.pairwise_iff_getElem.1 h.2.2 i j hil hjl hij a (by rw [hie]; exact ha)
  intro e
  subst e
  exact this (by rw [hje]; exact hb)
/-- Ahead of a call: what the memory holds. -/
theorem St.use {P : Program} {f : FuncId} {args : Array Value} {w0 W : World} {L : List Cel} {R : Ending → World → Prop} (h : St w0 W L) (k : St w0 W L → Calls P f args W R) : Calls P f args W R := k h

end Go.Proofs.YtffbiflgmlabaaaGreatDoor.K

namespace Go.Proofs.YtffbiflgmlabaaaGreatDoor.C
open Go.RowKit K

end Go.Proofs.YtffbiflgmlabaaaGreatDoor.C

namespace Go.Proofs.YtffbiflgmlabaaaGreatDoor.C
open Go.RowKit K
set_option linter.unusedVariables false

theorem same_len (A C : Option Addr) (n m : Nat) (cap dap : Nat) (w : World) (hne : n ≠ m) :
    Calls Tryz.prog 39 #[.slice A n cap, .slice C m dap] w fun e w' => e = .returned (.bool false) ∧ ∃ n, w.drewN n = w' := by
  have hb : ((n : Int) == (m : Int)) = false := beq_eq_false_iff_ne.2 (by omega)
  have hb2 : ((n : Int) != (m : Int)) = true := bne_iff_ne.2 (by omega)
  go_enter Tryz.func39, Tryz.ntmps39
  go_wp2
  go_ret
  exact ⟨rfl, 0, rfl⟩

set_option maxRecDepth 100000 in
set_option maxHeartbeats 1600000 in
theorem same_yes (A C : Option Addr) (xs : List Int) (cap dap : Nat) (w : World) (h : Hid (Ints w w.heap.size A xs)) (g : Hid (Ints w w.heap.size C xs)) (hn : xs.length ≤ 9223372036854775807) :
    Calls Tryz.prog 39 #[.slice A xs.length cap, .slice C xs.length dap] w fun e w' => e = .returned (.bool true) ∧ ∃ n, w.drewN n = w' := by
  obtain ⟨n, hxn⟩ : ∃ n, xs.length = n := ⟨_, rfl⟩
  rw [hxn] at hn ⊢
  have HX := Lib.hid hxn
  clear hxn
  go_enter Tryz.func39, Tryz.ntmps39
  go_wp2
  go_loopw [5] (fun i wr => ∃ (k m : Nat), i = .int .i64 k ∧ k ≤ n ∧ wr = w.drewN m) (fun i _ => n - (intOf i).toNat)
  case atStart => exact ⟨0, 0, rfl, Nat.zero_le _, rfl⟩
  case round =>
    obtain ⟨k, m, rfl, hk, rfl⟩ := hrel
    by_cases hlt : k < n
    · obtain ⟨b, off, rfl, hbl, hc⟩ := h.out.at_ (k := k) (by rw [HX.out]; exact hlt)
      obtain ⟨b', off', rfl, hbl', hc'⟩ := g.out.at_ (k := k) (by rw [HX.out]; exact hlt)
      have hk0 : (0 : Int) ≤ (k : Int) := by omega
      have hkn : (k : Int) < (n : Int) := by omega
      go_wp2
      go_quiet (fail)
      go_wp2
      go_roundw
      case rel => exact ⟨k + 1, _, by go_num, by omega, rfl⟩
      case measure => simp [intOf]; omega
    · go_wp2
      go_ret
      exact ⟨rfl, _, rfl⟩

set_option maxRecDepth 100000 in
set_option maxHeartbeats 1600000 in
theorem same_no (A C : Option Addr) (xs ys : List Int) (cap dap : Nat) (w : World) (h : Hid (Ints w w.heap.size A xs)) (g : Hid (Ints w w.heap.size C ys)) (hn : xs.length ≤ 9223372036854775807) (hne : ¬ xs = ys) :
    Calls Tryz.prog 39 #[.slice A xs.length cap, .slice C ys.length dap] w fun e w' => e = .returned (.bool false) ∧ ∃ n, w.drewN n = w' := by
  by_cases hl : xs.length = ys.length
  · obtain ⟨n, hxn⟩ : ∃ n, xs.length = n := ⟨_, rfl⟩
    rw [← hl]
    rw [hxn] at hn hl ⊢
    have HX := Lib.hid hxn
    have HY := Lib.hid hl.symm
    have HN := Lib.hid hne
    clear hxn hl hne
    go_enter Tryz.func39, Tryz.ntmps39
    go_wp2
    go_loopw [5] (fun i wr => ∃ (k m : Nat), i = .int .i64 k ∧ k ≤ n ∧ xs.take k = ys.take k ∧ wr = w.drewN m) (fun i _ => n - (intOf i).toNat)
    case atStart => exact ⟨0, 0, rfl, Nat.zero_le _, by simp, rfl⟩
    case round =>
      obtain ⟨k, m, rfl, hk, ht, rfl⟩ := hrel
      by_cases hlt : k < n
      · obtain ⟨b, off, rfl, hbl, hc⟩ := h.out.at_ (k := k) (by rw [HX.out]; exact hlt)
        obtain ⟨b', off', rfl, hbl', hc'⟩ := g.out.at_ (k := k) (by rw [HY.out]; exact hlt)
        have hk0 : (0 : Int) ≤ (k : Int) := by omega
        have hkn : (k : Int) < (n : Int) := by omega
        by_cases hxy : xs.getD k 0 = ys.getD k 0
        · have hx : k < xs.length := by rw [HX.out]; exact hlt
          have hy : k < ys.length := by rw [HY.out]; exact hlt
          have ht2 : xs.take (k + 1) = ys.take (k + 1) := by
            have he : xs[k] = ys[k] := by simpa [hx, hy] using hxy
            rw [List.take_succ_eq_append_getElem hx, List.take_succ_eq_append_getElem hy, ht, he]
          have HT := Lib.hid ht2
          have hc2 := hc
          rw [hxy] at hc2
          clear hc ht ht2 hx hy hxy
          go_wp2
          go_quiet (fail)
          go_wp2
          go_roundw
          case rel => exact ⟨k + 1, _, by go_num, by omega, HT.out, rfl⟩
          case measure => simp [intOf]; omega
        · obtain ⟨x, hx⟩ : ∃ x, xs.getD k 0 = x := ⟨_, rfl⟩
          obtain ⟨y, hy⟩ : ∃ y, ys.getD k 0 = y := ⟨_, rfl⟩
          rw [hx] at hc hxy
          rw [hy] at hc' hxy
          have hb : (x != y) = true := bne_iff_ne.2 hxy
          clear hx hy ht hxy
          go_wp2
          go_quiet (fail)
          go_wp2
          go_ret
          exact ⟨rfl, _, (World.drewN_drewN _ _ _).symm⟩
      · exfalso
        have : k = n := by omega
        subst this
        rw [List.take_of_length_le (Nat.le_of_eq HX.out), List.take_of_length_le (Nat.le_of_eq HY.out)] at ht
        exact HN.out ht
  · exact same_len A C _ _ cap dap w hl

theorem equal_len (A C : Option Addr) (n m : Nat) (cap dap : Nat) (w : World) (hne : n ≠ m) :
    Calls Tryz.prog 60 #[.slice A n cap, .slice C m dap] w fun e w' => e = .returned (.bool false) ∧ ∃ n, w.drewN n = w' := by
  have hb : ((n : Int) == (m : Int)) = false := beq_eq_false_iff_ne.2 (by omega)
  have hb2 : ((n : Int) != (m : Int)) = true := bne_iff_ne.2 (by omega)
  go_enter Tryz.func60, Tryz.ntmps60
  go_wp2
  go_ret
  exact ⟨rfl, 0, rfl⟩

set_option maxRecDepth 100000 in
set_option maxHeartbeats 1600000 in
theorem equal_yes (A C : Option Addr) (xs : List Int) (cap dap : Nat) (w : World) (h : Hid (Ints w w.heap.size A xs)) (g : Hid (Ints w w.heap.size C xs)) (hn : xs.length ≤ 9223372036854775807) :
    Calls Tryz.prog 60 #[.slice A xs.length cap, .slice C xs.length dap] w fun e w' => e = .returned (.bool true) ∧ ∃ n, w.drewN n = w' := by
  obtain ⟨n, hxn⟩ : ∃ n, xs.length = n := ⟨_, rfl⟩
  rw [hxn] at hn ⊢
  have HX := Lib.hid hxn
  clear hxn
  go_enter Tryz.func60, Tryz.ntmps60
  go_wp2
  go_loopw [5, 13] (fun _ i wr => ∃ (k m : Nat), i = .int .i64 k ∧ k ≤ n ∧ wr = w.drewN m) (fun _ i _ => n - (intOf i).toNat)
  case atStart => exact ⟨0, 0, rfl, Nat.zero_le _, rfl⟩
  case round =>
    obtain ⟨k, m, rfl, hk, rfl⟩ := hrel
    by_cases hlt : k < n
    · obtain ⟨b, off, rfl, hbl, hc⟩ := h.out.at_ (k := k) (by rw [HX.out]; exact hlt)
      obtain ⟨b', off', rfl, hbl', hc'⟩ := g.out.at_ (k := k) (by rw [HX.out]; exact hlt)
      have hk0 : (0 : Int) ≤ (k : Int) := by omega
      have hkn : (k : Int) < (n : Int) := by omega
      go_wp2
      go_quiet (fail)
      go_wp2
      go_roundw
      case rel => exact ⟨k + 1, _, by go_num, by omega, rfl⟩
      case measure => simp [intOf]; omega
    · go_wp2
      go_ret
      exact ⟨rfl, _, rfl⟩

set_option maxRecDepth 100000 in
set_option maxHeartbeats 1600000 in
theorem equal_no (A C : Option Addr) (xs ys : List Int) (cap dap : Nat) (w : World) (h : Hid (Ints w w.heap.size A xs)) (g : Hid (Ints w w.heap.size C ys)) (hn : xs.length ≤ 9223372036854775807) (hne : ¬ xs = ys) :
    Calls Tryz.prog 60 #[.slice A xs.length cap, .slice C ys.length dap] w fun e w' => e = .returned (.bool false) ∧ ∃ n, w.drewN n = w' := by
  by_cases hl : xs.length = ys.length
  · obtain ⟨n, hxn⟩ : ∃ n, xs.length = n := ⟨_, rfl⟩
    rw [← hl]
    rw [hxn] at hn hl ⊢
    have HX := Lib.hid hxn
    have HY := Lib.hid hl.symm
    have HN := Lib.hid hne
    clear hxn hl hne
    go_enter Tryz.func60, Tryz.ntmps60
    go_wp2
    go_loopw [5, 13] (fun _ i wr => ∃ (k m : Nat), i = .int .i64 k ∧ k ≤ n ∧ xs.take k = ys.take k ∧ wr = w.drewN m) (fun _ i _ => n - (intOf i).toNat)
    case atStart => exact ⟨0, 0, rfl, Nat.zero_le _, by simp, rfl⟩
    case round =>
      obtain ⟨k, m, rfl, hk, ht, rfl⟩ := hrel
      by_cases hlt : k < n
      · obtain ⟨b, off, rfl, hbl, hc⟩ := h.out.at_ (k := k) (by rw [HX.out]; exact hlt)
        obtain ⟨b', off', rfl, hbl', hc'⟩ := g.out.at_ (k := k) (by rw [HY.out]; exact hlt)
        have hk0 : (0 : Int) ≤ (k : Int) := by omega
        have hkn : (k : Int) < (n : Int) := by omega
        by_cases hxy : xs.getD k 0 = ys.getD k 0
        · have hx : k < xs.length := by rw [HX.out]; exact hlt
          have hy : k < ys.length := by rw [HY.out]; exact hlt
          have ht2 : xs.take (k + 1) = ys.take (k + 1) := by
            have he : xs[k] = ys[k] := by simpa [hx, hy] using hxy
            rw [List.take_succ_eq_append_getElem hx, List.take_succ_eq_append_getElem hy, ht, he]
          have HT := Lib.hid ht2
          have hc2 := hc
          rw [hxy] at hc2
          clear hc ht ht2 hx hy hxy
          go_wp2
          go_quiet (fail)
          go_wp2
          go_roundw
          case rel => exact ⟨k + 1, _, by go_num, by omega, HT.out, rfl⟩
          case measure => simp [intOf]; omega
        · obtain ⟨x, hx⟩ : ∃ x, xs.getD k 0 = x := ⟨_, rfl⟩
          obtain ⟨y, hy⟩ : ∃ y, ys.getD k 0 = y := ⟨_, rfl⟩
          rw [hx] at hc hxy
          rw [hy] at hc' hxy
          have hb : (x != y) = true := bne_iff_ne.2 hxy
          clear hx hy ht hxy
          go_wp2
          go_quiet (fail)
          go_wp2
          go_ret
          exact ⟨rfl, _, (World.drewN_drewN _ _ _).symm⟩
      · exfalso
        have : k = n := by omega
        subst this
        rw [List.take_of_length_le (Nat.le_of_eq HX.out), List.take_of_length_le (Nat.le_of_eq HY.out)] at ht
        exact HN.out ht
  · exact equal_len A C _ _ cap dap w hl

end Go.Proofs.YtffbiflgmlabaaaGreatDoor.C
