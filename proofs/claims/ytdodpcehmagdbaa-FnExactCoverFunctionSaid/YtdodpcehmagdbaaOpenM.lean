/-
  What the walks are told of an argument that is a slice of structs of integers: the numbers lie one after another.
-/
import Derived.Test.YtdodpcehmagdbaaOpen
import Derived.Deep.Slices
import Derived.Deep.Fields
import Derived.ChangeSame
namespace Go.Proofs.Ytdodpcehmagdbaa.K
open Go.RowKit Go.ChangeShapes Go.WideShapes Go.Deep
set_option linter.unusedVariables false


section

variable {H : Type} {enc : TypeId × Value → H} {W : World}

theorem rows_in {t e : TypeId} {fs : Array Field} {k : Nat} (ht : Try.prog.underlying t = some (.slice e)) (he : Try.prog.underlying e = some (.struct fs)) (hone : oneCellFields Try.prog fs = true) (hC : Try.prog.cellsOf e = k) (hk : fs.size = k) (hk0 : 0 < k)
    (hint : ∀ (j : Nat) (f : Field), fs[j]? = some f → f.type = 3) {base : Nat} {spare : Nat → Bool} {held : Bool} {fuel : Nat} {c : Value} {y : DataW H × List MemPlace} (h : DataW.trod enc Try.prog W base spare held fuel t [c] = some y) :
    ∃ (A : Option Addr) (m : Nat) (xs : List Int) (cap : Nat), c = .slice A m cap ∧ m ≤ 9223372036854775807 ∧ xs.length = m * k ∧ Ints W W.heap.size A xs := by
  rcases open_slice ht h with ⟨hcs, -⟩ | ⟨a, len, cap, m, n, D, Pl, hcs, -, hlc, hcm, hm, -, hi⟩
  · injection hcs with hcs
    subst hcs
    exact ⟨none, 0, [], 0, rfl, by simp, by simp, Ints.nil _ _ _⟩
  · injection hcs with hcs
    subst hcs
    have hlm : len ≤ m := by rw [hm]; split <;> omega
    -- each cell holds a number
    have hz : ∀ q, q < len * k → ∃ z : Int, W.cell? (a.add q) = some (.int .i64 z) := fun q hq => by
      have hdm := Nat.div_add_mod q k
      have hj : q % k < k := Nat.mod_lt _ hk0
      have hql : q / k < len := Nat.div_lt_of_lt_mul (by rw [Nat.mul_comm]; exact hq)
      obtain ⟨cs', hc, ht'⟩ := hi (q / k) (by omega)
      rw [hC] at hc
      obtain ⟨-, hcl, hat⟩ := World.cells?_some hc
      obtain ⟨xs, n', -, -, -, hxl, hf⟩ := DataW.trod_struct he ht'
      have hjf : q % k < fs.size := by omega
      have hsome : fs[q % k]? = some (fs[q % k]'hjf) := Array.getElem?_eq_getElem hjf
      obtain ⟨ho, hw⟩ := hone_of hone _ _ hsome
      have h1 := hf _ _ hsome
      rw [ho, hw, hint _ _ hsome, List.drop_eq_getElem_cons (by omega), List.getElem?_eq_getElem (by omega)] at h1
      obtain ⟨z, ez, -, -⟩ := DataW.trod_int Try.underlying3 h1
      refine ⟨z, ?_⟩
      have hcell := hat (q % k) hj
      rw [List.getElem?_eq_getElem (by omega)] at hcell
      have hqq : a.add q = (a.add (q / k * k)).add (q % k) := by
        rw [add_add, show q / k * k + q % k = q by rw [Nat.mul_comm]; exact hdm]
      rw [hqq, hcell]
      have e2 : cs'[q % k]'(by omega) = .int .i64 z := (List.cons.inj (show [cs'[q % k]'(by omega)] = [.int .i64 z] from ez)).1
      rw [e2]
    obtain ⟨f, hf⟩ : ∃ f : Nat → Int, ∀ q, q < len * k → W.cell? (a.add q) = some (.int .i64 (f q)) :=
      ⟨fun q => if h : q < len * k then (hz q h).choose else 0, fun q hq => by
        show W.cell? (a.add q) = some (.int .i64 (if h : q < len * k then (hz q h).choose else 0))
        rw [dif_pos hq]
        exact (hz q hq).choose_spec⟩
    refine ⟨some a, len, (List.range (len * k)).map f, cap, rfl, by unfold maxLen at hcm; omega, by simp, fun h0 => ?_⟩
    obtain ⟨b, off, spot⟩ := a
    have hp : 0 < len * k := by simpa using h0
    have hc := hf 0 hp
    have hspot : spot = none := by simpa [Addr.add] using World.cell?_spot hc
    subst hspot
    have hadd : ∀ i, (⟨b, off, none⟩ : Addr).add i = ⟨b, off + i, none⟩ := fun i => by unfold Addr.add; split <;> simp_all
    refine ⟨b, off, rfl, ?_, fun j hj => ?_⟩
    · rw [hadd 0] at hc
      exact World.block_lt_of_cell? W _ hc
    · have hj' : j < len * k := by simpa using hj
      rw [← hadd j, hf j hj']
      simp [hj']

theorem edges_in {r : Reach} {b0 base : Nat} {spare : Nat → Bool} {held : Bool} {v : Value} {d : DataW H} {p : List MemPlace} (hv : Value.okWide Try.prog W r b0 22 v) (h : DataW.Trod enc Try.prog W base spare held 22 v d p) :
    ∃ (A : Option Addr) (m : Nat) (xs : List Int) (cap : Nat), v = .slice A m cap ∧ m ≤ 9223372036854775807 ∧ xs.length = m * 3 ∧ Ints W W.heap.size A xs := by
  obtain ⟨a, l, c, rfl⟩ := okWide_slice Try.underlying22 hv
  obtain ⟨fuel, hf⟩ := h
  refine rows_in Try.underlying22 Try.underlying55 (by kernel_rfl) (by kernel_rfl) rfl (by decide) (fun j f hj => ?_) hf
  match j, hj with
  | 0, hj => exact (congrArg Field.type (Option.some.inj hj)).symm
  | 1, hj => exact (congrArg Field.type (Option.some.inj hj)).symm
  | 2, hj => exact (congrArg Field.type (Option.some.inj hj)).symm
  | j + 3, hj => exact absurd hj (by simp)

theorem blocks_in {r : Reach} {b0 base : Nat} {spare : Nat → Bool} {held : Bool} {v : Value} {d : DataW H} {p : List MemPlace} (hv : Value.okWide Try.prog W r b0 36 v) (h : DataW.Trod enc Try.prog W base spare held 36 v d p) :
    ∃ (A : Option Addr) (m : Nat) (xs : List Int) (cap : Nat), v = .slice A m cap ∧ m ≤ 9223372036854775807 ∧ xs.length = m * 2 ∧ Ints W W.heap.size A xs := by
  obtain ⟨a, l, c, rfl⟩ := okWide_slice Try.underlying36 hv
  obtain ⟨fuel, hf⟩ := h
  refine rows_in Try.underlying36 Try.underlying67 (by kernel_rfl) (by kernel_rfl) rfl (by decide) (fun j f hj => ?_) hf
  match j, hj with
  | 0, hj => exact (congrArg Field.type (Option.some.inj hj)).symm
  | 1, hj => exact (congrArg Field.type (Option.some.inj hj)).symm
  | j + 2, hj => exact absurd hj (by simp)


end


end Go.Proofs.Ytdodpcehmagdbaa.K
