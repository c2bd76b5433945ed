/-
  What a law knows of a memory that only grows: variables that hold functions, and lists.
-/
import Derived.Test.YtielfnjkfceliaaGreatDoorDrawK
import Derived.Test.YtielfnjkfceliaaGreatDoorGps
import Derived.Test.YtielfnjkfceliaaGreatDoorGain
import Derived.Test.YtielfnjkfceliaaGreatDoorFunJ
import Derived.Test.YtielfnjkfceliaaGreatDoorGsub
import Derived.Test.YtielfnjkfceliaaGreatDoorEls
import Derived.Deep.DeepCutAuto
namespace Go.Proofs.YtielfnjkfceliaaGreatDoor.C
open Go.RowKit M K
set_option linter.unusedVariables false
set_option linter.unusedSimpArgs false

/-- Variables (block, number, slice) and lists that stand so, and stay; the library's tables. -/
structure Kn (w0 w : World) (cs : List (Nat × Int × Value)) (ls : List (Option Addr × List Int)) : Prop where
  base : Below w0.heap.size w0 w
  cells : ∀ c ∈ cs, c.1 < w.heap.size ∧ w.cell? ⟨c.1, 0, none⟩ = some (.int .i64 c.2.1) ∧ w.cell? ⟨c.1, 1, none⟩ = some c.2.2
  lists : ∀ l ∈ ls, Ints w w.heap.size l.1 l.2
  tab : Tab w
  brujn : Brujn w
  maxLen : MaxLenAt w


section

variable {w0 w w' : World} {cs : List (Nat × Int × Value)} {ls : List (Option Addr × List Int)}
theorem Kn.below (h : Kn w0 w cs ls) (hb : Below w.heap.size w w') : Kn w0 w' cs ls :=
  ⟨h.1.trans (hb.mono h.1.size), fun c hc => by
    obtain ⟨a, b, d⟩ := h.2 c hc
    exact ⟨Nat.lt_of_lt_of_le a hb.size, (hb.cell (p := ⟨c.1, 0, none⟩) a).trans b, (hb.cell (p := ⟨c.1, 1, none⟩) a).trans d⟩,
    fun l hl => ((h.3 l hl).below hb).mono hb.size, tab_on h.4 hb, brujn_on h.5 hb, maxLen_on h.6 hb⟩
theorem Kn.drew (h : Kn w0 w cs ls) : Kn w0 w.drew cs ls := h.below (Below.refl _ _).drew
theorem Kn.drewN (h : Kn w0 w cs ls) (n : Nat) : Kn w0 (w.drewN n) cs ls := h.below (below_drewN (Below.refl _ _) n)
theorem Kn.box (h : Kn w0 w cs ls) (n : Int) (v : Value) (t : TypeId) : Kn w0 (w.alloc (.cells #[.int .i64 n, v] t)) ((w.heap.size, n, v) :: cs) ls := by
  have h2 := h.below ((Below.refl _ _).alloc (Nat.le_refl _) (.cells #[.int .i64 n, v] t))
  refine ⟨h2.1, fun c hc => ?_, h2.3, h2.4, h2.5, h2.6⟩
  rcases List.mem_cons.1 hc with rfl | hc
  · exact ⟨by simp, by simp [World.cell?_alloc_new], by simp [World.cell?_alloc_new]⟩
  · exact h2.2 c hc
theorem Kn.put (h : Kn w0 w cs ls) {A : Option Addr} {xs : List Int} (hi : Ints w w.heap.size A xs) : Kn w0 w cs ((A, xs) :: ls) :=
  ⟨h.1, h.2, (fun l hl => by
    rcases List.mem_cons.1 hl with rfl | hl
    · exact hi
    · exact h.3 l hl), h.4, h.5, h.6⟩
theorem Kn.list (h : Kn w0 w cs ls) (i : Nat) {A : Option Addr} {xs : List Int} (hi : ls[i]? = some (A, xs)) : Ints w w.heap.size A xs := h.3 _ (List.mem_of_getElem? hi)
theorem Kn.cell (h : Kn w0 w cs ls) (i : Nat) {g : Nat} {n : Int} {v : Value} (hi : cs[i]? = some (g, n, v)) : w.cell? ⟨g, 0, none⟩ = some (.int .i64 n) ∧ w.cell? ⟨g, 1, none⟩ = some v := (h.2 _ (List.mem_of_getElem? hi)).2
theorem Kn.only (h : Kn w0 w cs ls) (is js : List Nat) {cs' : List (Nat × Int × Value)} {ls' : List (Option Addr × List Int)} (h1 : is.map (fun i => cs[i]?) = cs'.map some) (h2 : js.map (fun i => ls[i]?) = ls'.map some) : Kn w0 w cs' ls' := by
  refine ⟨h.1, fun c hc => ?_, fun l hl => ?_, h.4, h.5, h.6⟩
  · have : some c ∈ is.map (fun i => cs[i]?) := by rw [h1]; exact List.mem_map_of_mem hc
    obtain ⟨i, _, hi⟩ := List.mem_map.1 this
    exact h.2 c (List.mem_of_getElem? hi)
  · have : some l ∈ js.map (fun i => ls[i]?) := by rw [h2]; exact List.mem_map_of_mem hl
    obtain ⟨i, _, hi⟩ := List.mem_map.1 this
    exact h.3 l (List.mem_of_getElem? hi)

end



section

variable {w0 w w' : World} {cs : List (Nat × Int × Value)} {ls : List (Option Addr × List Int)} {P Q R S T U : Prop}
theorem skk2 (h : P ∧ Q ∧ Kn w0 w cs ls) (hb : Below w.heap.size w w') : Kn w0 w' cs ls := h.2.2.below hb
theorem skk4 (h : P ∧ Q ∧ R ∧ S ∧ Kn w0 w cs ls) (hb : Below w.heap.size w w') : Kn w0 w' cs ls := h.2.2.2.2.below hb
theorem sk2 (h : P ∧ Q ∧ Kn w0 w cs ls) : Kn w0 w cs ls := h.2.2
theorem sk4 (h : P ∧ Q ∧ R ∧ S ∧ Kn w0 w cs ls) : Kn w0 w cs ls := h.2.2.2.2

end


theorem bytes_at' {w w1 : World} {v : Value} {len : Nat} (h : Hid (Bytes w.heap.size w v len)) (hb : Below w.heap.size w w1) : Hid (Bytes w1.heap.size w1 v len) := Lib.hid (h.out.later hb)

theorem big_any (a : Option Addr) (len cap : Nat) (w : World) (hlen : len ≤ 9223372036854775807) : Calls Tryz.prog 4 #[.slice a len cap] w fun e w' => e = .returned (.bool (decide (1048576 < (len : Int)))) ∧ w = w' := by
  go_enter Tryz.func4, Tryz.ntmps4
  go_wp2
  go_ret
  exact ⟨rfl, rfl⟩

end Go.Proofs.YtielfnjkfceliaaGreatDoor.C
