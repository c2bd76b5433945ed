/-
  The contracts of the law's own helpers on lists of lists: comparison, marks.
-/
import Derived.Test.YtlbefommcahkeaaLists
import Derived.Test.YtlbefommcahkeaaLol
namespace Go.Proofs.Ytlbefommcahkeaa.K
open Go.RowKit
set_option linter.unusedVariables false

/-- Where an outer row that is not empty lies. -/
theorem St.ol_at {w0 w : World} {L : List Cel} {G : Option Addr} {c i k : Nat} {es : List Ent} (h : St w0 w L) (hi : L[i]? = some (ol (.slice G es.length c) es)) (hk : k < es.length) : ∃ g, G = some ⟨g, 0, none⟩ := by
  rcases (h.own hi).2 with ⟨_, h0⟩ | ⟨g, cap, cur, hv, -⟩
  · exact absurd (show es.length = 0 from h0) (by omega)
  · have hv' : Value.slice G es.length c = .slice (some ⟨g, 0, none⟩) es.length cap := hv
    injection hv' with h1
    exact ⟨g, h1⟩
/-- A list of lists, to be read: the cells at G are slices, each reads as its list. -/
structure LLs (w : World) (G : Option Addr) (es : List Ent) : Prop where
  at_ : ∀ j e, es[j]? = some e → ∃ g, G = some ⟨g, 0, none⟩ ∧ w.cell? ⟨g, j, none⟩ = some (sv e) ∧ g < w.heap.size ∧ Ints w w.heap.size e.1 e.2.2
theorem LLs.below {w w' : World} {G : Option Addr} {es : List Ent} (h : LLs w G es) (hb : Below w.heap.size w w') : LLs w' G es :=
  ⟨fun j e he => by
    obtain ⟨g, h0, h1, h2, h3⟩ := h.at_ j e he
    exact ⟨g, h0, (hb.cell (p := ⟨g, j, none⟩) h2).trans h1, Nat.lt_of_lt_of_le h2 hb.size, (h3.below hb).mono hb.size⟩⟩
theorem St.lls {w0 w : World} {L : List Cel} {G : Option Addr} {c i : Nat} {es : List Ent} (h : St w0 w L) (hi : L[i]? = some (ol (.slice G es.length c) es)) (hm : ∀ e ∈ es, ir e ∈ L) : LLs w G es :=
  ⟨fun j e he => by
    obtain ⟨g, rfl⟩ := h.ol_at hi (List.getElem?_eq_some_iff.1 he).1
    exact ⟨g, rfl, h.cellL hi he, ((h.own hi).lt g rfl).2, (OwnN.own (h.2.1 _ (hm e (List.mem_of_getElem? he)))).read⟩⟩
/-- The first numbers' sum of lengths. -/
def offL (es : List Ent) : Nat → Nat
  | 0 => 0
  | j + 1 => offL es j + (es.getD j (none, 0, [])).2.2.length
/-- The first i lists marked. -/
def markE (k : Int) (es : List Ent) (i : Nat) : List Ent := es.mapIdx fun j e => if j < i then (e.1, e.2.1, iota (k + offL es j) e.2.2.length) else e
theorem markE_zero (k : Int) (es : List Ent) : markE k es 0 = es := by
  unfold markE
  apply List.ext_getElem?
  intro j
  simp
theorem markE_len (k : Int) (es : List Ent) (i : Nat) : (markE k es i).length = es.length := by simp [markE]
theorem markE_at (k : Int) (es : List Ent) (i j : Nat) : (markE k es i)[j]? = (es[j]?).map fun e => if j < i then (e.1, e.2.1, iota (k + offL es j) e.2.2.length) else e := by
  unfold markE
  rw [List.getElem?_mapIdx]
theorem markE_sv (k : Int) (es : List Ent) (i : Nat) : (markE k es i).map sv = es.map sv := by
  apply List.ext_getElem?
  intro j
  rw [List.getElem?_map, List.getElem?_map, markE_at]
  cases es[j]? with
  | none => rfl
  | some e =>
    simp only [Option.map_some]
    by_cases h : j < i
    · rw [if_pos h]; unfold sv; rw [iota_length]
    · rw [if_neg h]
theorem markE_succ (k : Int) (es : List Ent) {i : Nat} {e : Ent} (he : es[i]? = some e) : (markE k es (i + 1)).map ir = ((markE k es i).map ir).set i (il (sv e) e.2.2.length (iota (k + offL es i) e.2.2.length)) := by
  have hil : i < es.length := (List.getElem?_eq_some_iff.1 he).1
  apply List.ext_getElem?
  intro j
  rw [List.getElem?_map, List.getElem?_set, List.length_map, markE_len, markE_at, List.getElem?_map, markE_at]
  by_cases hij : i = j
  · subst hij
    rw [if_pos rfl, if_pos hil, he]
    simp only [Option.map_some]
    rw [if_pos (Nat.lt_succ_self i)]
    unfold ir sv
    rw [iota_length]
  · rw [if_neg hij]
    cases es[j]? with
    | none => rfl
    | some e' =>
      simp only [Option.map_some]
      by_cases h : j < i
      · rw [if_pos h, if_pos (by omega)]
      · rw [if_neg h, if_neg (by omega)]

end Go.Proofs.Ytlbefommcahkeaa.K
namespace Go.Proofs.Ytlbefommcahkeaa.C
open Go.RowKit K
set_option linter.unusedVariables false
set_option linter.unusedSimpArgs false

theorem quiet_val {P : Program} {f : FuncId} {args : Array Value} {w : World} {n : Nat} {v : Value} (h : Calls P f args (w.drewN n) fun e w' => e = .returned v ∧ ∃ q, (w.drewN n).drewN q = w') :
    Calls P f args (w.drewN n) fun e w'' => e = .returned v ∧ ∃ m, w'' = w.drewN m :=
  h.mono fun _ _ ⟨he, q, hq⟩ => ⟨he, n + q, by rw [← hq]; simp [World.drewN, Nat.add_assoc]⟩

end Go.Proofs.Ytlbefommcahkeaa.C
