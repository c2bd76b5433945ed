/-
  The contracts of the draws of chapter 2, as the laws call them.
-/
import Derived.Test.YtfpoiiennlhphaaDoorDrawG
import Derived.StillTailTactics
namespace Go.Proofs.YtfpoiiennlhphaaDoor.C
open Go.RowKit M K
set_option linter.unusedVariables false
set_option linter.unusedSimpArgs false

/-- Bytes as they stand in a later memory. -/
theorem Bytes.later {w0 w : World} {v : Value} {len : Nat} (h : Bytes w0.heap.size w0 v len) (hb : Below w0.heap.size w0 w) : Bytes w.heap.size w v len := by
  rcases h.below hb with h | ⟨x, off, cap, zs, hv, h1, h2, h3, h4, h5, h6⟩
  · exact .inl h
  · exact .inr ⟨x, off, cap, zs, hv, h1, h2, h3, Nat.lt_of_lt_of_le h4 hb.size, h5, h6⟩


section

variable {w0 w : World} {v : Value} {len : Nat} {L : List Cel}
theorem new_st (h : St w0 w L) (hy : Bytes w0.heap.size w0 v len) (hl : len ≤ 1048576) :
    Calls Tryd.prog 69 #[v] w fun e w' => e = .returned (.pointer (some ⟨w.heap.size, 0, none⟩)) ∧ Dr w0 v len w.heap.size w' L := by
  refine (new_cur v len w hl (hy.later h.base)).mono ?_
  rintro e w' ⟨rfl, i, x, a, b1, b2, hB, hb⟩
  exact ⟨rfl, hy, i, x, a, ⟨b1, b2⟩, h.new (t := 87) (s := 3) (n := 1) (v := .slice (some ⟨w.heap.size, 0, none⟩) 1 1) (cs := [v, .int .i64 i, .int .i64 x]) hb (bx_own hB (Nat.le_refl _))⟩

end


/-- A function whose values are new. -/
def IsF (w w' : World) (v : Value) (n : Int) (xs : List Int) : Prop := ∃ A c, v = .agg #[.int .i64 n, .slice A xs.length c] ∧ Own w' w.heap.size (.slice A xs.length c) xs ∧ 1 ≤ xs.length ∧ xs.length ≤ 32
def GotF (w : World) (e : Ending) (w' : World) : Prop := ∃ v n xs, e = .returned v ∧ IsF w w' v n xs ∧ Below w.heap.size w w'
def GotFI (P : Int → Prop) (w : World) (e : Ending) (w' : World) : Prop := ∃ v n xs x, e = .returned (.tuple #[v, .int .i64 x]) ∧ P x ∧ IsF w w' v n xs ∧ Below w.heap.size w w'
def GotFII (P : Int → Int → Prop) (w : World) (e : Ending) (w' : World) : Prop := ∃ v n xs x y, e = .returned (.tuple #[v, .int .i64 x, .int .i64 y]) ∧ P x y ∧ IsF w w' v n xs ∧ Below w.heap.size w w'
def GotFF (w : World) (e : Ending) (w' : World) : Prop := ∃ v n xs u m ys, e = .returned (.tuple #[v, u]) ∧ IsF w w' v n xs ∧ IsF w w' u m ys ∧ Below w.heap.size w w'


section

variable (v : Value) (len : Nat) (w : World) (hl : len ≤ 1048576) (hy : Hid (Bytes w.heap.size w v len))
include hl hy

set_option maxRecDepth 100000 in
set_option maxHeartbeats 4000000 in
theorem set_got : Calls Tryd.prog 70 #[v] w (GotFI (fun x => -1 ≤ x ∧ x ≤ 16) w) := by
  have HW := Lib.hid (St.start w)
  go_enter Tryd.func70, Tryd.ntmps70
  go_wp2_with fail
  refine (new_st (HW.out.alloc [.int .i64 0, .slice none 0 0] 26) hy.out hl).mono ?_
  rintro e w1 ⟨rfl, hd⟩
  have HD := Lib.hid hd
  have hz1 := hd.lt.2
  have hz0 : w.heap.size < w1.heap.size := hd.lt_of (i := 0) rfl rfl
  simp only [World.size_alloc] at HD hz1
  clear hd
  go_wp2_with fail
  refine (any_dr HD).mono ?_
  rintro e w2 ⟨n, A, c, xs, rfl, hx, hd⟩
  have HX := Lib.hid hx
  have hz2 : w.heap.size < w2.heap.size := hd.lt_of (i := 1) rfl rfl
  have HD2 := Lib.hid (hd.alloc [.int .i64 n, .slice A xs.length c] 26)
  have hne : ¬ w.heap.size = w2.heap.size := by omega
  have hne2 : ¬ w2.heap.size = w.heap.size := by omega
  clear hd hx HD
  go_wp2
  go_region_held3 (fun w' => w'.cell? ⟨w2.heap.size, 0, none⟩ = some (.int .i64 n) ∧ w'.cell? ⟨w2.heap.size, 1, none⟩ = some (.slice A xs.length c)) (first | assumption | go_keep) ((go_at_call 86; refine (below_dr 18 (Lib.hid HD2.out.drew) (by omega) (by omega)).mono ?_; rintro e w3 ⟨x, rfl, ⟨x0, x1⟩, hd⟩; obtain ⟨b0, -⟩ := hd.rest.box (i := 0) rfl; have b00 := b0 0 _ rfl; have b01 := b0 1 _ rfl; obtain ⟨r1, rf⟩ := hd.rest.box (i := 2) rfl; have r10 := r1 0 _ rfl; have r11 := r1 1 _ rfl; have rf0 := rf 0; have rf1 := rf 1; have hx1 : IntKind.i64.wrap (x - 1) = x - 1 := IntWalk.i64_in _ (by omega); have HD3 := Lib.hid hd; clear b0 r1 rf hd))
  rename_i hHeld
  clear hHeld
  go_wp2
  obtain ⟨hy, ci, cx, ca, cb, hS⟩ := HD3.out
  have hZ := (hS.store (i := 3) rfl 0 (.int .i64 n)).store (i := 3) rfl 1 (.slice A xs.length c)
  exact bodyPost_ret (v := .tuple #[.agg #[.int .i64 n, .slice A xs.length c], .int .i64 (x - 1)]) (by simp [results, Tryd.results70, go_sem, r10, r11, rf0, rf1, hne, hne2]) rfl ⟨_, n, xs, x - 1, rfl, ⟨by omega, by omega⟩, ⟨A, c, rfl, hZ.ownI (i := 2) rfl, HX.out⟩, hZ.base⟩


end


end Go.Proofs.YtfpoiiennlhphaaDoor.C
