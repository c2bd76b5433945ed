/-
  The draws in the words of what a call owns: the cursor is a row beside others.
-/
import Derived.Test.YtfpoiiennlhphaaDoorBase
import Derived.Test.YtfpoiiennlhphaaDoorDraw
import Derived.Test.YtfpoiiennlhphaaDoorDrawN
namespace Go.Proofs.YtfpoiiennlhphaaDoor.C
open Go.RowKit M K
set_option linter.unusedVariables false
set_option linter.unusedSimpArgs false

theorem _root_.Go.Proofs.YtfpoiiennlhphaaDoor.K.bx_heap {w : World} {lo g : Nat} {t : TypeId} {cs : List Value} (h : w.ownsRow lo t cs.length (.slice (some ⟨g, 0, none⟩) 1 1) 1 cs) : w.heap[g]? = some (.cells ⟨cs⟩ t (0, 0)) := by
  rcases h.2 with ⟨h', _⟩ | ⟨g', cap, cur, hv, _, hg, _, _, hs, ht⟩
  · cases h'
  · injection hv with h1 h2 h3
    injection h1 with h1
    injection h1 with h1
    subst h1 h3
    rw [hg]
    have : cur.toList = cs := by
      rw [← ht, List.take_of_length_le]
      rw [Array.length_toList, hs]
      omega
    rw [← this]
theorem _root_.Go.Proofs.YtfpoiiennlhphaaDoor.K.bx_own {w : World} {lo g : Nat} {t : TypeId} {cs : List Value} (hg : w.heap[g]? = some (.cells ⟨cs⟩ t (0, 0))) (hl : lo ≤ g) : w.ownsRow lo t cs.length (.slice (some ⟨g, 0, none⟩) 1 1) 1 cs :=
  ⟨by omega, .inr ⟨g, 1, ⟨cs⟩, rfl, hl, hg, Nat.le_refl _, by unfold maxLen; omega, by simp, List.take_of_length_le (by simp)⟩⟩

/-- A new cursor. -/
def NewCur (v : Value) (len : Nat) (w : World) (e : Ending) (w' : World) : Prop := e = .returned (.pointer (some ⟨w.heap.size, 0, none⟩)) ∧ ∃ i h, i ≤ len ∧ -9223372036854775808 ≤ h ∧ h ≤ 9223372036854775807 ∧ w'.heap[w.heap.size]? = some (.cells #[v, .int .i64 i, .int .i64 h] 87 (0, 0)) ∧ Below w.heap.size w w'

theorem made_cur2 (w : World) (v : Value) (h : Int) : (w.alloc (.cells #[v, .int .i64 0, .int .i64 h] 87)).heap[w.heap.size]? = some (.cells #[v, .int .i64 (0 : Nat), .int .i64 h] 87 (0, 0)) ∧ Below w.heap.size w (w.alloc (.cells #[v, .int .i64 0, .int .i64 h] 87)) :=
  ⟨heap_alloc_new w _, (Below.refl _ _).alloc (Nat.le_refl _) _⟩

set_option maxRecDepth 100000 in
set_option maxHeartbeats 1600000 in
theorem new_nil2 (a : Option Addr) (cap : Nat) (w : World) : Calls Tryd.prog 69 #[.slice a 0 cap] w (NewCur (.slice a 0 cap) 0 w) := by
  have hc := made_cur2 w (.slice a 0 cap) 10101
  have HC := Lib.hid hc
  clear hc
  go_enter Tryd.func69, Tryd.ntmps69
  go_wp2
  go_loop [3, 4] (fun h c => h = .int .i64 10101 ∧ c = .int .i64 0) (fun _ _ => 0)
  case atStart => exact ⟨rfl, rfl⟩
  case round =>
    obtain ⟨rfl, rfl⟩ := hrel
    go_wp2
    go_ret
    exact ⟨rfl, 0, _, Nat.zero_le _, by omega, by omega, HC.out.1, HC.out.2⟩

set_option maxRecDepth 100000 in
set_option maxHeartbeats 1600000 in
theorem new_some2 (b off len cap : Nat) (zs : List Int) (w : World) (hcap : len ≤ cap) (hmax : cap ≤ 9223372036854775807) (hl : len ≤ 1048576) (hz : zs.length = cap) (hb : b < w.heap.size)
    (hcell : Hid (∀ j, j < zs.length → w.cell? ⟨b, off + j, none⟩ = some (.int .u8 (zs.getD j 0)))) (hzb : Hid (∀ n ∈ zs, 0 ≤ n ∧ n ≤ 255)) :
    Calls Tryd.prog 69 #[.slice (some ⟨b, off, none⟩) len cap] w (NewCur (.slice (some ⟨b, off, none⟩) len cap) len w) := by
  have hy : Bytes w.heap.size w (.slice (some ⟨b, off, none⟩) len cap) len := .inr ⟨b, off, cap, zs, rfl, hcap, hmax, hz, hb, hcell.out, hzb.out⟩
  have HY := Lib.hid hy
  clear hy
  go_enter Tryd.func69, Tryd.ntmps69
  go_wp2
  go_loop [3, 4] (fun h c => ∃ (x : Int) (i : Nat), h = .int .i64 x ∧ Fits x ∧ c = .int .i64 i ∧ i ≤ len ∧ i ≤ 4000) (fun _ c => len - (intOf c).toNat)
  case atStart => exact ⟨_, 0, rfl, ⟨by omega, by omega⟩, rfl, Nat.zero_le _, Nat.zero_le _⟩
  case round =>
    obtain ⟨x, i, rfl, hx, rfl, hi1, hi2⟩ := hrel
    by_cases hin : i < len ∧ i < 4000
    · obtain ⟨g1, g2⟩ := hin
      have hiz : i < zs.length := by omega
      have hc := hcell.out i hiz
      have HX := Lib.hid hx
      clear hx
      generalize zs.getD i 0 = z at hc
      go_wp2
      go_round
      case rel => exact ⟨_, i + 1, rfl, and_fits _ _, by go_num, by omega, by omega⟩
      case measure => simp [intOf]; omega
    · have hi3 : i = len ∨ i = 4000 := by omega
      obtain ⟨f1, f2⟩ := hx
      have hc := made_cur2 w (.slice (some ⟨b, off, none⟩) len cap) x
      have HC := Lib.hid hc
      clear hc hin
      go_wp2
      all_goals
        go_ret
        exact ⟨rfl, 0, _, Nat.zero_le _, by omega, by omega, HC.out.1, HC.out.2⟩

theorem new_cur (v : Value) (len : Nat) (w : World) (hl : len ≤ 1048576) (hy : Bytes w.heap.size w v len) : Calls Tryd.prog 69 #[v] w (NewCur v len w) := by
  rcases hy with ⟨⟨a, cap, rfl⟩, rfl⟩ | ⟨b, off, cap, zs, rfl, h1, h2, h3, h4, h5, h6⟩
  · exact new_nil2 a cap w
  · exact new_some2 b off len cap zs w h1 (by unfold maxLen at h2; omega) hl h3 h4 (Lib.hid h5) (Lib.hid h6)

/-- The cursor as a row. -/
def cu (B : Nat) (v : Value) (i : Nat) (h : Int) : Cel := bx B 87 [v, .int .i64 i, .int .i64 h]
/-- The memory of a call that draws: the cursor first, the other rows behind it. -/
def Dr (w0 : World) (v : Value) (len B : Nat) (w : World) (L : List Cel) : Prop := Bytes w0.heap.size w0 v len ∧ ∃ i h, i ≤ len ∧ Fits h ∧ St w0 w (cu B v i h :: L)


section

variable {w0 w w' : World} {v : Value} {len B : Nat} {L : List Cel}
theorem Dr.base (h : Dr w0 v len B w L) : Below w0.heap.size w0 w := by
  obtain ⟨_, i, x, _, _, hS⟩ := h
  exact hS.base
theorem Dr.rest (h : Dr w0 v len B w L) : St w0 w L := by
  obtain ⟨_, i, x, _, _, hS⟩ := h
  exact hS.drop 0
theorem Dr.lt (h : Dr w0 v len B w L) : w0.heap.size ≤ B ∧ B < w.heap.size := by
  obtain ⟨_, i, x, _, _, hS⟩ := h
  exact hS.lt (i := 0) rfl
/-- What keeps the cursor and makes of the rest another memory. -/
theorem Dr.map (h : Dr w0 v len B w L) {L' : List Cel} (f : ∀ c, St w0 w (c :: L) → St w0 w' (c :: L')) : Dr w0 v len B w' L' := by
  obtain ⟨hy, i, x, a, b, hS⟩ := h
  exact ⟨hy, i, x, a, b, f _ hS⟩
theorem St.swap {a b : Cel} (h : St w0 w (a :: b :: L)) : St w0 w (b :: a :: L) := by
  obtain ⟨h1, h2, h3⟩ := h
  refine ⟨h1, fun r hr => h2 r ?_, ?_⟩
  · simp only [List.mem_cons] at hr ⊢
    rcases hr with hr | hr | hr
    · exact .inr (.inl hr)
    · exact .inl hr
    · exact .inr (.inr hr)
  · obtain ⟨g1, g2⟩ := List.pairwise_cons.1 h3
    obtain ⟨g3, g4⟩ := List.pairwise_cons.1 g2
    refine .cons (fun q hq => ?_) (.cons (fun q hq => g1 q (List.mem_cons_of_mem _ hq)) g4)
    rcases List.mem_cons.1 hq with rfl | hq
    · intro k hk e
      exact g1 b List.mem_cons_self k e hk
    · exact g3 q hq
theorem Dr.alloc (h : Dr w0 v len B w L) (l : List Value) (t : TypeId) : Dr w0 v len B (w.alloc (.cells ⟨l⟩ t)) (bx w.heap.size t l :: L) := h.map fun c hS => St.swap (hS.alloc l t)
theorem Dr.drewN (h : Dr w0 v len B w L) (n : Nat) : Dr w0 v len B (w.drewN n) L := h.map fun c hS => hS.drewN n
theorem Dr.drew (h : Dr w0 v len B w L) : Dr w0 v len B w.drew L := h.map fun c hS => hS.drew
theorem Dr.below (h : Dr w0 v len B w L) (hb : Below w.heap.size w w') : Dr w0 v len B w' L := h.map fun c hS => hS.below hb
theorem Dr.newI {y : Value} {xs : List Int} (h : Dr w0 v len B w L) (hb : Below w.heap.size w w') (ho : Own w' w.heap.size y xs) : Dr w0 v len B w' (il y xs.length xs :: L) := h.map fun c hS => St.swap (hS.newI hb ho)
theorem Dr.empty (h : Dr w0 v len B w L) : Dr w0 v len B (w.alloc (.cells #[] 3)) (il (.slice (some ⟨w.heap.size, 0, none⟩) 0 0) 0 [] :: L) := h.map fun c hS => St.swap hS.empty
theorem Dr.able (h : Dr w0 v len B w L) : Able w0.heap.size w B := by
  obtain ⟨hy, i, x, a, b, hS⟩ := h
  exact ⟨(hS.lt (i := 0) rfl).1, v, len, hy.below hS.base, i, x, a, b.1, b.2, bx_heap (hS.own (i := 0) rfl)⟩
theorem Bytes.len_eq {base base' : Nat} {w w' : World} {v : Value} {len len' : Nat} (h : Bytes base w v len) (h' : Bytes base' w' v len') : len = len' := by
  rcases h with ⟨⟨a, cap, rfl⟩, rfl⟩ | ⟨b, off, cap, zs, rfl, _⟩ <;> rcases h' with ⟨⟨a', cap', e⟩, rfl⟩ | ⟨b', off', cap', zs', e, _⟩ <;> (injection e with e1 e2) <;> omega

end


/-- A number that was drawn. -/
def DrI (w0 : World) (v : Value) (len B : Nat) (L : List Cel) (P : Int → Prop) (e : Ending) (w' : World) : Prop := ∃ x : Int, e = .returned (.int .i64 x) ∧ P x ∧ Dr w0 v len B w' L


section

variable {w0 w : World} {v : Value} {len B : Nat} {L : List Cel}
/-- What the elder contracts of the draws say, in the words of the rows. -/
theorem Dr.of_cur {w' : World} (h : Dr w0 v len B w L) (hc : Cur w' B v len) (hg : w.grownBy w' (some B)) : Dr w0 v len B w' L := by
  obtain ⟨hy, i, x, a, b, hS⟩ := h
  obtain ⟨i', x', a', b1, b2, hB⟩ := hc
  exact ⟨hy, i', x', a', ⟨b1, b2⟩, hS.mark (i := 0) (r := cu B v i x) rfl hg (bx_own hB (hS.lt (i := 0) rfl).1)⟩

theorem byte_dr (h : Dr w0 v len B w L) :
    Calls Tryd.prog 118 #[.pointer (some ⟨B, 0, none⟩)] w (DrI w0 v len B L (fun x => 0 ≤ x ∧ x ≤ 255)) := by
  have h0 := h
  obtain ⟨hy, i, x, a, b, hS⟩ := h
  have hB : w.heap[B]? = some (.cells #[v, .int .i64 i, .int .i64 x] 87 (0, 0)) := bx_heap (hS.own (i := 0) rfl)
  have hlt := (hS.lt (i := 0) rfl).1
  have hy2 := hy.below hS.base
  have key : Calls Tryd.prog 118 #[.pointer (some ⟨B, 0, none⟩)] w fun e w' => ∃ x : Int, e = .returned (.int .i64 x) ∧ 0 ≤ x ∧ x ≤ 255 ∧ Cur w' B v len ∧ w.grownBy w' (some B) := by
    rcases hy2 with ⟨⟨a', cap, rfl⟩, rfl⟩ | ⟨b', off, cap, zs, rfl, g1, g2, g3, g4, g5, g6⟩
    · exact byte_end B a' 0 cap i x w (by omega) (by omega) hB
    · by_cases hi : i < len
      · exact byte_some B b' off len cap zs i x w hi g1 (by unfold maxLen at g2; omega) g3 g5 g6 (by omega) hB
      · exact byte_end B _ len cap i x w hi a hB
  exact key.mono fun e w' ⟨y, he, y0, y1, hc, hg⟩ => ⟨y, he, ⟨y0, y1⟩, h0.of_cur hc hg⟩

set_option maxHeartbeats 1600000 in
theorem below_dr (n : Int) (h : Hid (Dr w0 v len B w L)) (hn : 1 ≤ n) (hn2 : n ≤ 4000000000) :
    Calls Tryd.prog 86 #[.pointer (some ⟨B, 0, none⟩), .int .i64 n] w (DrI w0 v len B L (fun x => 0 ≤ x ∧ x < n)) := by
  by_cases h256 : n ≤ 256
  · go_enter Tryd.func86, Tryd.ntmps86
    go_wp2_with fail
    refine (byte_dr h.out).mono ?_
    rintro e w1 ⟨x, rfl, ⟨x0, x1⟩, hd⟩
    have HD := Lib.hid hd
    clear hd
    go_wp2
    go_ret
    exact ⟨_, rfl, ⟨Int.emod_nonneg _ (by omega), Int.emod_lt_of_pos _ (by omega)⟩, HD.out⟩
  · go_enter Tryd.func86, Tryd.ntmps86
    go_wp2_with fail
    refine (byte_dr h.out).mono ?_
    rintro e w1 ⟨x, rfl, ⟨x0, x1⟩, hd⟩
    have HD := Lib.hid hd
    clear hd
    go_wp2_with fail
    refine (byte_dr HD.out).mono ?_
    rintro e w2 ⟨y, rfl, ⟨y0, y1⟩, hd⟩
    have HD2 := Lib.hid hd
    clear hd
    go_wp2_with fail
    refine (byte_dr HD2.out).mono ?_
    rintro e w3 ⟨z, rfl, ⟨z0, z1⟩, hd⟩
    have HD3 := Lib.hid hd
    clear hd
    go_wp2_with fail
    refine (byte_dr HD3.out).mono ?_
    rintro e w4 ⟨u, rfl, ⟨u0, u1⟩, hd⟩
    have HD4 := Lib.hid hd
    clear hd
    go_wp2
    go_ret
    exact ⟨_, rfl, ⟨Int.emod_nonneg _ (by omega), Int.emod_lt_of_pos _ (by omega)⟩, HD4.out⟩

/-- A bool that was drawn. -/
def DrB (w0 : World) (v : Value) (len B : Nat) (L : List Cel) (e : Ending) (w' : World) : Prop := ∃ b : Bool, e = .returned (.bool b) ∧ Dr w0 v len B w' L

theorem once_dr (n : Int) (h : Hid (Dr w0 v len B w L)) (hn : 1 ≤ n) (hn2 : n ≤ 4000000000) :
    Calls Tryd.prog 87 #[.pointer (some ⟨B, 0, none⟩), .int .i64 n] w (DrB w0 v len B L) := by
  go_enter Tryd.func87, Tryd.ntmps87
  go_wp2_with fail
  refine (below_dr n h hn hn2).mono ?_
  rintro e w1 ⟨x, rfl, ⟨x0, x1⟩, hd⟩
  have HD := Lib.hid hd
  clear hd
  go_wp2
  go_ret
  exact ⟨_, rfl, HD.out⟩

/-- A number of a list that lies beside the cursor. -/
theorem pick_dr (A n m : Nat) (xs : List Int) (h : Hid (Dr w0 v len B w (il (.slice (some ⟨A, 0, none⟩) n m) n xs :: L))) (hn : 1 ≤ n) (hn2 : n ≤ 1000) :
    Calls Tryd.prog 88 #[.pointer (some ⟨B, 0, none⟩), .slice (some ⟨A, 0, none⟩) n m] w (DrI w0 v len B L (fun x => x ∈ xs)) := by
  go_enter Tryd.func88, Tryd.ntmps88
  go_wp2_with fail
  refine (below_dr n h (by omega) (by omega)).mono ?_
  rintro e w1 ⟨x, rfl, ⟨x0, x1⟩, hd⟩
  obtain ⟨k, rfl⟩ := Int.eq_ofNat_of_zero_le x0
  have hk : k < n := by omega
  obtain ⟨c1, -⟩ := hd.rest.cellI (i := 0) rfl hk
  have hl : xs.length = n := OwnN.len (hd.rest.own (i := 0) rfl)
  have hm : xs.getD k 0 ∈ xs := by
    rw [List.getD_eq_getElem?_getD, List.getElem?_eq_getElem (by omega)]
    exact List.getElem_mem (by omega)
  have HD := Lib.hid (hd.map fun c hS => hS.drop 1)
  generalize xs.getD k 0 = y at c1 hm
  clear hd
  go_wp2
  go_ret
  exact ⟨y, rfl, hm, HD.out⟩

/-- A cursor is made. -/
theorem new_dr (v : Value) (len : Nat) (w : World) (hl : len ≤ 1048576) (hy : Bytes w.heap.size w v len) :
    Calls Tryd.prog 69 #[v] w fun e w' => e = .returned (.pointer (some ⟨w.heap.size, 0, none⟩)) ∧ Dr w v len w.heap.size w' [] := by
  refine (new_cur v len w hl hy).mono ?_
  rintro e w' ⟨rfl, i, x, a, b1, b2, hB, hb⟩
  refine ⟨rfl, hy, i, x, a, ⟨b1, b2⟩, hb, fun r hr => ?_, by simp⟩
  obtain rfl : r = cu w.heap.size v i x := by simpa using hr
  exact bx_own hB (Nat.le_refl _)

end


end Go.Proofs.YtfpoiiennlhphaaDoor.C
