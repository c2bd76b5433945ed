/-
  The contract of impl.DecodeHex, and the law that compares it with spec.DecodeHex.
-/
import Derived.Test.YtmpoonecobepcaaDoorHexDS
import Derived.Lib.OthersKept
import Derived.WalkSmall
namespace Go.Proofs.YtmpoonecobepcaaDoor.C
open Go.RowKit M K
set_option linter.unusedVariables false

/-- An owned row stands while a string's iterator in another block moves on. -/
theorem ownsRow_iter_far {w : World} {base : Nat} {e : TypeId} {size g n cap : Nat} {xs : List Value} (h : w.ownsRow base e size (.slice (some ⟨g, 0, none⟩) n cap) n xs) {k : Nat} (hk : k ≠ g) (s : ByteArray) (p : Nat) : (w.iterAt k s p).ownsRow base e size (.slice (some ⟨g, 0, none⟩) n cap) n xs := by
  obtain ⟨h1, h2⟩ := h
  refine ⟨h1, ?_⟩
  rcases h2 with h2 | ⟨g', cap', cur, a, b, c, d⟩
  · exact .inl h2
  · simp only [Value.slice.injEq, Option.some.injEq, Addr.mk.injEq, and_true, true_and] at a
    obtain ⟨rfl, rfl⟩ := a
    exact .inr ⟨g, cap, cur, rfl, b, by rw [Lib.iterAt_other _ _ _ _ _ (Ne.symm hk)]; exact c, d⟩

theorem shl4_u8 (v : Int) (h0 : 0 ≤ v) (h1 : v ≤ 15) (d : Int) (d0 : 0 ≤ d) (d1 : d ≤ 15) : bits .or .u8 (v * 16) d = v * 16 + d :=
  bits_join .u8 8 (by decide) wraps_u8 4 _ _ (by omega) (by omega) (by omega) d0 (by omega) (by omega)

theorem hexRow_zero (s : ByteArray) (m : Nat) : hexRow s m 0 = List.replicate m (.int .u8 0) := by
  apply List.ext_getElem
  · simp [hexRow]
  · intro j h1 h2
    simp [hexRow, cellV]

set_option maxRecDepth 100000 in
set_option maxHeartbeats 1600000 in
theorem idh_any (s : ByteArray) (w : World) (h4 : s.size ≤ 1048576) :
    Calls Tryd.prog 16 #[.string s] w fun e w' => e = .returned (.tuple #[.string (dhS s), .bool (dhB s)]) ∧ Below w.heap.size w w' := by
  obtain ⟨i0, hi, hz0, hz1, hz2⟩ := info_parts info_u8
  rcases Nat.mod_two_eq_zero_or_one s.size with hp | hp
  · have hp1 : ((s.size : Int) % 2 != 0) = false := by simp; omega
    obtain ⟨m, hm⟩ : ∃ m, s.size / 2 = m := ⟨_, rfl⟩
    have hdiv : (s.size : Int) / 2 = (m : Int) := by omega
    have HP := Lib.hid (show s.size = 2 * m by omega)
    have hm2 : m ≤ 524288 := by omega
    clear hp hm
    go_enter Tryd.func16, Tryd.ntmps16
    go_wp2_with (at_make; refine wpList_make_full _ rfl _ _ 22 rfl w.heap.size 5 i0 (.int .u8 0) 1 Tryd.underlying22 hi hz0 hz1 _ _ _ _ m rfl rfl rfl rfl ?b2 ?b3 (Nat.le_refl _) ?_)
    case b2 => rw [hz2]; omega
    case b3 => unfold maxLen; omega
    intro w0 hown0 hgrow0
    rw [made_u8] at hown0
    have z0 : w.heap.size < w0.heap.size := (hown0.lt w.heap.size rfl).2
    have hb0 : Below w.heap.size w w0 := (Below.refl _ _).grown hgrow0 (Nat.le_refl _) (fun k h => by cases h)
    clear hdiv hgrow0
    go_wp2
    go_loopw [5, 6, 7] (fun _ _ _ wr => ∃ pos : Nat, pos ≤ s.size ∧ AllHex s pos ∧ wr.heap[w0.heap.size]? = some (.stringIter s pos) ∧ wr.ownsRow w.heap.size 5 1 (.slice (some ⟨w.heap.size, 0, none⟩) m m) m (hexRow s m pos) ∧ Below w.heap.size w wr) (fun _ _ _ wr => s.size - wr.iterPos w0.heap.size)
    case atStart => exact ⟨0, Nat.zero_le _, AllHex.zero s, World.iter_heap w0 s 0, by rw [hexRow_zero]; exact hown0.alloc _, hb0.alloc hb0.size _⟩
    case round =>
      obtain ⟨pos, hpos, hall, hit, hown, hb⟩ := hrel
      have HALL := Lib.hid hall
      have HIT := Lib.hid hit
      have HPOS := Lib.hid (iterPos_of hit)
      clear hall
      by_cases hlt : pos < s.size
      · by_cases ha : s[pos].toNat < 128
        · have hnx : ∀ ty, (Instr.next (.pointer (some ⟨w0.heap.size, 0, none⟩)) true ty).run Tryd.prog wr = _ := fun ty => Lib.run_next_ascii_at wr w0.heap.size s pos ty hit hlt ha
          clear hit
          have hown1 := ownsRow_iter_far hown (k := w0.heap.size) (by omega) s (pos + 1)
          have hit1 := Lib.iterAt_heap wr w0.heap.size s pos (pos + 1) HIT.out
          have hb1 := Lib.below_iterAt hb (k := w0.heap.size) (by omega) s (pos + 1)
          have hdb := hv_bd (s[pos].toNat : Int)
          have E1 := Lib.hid (bt_at s pos hlt)
          go_wp2_with fail
          generalize wr.iterAt w0.heap.size s (pos + 1) = wn at hown1 hit1 hb1 ⊢
          clear hnx hown hb HIT
          have HIT1 := Lib.hid hit1
          clear hit1
          by_cases n1 : hv (s[pos].toNat : Int) < 0
          · refine (digitOf_any _ _ (by omega) (by omega)).mono ?_
            rintro e w' ⟨rfl, rfl⟩
            go_wp2
            go_ret2
            exact ⟨ret_dh (by
              have := dh_no (s := s) (fun g => AllHex.not (s := s) (i := pos) (k := s.size) (by rw [E1.out]; exact n1) hlt g.2)
              exact ⟨this.1.symm, this.2.symm⟩), hb1⟩
          · have n2 : 0 ≤ hv (s[pos].toNat : Int) := by omega
            clear n1
            have hpm : pos / 2 < m := by have := HP.out; omega
            have hce := hown1.cellAt (pos / 2) (by omega)
            have hfr := hown1.frozenAt (pos / 2)
            rw [show (hexRow s m pos)[pos / 2]? = some (.int .u8 (cellV s pos (pos / 2))) by simp [hexRow, hpm]] at hce
            obtain ⟨v0, v1⟩ := cellV_now s pos HALL.out
            have hst := hown1.stored (pos / 2) (.int .u8 (cellV s pos (pos / 2) * 16 + hv (s[pos].toNat : Int)))
            rw [← E1.out, hexRow_step s m pos (by have := HP.out; omega), E1.out] at hst
            have HST := Lib.hid hst
            have hor := shl4_u8 (cellV s pos (pos / 2)) v0 v1 (hv (s[pos].toNat : Int)) n2 hdb.2
            clear hst hown1
            generalize cellV s pos (pos / 2) = v at hce v0 v1 HST hor
            refine (digitOf_any _ _ (by omega) (by omega)).mono ?_
            rintro e w' ⟨rfl, rfl⟩
            have hset : (wn.setCell ⟨w.heap.size, pos / 2, none⟩ (.int .u8 (v * 16 + hv (s[pos].toNat : Int)))).heap[w0.heap.size]? = some (.stringIter s (pos + 1)) := by
              rw [Below.heap_setCell _ _ _ _ (by show w0.heap.size ≠ w.heap.size; omega)]; exact HIT1.out
            have HSET := Lib.hid hset
            clear hset
            go_wp2
            go_roundw
            case rel => exact ⟨pos + 1, by omega, HALL.out.succ (by rw [E1.out]; exact n2), HSET.out, HST.out.1, hb1.setCell (Nat.le_refl _) _⟩
            case measure => rw [HPOS.out, iterPos_of HSET.out]; omega
        · have ha2 : 128 ≤ s[pos].toNat := by omega
          obtain ⟨r1, r2⟩ := decode_high s pos hlt ha2
          have hnx : ∀ ty, (Instr.next (.pointer (some ⟨w0.heap.size, 0, none⟩)) true ty).run Tryd.prog wr = _ := fun ty => Lib.run_next_any_at wr w0.heap.size s pos ty hit hlt
          have r3 := decode_le s pos
          have hb1 := Lib.below_iterAt hb (k := w0.heap.size) (by omega) s (pos + (Utf8.decode s pos).2)
          clear hit ha
          have hneg : hv ((Utf8.decode s pos).1 : Int) = -1 := hv_high _ (by omega)
          have hd0 : hv ((Utf8.decode s pos).1 : Int) < 0 := by omega
          clear hneg
          have E1 := Lib.hid (bt_at s pos hlt)
          go_wp2_with fail
          generalize wr.iterAt w0.heap.size s (pos + (Utf8.decode s pos).2) = wn at hb1 ⊢
          refine (digitOf_any _ _ (by omega) (by omega)).mono ?_
          rintro e w' ⟨rfl, rfl⟩
          clear hnx
          go_wp2
          go_ret2
          exact ⟨ret_dh (by
            have := dh_no (s := s) (fun g => AllHex.not (s := s) (i := pos) (k := s.size) (by rw [E1.out, hv_high _ (by omega)]; omega) hlt g.2)
            exact ⟨this.1.symm, this.2.symm⟩), hb1⟩
      · have hnx : ∀ ty, (Instr.next (.pointer (some ⟨w0.heap.size, 0, none⟩)) true ty).run Tryd.prog wr = _ := fun ty => Lib.run_next_end_at wr w0.heap.size s pos ty hit hlt
        have HE := Lib.hid (show pos = 2 * m by have := HP.out; omega)
        have hrow : hexRow s m pos = cellsOf (unhex s m) := by rw [HE.out]; exact hexRow_end s m (by rw [← HE.out]; exact HALL.out)
        rw [hrow] at hown
        have hcv := conv_row (P := Tryd.prog) wr 22 9 5 w.heap.size w.heap.size m m (unhex s m) Tryd.underlying22 Tryd.underlying5 Tryd.underlying9 (unhex_length s m) hown
        clear hit hown hrow
        go_wp2
        go_ret2
        exact ⟨ret_dh (by
          have := dh_yes (s := s) (by have := HP.out; omega) (by rw [HP.out, ← HE.out]; exact HALL.out)
          rw [this.1, this.2, show s.size / 2 = m by have := HP.out; omega]
          exact ⟨rfl, rfl⟩), hb⟩
  · have hp1 : ((s.size : Int) % 2 != 0) = true := by simp; omega
    go_enter Tryd.func16, Tryd.ntmps16
    go_wp2
    go_ret2
    exact ⟨ret_dh (by have := dh_no (s := s) (by omega); exact ⟨this.1.symm, this.2.symm⟩), Below.refl _ _⟩

end Go.Proofs.YtmpoonecobepcaaDoor.C
