/-
  Texts that are drawn and spoiled.
-/
import Derived.Test.YtielfnjkfceliaaGreatDoorDrawT
import Derived.Deep.RegionWith
namespace Go.Proofs.YtielfnjkfceliaaGreatDoor.C
open Go.RowKit M K
set_option linter.unusedVariables false
set_option linter.unusedSimpArgs false

/-- A text that was drawn, as bytes. -/
def DrS (w0 : World) (v : Value) (len B : Nat) (L : List Cel) (most : Nat) (e : Ending) (w' : World) : Prop := ∃ t : ByteArray, e = .returned (.string t) ∧ t.size ≤ most ∧ Dr w0 v len B w' L

theorem spoil_byte (w : World) (E : Int) : ∃ z, IntKind.u8.wrap E = z ∧ E % 256 = z ∧ (convert 22 9 (.slice (some ⟨w.heap.size, 0, none⟩) 1 1)).run Tryz.prog (w.alloc (.cells #[.int .u8 z] 5)) = .ok (.string ⟨#[UInt8.ofNat z.toNat]⟩) (w.alloc (.cells #[.int .u8 z] 5)) := by
  refine ⟨E % 256, ?_, rfl, conv_byte (P := Tryz.prog) w _ _ _ (E % 256) Tryz.underlying22 Tryz.underlying5 Tryz.underlying9 (by omega) (by omega)⟩
  rw [IntKind.wrap_u8]


section

variable {w0 : World} {v : Value} {len B : Nat} {L : List Cel} {w : World}

set_option maxRecDepth 100000 in
set_option maxHeartbeats 3200000 in
theorem spoil_dr (s : ByteArray) (h : Hid (Dr w0 v len B w L)) (hs : s.size ≤ 1000) :
    Calls Tryz.prog 60 #[.pointer (some ⟨B, 0, none⟩), .string s] w (DrS w0 v len B L 1003) := by
  by_cases h0 : s.size = 0
  · have hz : ((s.size : Int) == 0) = true := by simpa using h0
    go_enter Tryz.func60, Tryz.ntmps60
    go_wp2_with fail
    refine (text_dr 3 h (by omega)).mono ?_
    rintro e w1 ⟨l, rfl, hl, hd⟩
    have HD := Lib.hid hd
    clear hd
    go_wp2
    go_ret
    exact ⟨_, rfl, by show l.toArray.size ≤ 1003; rw [List.size_toArray]; omega, HD.out⟩
  · have hz : ((s.size : Int) == 0) = false := by simpa using h0
    obtain ⟨m, hm⟩ : ∃ m, s.size = m := ⟨_, rfl⟩
    rw [hm] at h0 hz hs
    go_enter Tryz.func60, Tryz.ntmps60
    go_wp2_with fail
    refine (below_dr (m : Int) h (by omega) (by omega)).mono ?_
    rintro e w1 ⟨k, rfl, ⟨k0, k1⟩, hd⟩
    obtain ⟨K, rfl⟩ := Int.eq_ofNat_of_zero_le k0
    have HD := Lib.hid hd
    clear hd
    go_wp2_with fail
    refine (below_dr 4 HD (by omega) (by omega)).mono ?_
    rintro e w2 ⟨t, rfl, ⟨t0, t1⟩, hd⟩
    have HD2 := Lib.hid hd
    clear hd HD
    have hKm : K < m := by omega
    have hK1 : (K : Int) ≤ (m : Int) := by omega
    have hK2 : (K : Int) + 1 ≤ (m : Int) := by omega
    have hw : IntKind.i64.wrap ((K : Int) + 1) = (K : Int) + 1 := IntWalk.i64_in _ (by omega)
    have z1 : (s.extract 0 K).size = K := by simp [ByteArray.size_extract]; omega
    have z2 : (s.extract K m).size = m - K := by simp [ByteArray.size_extract, hm]
    have z3 : (s.extract (K + 1) m).size = m - (K + 1) := by simp [ByteArray.size_extract, hm]
    by_cases e0 : t = 0
    · subst e0
      go_wp2
      go_quiet (fail)
      go_wp2
      go_ret
      exact ⟨_, rfl, by simp [ByteArray.size_append, ByteArray.size_extract]; omega, HD2.out.drewN _⟩
    · have f0 : (t == 0) = false := by simpa using e0
      by_cases e1 : t = 1
      · subst e1
        clear e0 f0
        go_wp2
        go_region_with ((go_at_call 79; refine (byte_dr HD2.out.drew).mono ?_; rintro e w3 ⟨x, rfl, ⟨x0, x1⟩, hd⟩; have HD3 := Lib.hid hd; clear hd; have hx : IntKind.u8.wrap x = x := IntWalk.u8_in _ (by omega); have kc := conv_byte (P := Tryz.prog) w3 22 9 5 x Tryz.underlying22 Tryz.underlying5 Tryz.underlying9 x0 x1))
        go_wp2
        go_ret
        exact ⟨_, rfl, by simp only [ByteArray.size_append, z1, z2]; show K + 1 + (m - K) ≤ 1003; omega, HD3.out.map fun c hS => (hS.alloc _ _).drop 0⟩
      · have f1 : (t == 1) = false := by simpa using e1
        by_cases e2 : t = 2
        · subst e2
          clear e0 f0 e1 f1
          go_wp2
          go_ret
          exact ⟨_, rfl, by simp [ByteArray.size_extract]; omega, HD2.out⟩
        · have f2 : (t == 2) = false := by simpa using e2
          clear e0 e1 e2
          have HU := Lib.hid (fun E : Int => (show 0 ≤ E % 256 ∧ E % 256 ≤ 255 by omega))
          obtain ⟨y, hy⟩ : ∃ y : UInt8, s[K]'(by omega) = y := ⟨_, rfl⟩
          have hyb : y.toNat < 256 := y.toNat_lt
          have hy1 : IntKind.i64.wrap (y.toNat : Int) = (y.toNat : Int) := IntWalk.i64_in _ (by omega)
          have hy2 : wrap64 (y.toNat : Int) = (y.toNat : Int) := IntWalk.wrap64_in _ (by omega)
          go_wp2
          go_region_with ((go_at_call 62; refine (below_dr 255 (Lib.hid HD2.out.drew) (by omega) (by omega)).mono ?_; rintro e w3 ⟨x, rfl, ⟨x0, x1⟩, hd⟩; have HD3 := Lib.hid hd; clear hd; have h1x : IntKind.i64.wrap (1 + x) = 1 + x := IntWalk.i64_in _ (by omega); obtain ⟨z, hz1, hz2, kc⟩ := spoil_byte w3 (bits BinOp.xor IntKind.i64 (y.toNat : Int) (1 + x))))
          all_goals
            go_wp2
            go_ret
            exact ⟨_, rfl, by simp only [ByteArray.size_append, z1, z3]; show K + 1 + (m - (K + 1)) ≤ 1003; omega, HD3.out.map fun c hS => (hS.alloc _ _).drop 0⟩

end


end Go.Proofs.YtielfnjkfceliaaGreatDoor.C
